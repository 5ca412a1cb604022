/-
  For any number the program tells the proof that it is a prime, line for line that of the document, or that it is none: with no condition.
-/
import Derived.Test.YtmomlcibiklajaaRows
import Derived.Test.YtmomlcibiklajaaCalls46
import Derived.Test.YtmomlcibiklajaaCalls48
import Derived.Test.YtmomlcibiklajaaCalls50
import Derived.WalkKit
import Derived.ProofKit
import Derived.OpenShut
namespace Go.Proofs.Ytmomlcibiklajaa.prattMakes
open Go.Proofs.Ytmomlcibiklajaa.Base Go.Proofs.Ytmomlcibiklajaa.Num19 Go.Proofs.Ytmomlcibiklajaa.Num31 Go.Proofs.Ytmomlcibiklajaa.Calls35 Go.Proofs.Ytmomlcibiklajaa.Calls36 Go.Proofs.Ytmomlcibiklajaa.Calls41 Go.Proofs.Ytmomlcibiklajaa.Calls46 Go.Proofs.Ytmomlcibiklajaa.Calls48 Go.Proofs.Ytmomlcibiklajaa.Calls50
open Go.ChangeShapes Go.WideShapes Go.ChangeAt Go.RowKit
set_option linter.unusedVariables false      -- a walk need not use every 'w<i>' (that an integer argument fits its kind)

theorem own : ownKnob Try.prog.godebug = none := by kernel_rfl

set_option maxRecDepth 100000 in
theorem walk_prime (n : Nat) (hn : Num.Pr n) (hn2 : n ≤ 1048576) (w : World) :
    Calls Try.prog 4 #[.int .i64 (n : Int)] w fun e w' => e = .returned (.bool true) ∧ Below w.heap.size w w' := by
  have hn1 := hn.1
  have cM := fun w => Make_yes n hn hn2 w
  have cK := fun w => Calls9.modulus_yes (n : Int) (by omega) (by omega) w
  have cI := fun w => Calls9.refIs_any n hn2 w
  rw [(Calls9.prB_iff n).2 hn] at cI
  have cP := hid (fun R (hR : Rise n R) w => refProof_any n hn hn2 R hR w)
  have HPR := hid hn
  clear hn
  go_enter Try.func4, Try.ntmps4
  go_wp2_with (first
    | (go_at_call 9; refine (cM _).mono ?_; rintro e w1 ⟨⟨a, cap, R, ls, rfl, hR, hP, hrow, hcap⟩, hB1⟩; have HR := hid hR; have HP := hid hP; have HRow := hid hrow; have hl21 : ls.length ≤ 21 := (by rw [hP.1]; exact need_len HPR.out hn2 (asc_nodup hR.1) (fun q hq => (hR.2 q).1 hq)); clear hR hP hrow)
    | (go_at_call 10; refine (cK _).mono ?_; rintro e w2 ⟨rfl, hw⟩; subst w2)
    | (go_at_call 11; refine (cI _).mono ?_; rintro e w2 ⟨rfl, hw⟩; subst w2)
    | (go_at_call 13; refine (cP.out R HR.out _).mono ?_; rintro e w3 ⟨⟨b, cb, ms, rfl, hPm, hrowm⟩, hB3⟩; obtain rfl := HP.out.uniq HR.out.1 hPm; have cL := hid (Lines_same a b cap cb ls (by omega) w3 (lrow_below HRow.out hB3 (Nat.le_refl _)) hrowm); clear hPm hrowm)
    | (go_at_call 12; refine cL.out.mono ?_; rintro e w4 ⟨rfl, d, hw⟩; subst w4))
  go_ret
  exact ⟨rfl, below_drewN (below_trans hB1 hB3) _⟩

theorem walk (a0 : Int) (w0 : (Lit.int .i64 a0).wf = true) (w : World) :
    Calls Try.prog 4 #[.int .i64 a0] w fun e w' => e = .returned (.bool true) ∧ Below w.heap.size w w' := by
  by_cases hm : 1 ≤ a0 ∧ a0 ≤ 1048576
  · obtain ⟨n, rfl⟩ : ∃ m : Nat, a0 = (m : Int) := ⟨a0.toNat, by omega⟩
    have h1 : 1 ≤ n := by omega
    have h2 : n ≤ 1048576 := by omega
    cases hp : Calls9.prB n with
    | true => exact walk_prime n ((Calls9.prB_iff n).1 hp) h2 w
    | false =>
      have cM := fun w => Make_no n h1 h2 hp w
      have cK := fun w => Calls9.modulus_yes (n : Int) (by omega) (by omega) w
      have cI := fun w => Calls9.refIs_any n h2 w
      rw [hp] at cI
      clear hm w0 hp
      go_enter Try.func4, Try.ntmps4
      go_wp2_with (first
        | (go_at_call 9; refine (cM _).mono ?_; rintro e w1 ⟨rfl, hB1⟩)
        | (go_at_call 10; refine (cK _).mono ?_; rintro e w2 ⟨rfl, hw⟩; subst w2)
        | (go_at_call 11; refine (cI _).mono ?_; rintro e w2 ⟨rfl, hw⟩; subst w2))
      go_ret
      exact ⟨rfl, hB1⟩
  · have cM := fun w => Make_out a0 hm w
    have cK := fun w => Calls9.modulus_no a0 hm w
    clear hm w0
    go_enter Try.func4, Try.ntmps4
    go_wp2_with (first
      | (go_at_call 9; refine (cM _).mono ?_; rintro e w1 ⟨rfl, hB1⟩)
      | (go_at_call 10; refine (cK _).mono ?_; rintro e w2 ⟨rfl, hw⟩; subst w2))
    go_ret
    exact ⟨rfl, hB1⟩

/-! ### THE ROW's STEP: WRITTEN OUT: LEAVE IT -/
set_option maxRecDepth 100000 in
theorem lifted (os : Os) (started : os.Started) (H : Type) (enc : TypeId × Value → H) :
    ReturnsInHanded {} Try.checked os 4 .any (Rows.prattMakesSpec.pre6 enc Try.prog Try.f4 Rows.prattMakesRow.domain false) (Rows.prattMakesSpec.post enc Try.prog Try.f4 false true false false) := by
  refine returnsInHanded_of_change (C := Try.checked) own started (by kernel_rfl) Try.func4
    (ChangeSpec.witness6 (enc := enc) (C := Try.checked) false ⟨#[], #[.int .i64 0], []⟩ 8 (by kernel_rfl) (by kernel_rfl) (by kernel_rfl) (by kernel_rfl)) ?_
  intro W base args ds gs before hval0 hW hcnd _
  have hval : ∀ (j : Nat) t v, Try.f4.params[j]? = some t → args[j]? = some v → Value.okWide Try.prog W .any base t v := hval0
  have hW' := hW
  obtain ⟨p, q, hA0, hV, rfl, hfz, hnd⟩ := hW
  have hA : DataW.TrodAll enc Try.prog W 0 (fun _ => true) true Try.f4.params.toList args.toList ds p := hA0
  rw [Try.params4] at hA hval
  obtain ⟨v0, vs0, d0, ds0, p0, q0, hargs, rfl, rfl, h0, r0⟩ := trodAll_cons hA
  obtain ⟨rfl, rfl, rfl⟩ := trodAll_nil r0
  obtain rfl : args = #[v0] := by cases args; simp_all
  obtain ⟨rfl, rfl⟩ := trodVars_none hV
  obtain ⟨a0, rfl, rfl, rfl, w0⟩ := open_int Try.underlying2 (hval 0 2 v0 rfl rfl) h0
  clear hA0 hval0
  simp only [List.append_nil] at hW'
  refine (walk a0 w0 W).mono fun e W' ⟨he, hg⟩ => ?_
  subst he
  exact ⟨_, rfl, post_of_kept (pa := []) (pv := []) hW' (fun _ _ _ => (trodAll_cons_mk (shut_bool Try.underlying4 _) trodAll_mk0)) (fun sp _ => (trodAll_cons_mk (shut_int Try.underlying2 w0) trodAll_mk0)) (fun _ _ => rfl) rfl
    (hg.frame _)⟩

theorem over : Rows.prattMakesRow.holds Try.pinned (OpenSpec.ofChange Rows.prattMakesSpec) :=
  OpenClaim.holds_of_wide 4 Try.f4 rfl rfl rfl rfl rfl rfl rfl ⟨rfl, rfl, rfl, rfl, rfl⟩ rfl rfl rfl rfl rfl (by kernel_rfl) Try.func4 (by kernel_rfl)
    (of_decide_eq_true (by kernel_rfl)) (by unfold Func.isWrapper; first | (rw [if_pos (by decide +kernel)]; kernel_rfl) | (rw [if_neg (by decide +kernel)]; exact ⟨rfl, rfl⟩))
    (fun os started H enc _ => lifted os started H enc)

/-- ████ THE STATEMENT ████ -/
theorem proved : Rows.PrattMakesSaid :=
  over
end Go.Proofs.Ytmomlcibiklajaa.prattMakes
