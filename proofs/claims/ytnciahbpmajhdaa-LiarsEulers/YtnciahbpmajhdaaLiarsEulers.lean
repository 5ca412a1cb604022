/-
  For all numbers a and n: the program tells whether a to the half of n less 1 leaves what Jacobi has of a by n, and not 0, as the document does; and what is out of range is refused.
-/
import Derived.Test.YtnciahbpmajhdaaRows
import Derived.Test.YtnciahbpmajhdaaCalls30
import Derived.Test.YtnciahbpmajhdaaCalls33
import Derived.WalkKit
import Derived.ProofKit
import Derived.OpenShut
namespace Go.Proofs.Ytnciahbpmajhdaa.liarsEulers
open Go.Proofs.Ytnciahbpmajhdaa.Num Go.Proofs.Ytnciahbpmajhdaa.Num3 Go.Proofs.Ytnciahbpmajhdaa.Num9 Go.Proofs.Ytnciahbpmajhdaa.Num10 Go.Proofs.Ytnciahbpmajhdaa.Num13 Go.Proofs.Ytnciahbpmajhdaa.Num29 Go.Proofs.Ytnciahbpmajhdaa.Num30 Go.Proofs.Ytnciahbpmajhdaa.Calls8 Go.Proofs.Ytnciahbpmajhdaa.Calls9 Go.Proofs.Ytnciahbpmajhdaa.Calls11 Go.Proofs.Ytnciahbpmajhdaa.Calls19 Go.Proofs.Ytnciahbpmajhdaa.Calls20 Go.Proofs.Ytnciahbpmajhdaa.Calls29 Go.Proofs.Ytnciahbpmajhdaa.Calls30 Go.Proofs.Ytnciahbpmajhdaa.Calls32 Go.Proofs.Ytnciahbpmajhdaa.Calls33
open Go.ChangeShapes Go.WideShapes Go.ChangeAt Go.RowKit
set_option linter.unusedVariables false      -- a walk need not use every 'w<i>' (that an integer argument fits its kind)

theorem own : ownKnob Try.prog.godebug = none := by kernel_rfl

theorem walk (a0 : Int) (a1 : Int) (w0 : (Lit.int .i64 a0).wf = true) (w1 : (Lit.int .i64 a1).wf = true) (w : World) :
    Calls Try.prog 4 #[.int .i64 a0, .int .i64 a1] w fun e w' => e = .returned (.bool true) ∧ Below w.heap.size w w' := by
  by_cases hg : Nr a0 ∧ Om a1
  · have cO := fun w => odd_yes a0 a1 hg.1 hg.2 w
    obtain ⟨hn, m1, m2, m3⟩ := hg
    obtain ⟨n, rfl⟩ : ∃ m : Nat, a1 = (m : Int) := ⟨a1.toNat, by omega⟩
    obtain ⟨J, hJ⟩ := JJ.ex a0 (n := n) (by omega)
    have cL := fun w => Euler_yes a0 J n hn (by omega) (by omega) hJ (by omega) w
    have cJ := fun w => refJacobi_any a0 n J (by omega) (by omega) hJ w
    have cP := fun w => refPow_any a0 n (by omega) (by omega) ((n - 1) / 2) w (by omega)
    rw [show (((n - 1) / 2 : Nat) : Int) = ((n : Int) - 1) / 2 by omega] at cP
    have cM := fun w => refMod_at J n w (by omega) (by omega)
    by_cases h0 : J = 0
    · subst h0
      rw [show euB a0 n 0 = false by unfold euB; exact decide_eq_false (fun h => h.1 rfl)] at cL
      clear hn m3 hJ
      go_enter Try.func4, Try.ntmps4
      go_wp2_with (first | (go_at_call 12; refine (cL _).mono ?_; rintro e w_hB1 ⟨rfl, hB1⟩) | (go_at_call 10; refine (cO _).mono ?_; rintro e w' ⟨rfl, hw⟩; subst w') | (go_at_call 13; refine (cJ _).mono ?_; rintro e w_hB2 ⟨rfl, hB2⟩) | (go_at_call 11; refine (cP _).mono ?_; rintro e w' ⟨rfl, hw⟩; subst w') | (go_at_call 14; refine (cM _).mono ?_; rintro e w' ⟨rfl, hw⟩; subst w'))
      go_ret
      exact ⟨rfl, below_trans hB1 hB2⟩
    · have h0' := bne_t h0
      by_cases h1 : pw a0 ((n - 1) / 2) n = rs J n
      · rw [show euB a0 n J = true by unfold euB; exact decide_eq_true ⟨h0, h1⟩] at cL
        rw [h1] at cP
        clear h1 hn m3 hJ
        go_enter Try.func4, Try.ntmps4
        go_wp2_with (first | (go_at_call 12; refine (cL _).mono ?_; rintro e w_hB1 ⟨rfl, hB1⟩) | (go_at_call 10; refine (cO _).mono ?_; rintro e w' ⟨rfl, hw⟩; subst w') | (go_at_call 13; refine (cJ _).mono ?_; rintro e w_hB2 ⟨rfl, hB2⟩) | (go_at_call 11; refine (cP _).mono ?_; rintro e w' ⟨rfl, hw⟩; subst w') | (go_at_call 14; refine (cM _).mono ?_; rintro e w' ⟨rfl, hw⟩; subst w'))
        go_ret
        exact ⟨rfl, below_trans hB1 hB2⟩
      · rw [show euB a0 n J = false by unfold euB; exact decide_eq_false (fun h => h1 h.2)] at cL
        have h1' := beq_f (show ¬ ((pw a0 ((n - 1) / 2) n : Nat) : Int) = ((rs J n : Nat) : Int) by omega)
        clear h1 hn m3 hJ
        go_enter Try.func4, Try.ntmps4
        go_wp2_with (first | (go_at_call 12; refine (cL _).mono ?_; rintro e w_hB1 ⟨rfl, hB1⟩) | (go_at_call 10; refine (cO _).mono ?_; rintro e w' ⟨rfl, hw⟩; subst w') | (go_at_call 13; refine (cJ _).mono ?_; rintro e w_hB2 ⟨rfl, hB2⟩) | (go_at_call 11; refine (cP _).mono ?_; rintro e w' ⟨rfl, hw⟩; subst w') | (go_at_call 14; refine (cM _).mono ?_; rintro e w' ⟨rfl, hw⟩; subst w'))
        go_ret
        exact ⟨rfl, below_trans hB1 hB2⟩
  · have cO := fun w => odd_no a0 a1 hg w
    have cL := fun w => Euler_no a0 a1 hg w
    clear hg
    go_enter Try.func4, Try.ntmps4
    go_wp2_with (first | (go_at_call 12; refine (cL _).mono ?_; rintro e w_hB1 ⟨rfl, hB1⟩) | (go_at_call 10; refine (cO _).mono ?_; rintro e w' ⟨rfl, hw⟩; subst w'))
    go_ret
    exact ⟨rfl, hB1⟩

/-! ### THE ROW's STEP: WRITTEN OUT: LEAVE IT -/
set_option maxRecDepth 100000 in
theorem lifted (os : Os) (started : os.Started) (H : Type) (enc : TypeId × Value → H) :
    ReturnsInHanded {} Try.checked os 4 .any (Rows.liarsEulersSpec.pre6 enc Try.prog Try.f4 Rows.liarsEulersRow.domain false) (Rows.liarsEulersSpec.post enc Try.prog Try.f4 false true false false) := by
  refine returnsInHanded_of_change (C := Try.checked) own started (by kernel_rfl) Try.func4
    (ChangeSpec.witness6 (enc := enc) (C := Try.checked) false ⟨#[], #[.int .i64 0, .int .i64 0], []⟩ 8 (by kernel_rfl) (by kernel_rfl) (by kernel_rfl) (by kernel_rfl)) ?_
  intro W base args ds gs before hval0 hW hcnd _
  have hval : ∀ (j : Nat) t v, Try.f4.params[j]? = some t → args[j]? = some v → Value.okWide Try.prog W .any base t v := hval0
  have hW' := hW
  obtain ⟨p, q, hA0, hV, rfl, hfz, hnd⟩ := hW
  have hA : DataW.TrodAll enc Try.prog W 0 (fun _ => true) true Try.f4.params.toList args.toList ds p := hA0
  rw [Try.params4] at hA hval
  obtain ⟨v0, vs0, d0, ds0, p0, q0, hargs, rfl, rfl, h0, r0⟩ := trodAll_cons hA
  obtain ⟨v1, vs1, d1, ds1, p1, q1, rfl, rfl, rfl, h1, r1⟩ := trodAll_cons r0
  obtain ⟨rfl, rfl, rfl⟩ := trodAll_nil r1
  obtain rfl : args = #[v0, v1] := by cases args; simp_all
  obtain ⟨rfl, rfl⟩ := trodVars_none hV
  obtain ⟨a0, rfl, rfl, rfl, w0⟩ := open_int Try.underlying2 (hval 0 2 v0 rfl rfl) h0
  obtain ⟨a1, rfl, rfl, rfl, w1⟩ := open_int Try.underlying2 (hval 1 2 v1 rfl rfl) h1
  clear hA0 hval0
  simp only [List.append_nil] at hW'
  refine (walk a0 a1 w0 w1 W).mono fun e W' ⟨he, hg⟩ => ?_
  subst he
  exact ⟨_, rfl, post_of_kept (pa := []) (pv := []) hW' (fun _ _ _ => (trodAll_cons_mk (shut_bool Try.underlying4 _) trodAll_mk0)) (fun sp _ => (trodAll_cons_mk (shut_int Try.underlying2 w0) (trodAll_cons_mk (shut_int Try.underlying2 w1) trodAll_mk0))) (fun _ _ => rfl) rfl
    (hg.frame _)⟩

theorem over : Rows.liarsEulersRow.holds Try.pinned (OpenSpec.ofChange Rows.liarsEulersSpec) :=
  OpenClaim.holds_of_wide 4 Try.f4 rfl rfl rfl rfl rfl rfl rfl ⟨rfl, rfl, rfl, rfl, rfl⟩ rfl rfl rfl rfl rfl (by kernel_rfl) Try.func4 (by kernel_rfl)
    (of_decide_eq_true (by kernel_rfl)) (by unfold Func.isWrapper; first | (rw [if_pos (by decide +kernel)]; kernel_rfl) | (rw [if_neg (by decide +kernel)]; exact ⟨rfl, rfl⟩))
    (fun os started H enc _ => lifted os started H enc)

/-- ████ THE STATEMENT ████ -/
theorem proved : Rows.LiarsEulersSaid :=
  over
end Go.Proofs.Ytnciahbpmajhdaa.liarsEulers
