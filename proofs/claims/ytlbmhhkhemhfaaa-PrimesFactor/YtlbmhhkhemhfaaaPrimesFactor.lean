/-
  For any number the program tells its primes: with no condition.
-/
import Derived.Test.YtlbmhhkhemhfaaaRows
import Derived.Test.YtlbmhhkhemhfaaaCalls12
import Derived.Test.YtlbmhhkhemhfaaaCalls13
import Derived.WalkKit
import Derived.ProofKit
import Derived.OpenShut
namespace Go.Proofs.Ytlbmhhkhemhfaaa.primesFactor
open Go.Proofs.Ytlbmhhkhemhfaaa.Num Go.Proofs.Ytlbmhhkhemhfaaa.Calls7 Go.Proofs.Ytlbmhhkhemhfaaa.Calls8 Go.Proofs.Ytlbmhhkhemhfaaa.Calls9 Go.Proofs.Ytlbmhhkhemhfaaa.Calls11 Go.Proofs.Ytlbmhhkhemhfaaa.Calls12 Go.Proofs.Ytlbmhhkhemhfaaa.Calls13
open Go.ChangeShapes Go.WideShapes Go.ChangeAt Go.RowKit
set_option linter.unusedVariables false      -- a walk need not use every 'w<i>' (that an integer argument fits its kind)

theorem own : ownKnob Try.prog.godebug = none := by kernel_rfl

set_option maxRecDepth 100000 in
theorem walk (a0 : Int) (w0 : (Lit.int .i64 a0).wf = true) (w : World) :
    Calls Try.prog 4 #[.int .i64 a0] w fun e w' => e = .returned (.bool true) ∧ Below w.heap.size w w' := by
  by_cases hm : 1 ≤ a0 ∧ a0 ≤ 1048576
  · obtain ⟨m, rfl⟩ : ∃ m : Nat, a0 = (m : Int) := ⟨a0.toNat, by omega⟩
    have h1 : 1 ≤ m := by omega
    have h2 : m ≤ 1048576 := by omega
    clear hm w0
    go_enter Try.func4, Try.ntmps4
    go_wp2_with (first
      | (go_at_call 12; refine (Factor_yes m h1 h2 _).mono ?_; rintro e w1 ⟨l, v, rfl, hF, hown, hB⟩; obtain ⟨ao, cap, rfl, hrow⟩ := prow_of_owns hown; have hblk := owns_block' hown; have HF := hid hF; clear hF hown)
      | (go_at_call 10; refine (modulus_yes _ (by omega) (by omega) _).mono ?_; rintro e w' ⟨rfl, hw⟩; subst w')
      | (go_at_call 14; refine (refFactor_any m h1 h2 _).mono ?_; rintro e w2 ⟨l2, v2, rfl, hF2, hown2, hB2⟩; obtain ⟨ao2, cap2, rfl, hrow2⟩ := prow_of_owns hown2; have hrow' := prow_below hrow hB2 (fun ad' e => .inr (hblk ad' e).2); have HF2 := hid hF2; clear hF2 hown2 hrow hblk)
      | (go_at_call 13; refine (Powers_any _ _ _ _ _ _ (fac_ints HF.out h2) (fac_ints HF2.out h2) _ hrow' hrow2).mono ?_; rw [decide_eq_true (show ints l = ints l2 by rw [HF.out.unique HF2.out])]; rintro e w3 ⟨rfl, k, rfl⟩))
    go_ret
    exact ⟨rfl, below_drewN (below_trans hB hB2) _⟩
  · have H : Hid (¬ (1 ≤ a0 ∧ a0 ≤ 1048576)) := hm
    clear hm w0
    go_enter Try.func4, Try.ntmps4
    go_wp2_with (first
      | (go_at_call 12; refine (Factor_no _ H.out _).mono ?_; rintro e w' ⟨rfl, hg⟩)
      | (go_at_call 10; refine (modulus_no _ H.out _).mono ?_; rintro e w' ⟨rfl, rfl⟩))
    go_ret
    exact ⟨rfl, hg⟩

/-! ### THE ROW's STEP: WRITTEN OUT: LEAVE IT -/
set_option maxRecDepth 100000 in
theorem lifted (os : Os) (started : os.Started) (H : Type) (enc : TypeId × Value → H) :
    ReturnsInHanded {} Try.checked os 4 .any (Rows.primesFactorSpec.pre6 enc Try.prog Try.f4 Rows.primesFactorRow.domain false) (Rows.primesFactorSpec.post enc Try.prog Try.f4 false true false false) := by
  refine returnsInHanded_of_change (C := Try.checked) own started (by kernel_rfl) Try.func4
    (ChangeSpec.witness6 (enc := enc) (C := Try.checked) false ⟨#[], #[.int .i64 0], []⟩ 8 (by kernel_rfl) (by kernel_rfl) (by kernel_rfl) (by kernel_rfl)) ?_
  intro W base args ds gs before hval0 hW hcnd _
  have hval : ∀ (j : Nat) t v, Try.f4.params[j]? = some t → args[j]? = some v → Value.okWide Try.prog W .any base t v := hval0
  have hW' := hW
  obtain ⟨p, q, hA0, hV, rfl, hfz, hnd⟩ := hW
  have hA : DataW.TrodAll enc Try.prog W 0 (fun _ => true) true Try.f4.params.toList args.toList ds p := hA0
  rw [Try.params4] at hA hval
  obtain ⟨v0, vs0, d0, ds0, p0, q0, hargs, rfl, rfl, h0, r0⟩ := trodAll_cons hA
  obtain ⟨rfl, rfl, rfl⟩ := trodAll_nil r0
  obtain rfl : args = #[v0] := by cases args; simp_all
  obtain ⟨rfl, rfl⟩ := trodVars_none hV
  obtain ⟨a0, rfl, rfl, rfl, w0⟩ := open_int Try.underlying2 (hval 0 2 v0 rfl rfl) h0
  clear hA0 hval0
  simp only [List.append_nil] at hW'
  refine (walk a0 w0 W).mono fun e W' ⟨he, hg⟩ => ?_
  subst he
  exact ⟨_, rfl, post_of_kept (pa := []) (pv := []) hW' (fun _ _ _ => (trodAll_cons_mk (shut_bool Try.underlying4 _) trodAll_mk0)) (fun sp _ => (trodAll_cons_mk (shut_int Try.underlying2 w0) trodAll_mk0)) (fun _ _ => rfl) rfl
    (hg.frame _)⟩

theorem over : Rows.primesFactorRow.holds Try.pinned (OpenSpec.ofChange Rows.primesFactorSpec) :=
  OpenClaim.holds_of_wide 4 Try.f4 rfl rfl rfl rfl rfl rfl rfl ⟨rfl, rfl, rfl, rfl, rfl⟩ rfl rfl rfl rfl rfl (by kernel_rfl) Try.func4 (by kernel_rfl)
    (of_decide_eq_true (by kernel_rfl)) (by unfold Func.isWrapper; first | (rw [if_pos (by decide +kernel)]; kernel_rfl) | (rw [if_neg (by decide +kernel)]; exact ⟨rfl, rfl⟩))
    (fun os started H enc _ => lifted os started H enc)

/-- ████ THE STATEMENT ████ -/
theorem proved : Rows.PrimesFactorSaid :=
  over
end Go.Proofs.Ytlbmhhkhemhfaaa.primesFactor
