/-
  For any numbers package cycle tells where there is first something in common, and what, as the document tells it, or what is wrong; with no condition.
-/
import Derived.Test.YtjfgnpgbphdalaaRows
import Derived.Test.YtjfgnpgbphdalaaCalls55
import Derived.WalkKit
import Derived.ProofKit
import Derived.OpenShut
namespace Go.Proofs.Ytjfgnpgbphdalaa.cycleSplits
open Go.Proofs.Ytjfgnpgbphdalaa.Num Go.Proofs.Ytjfgnpgbphdalaa.Num13 Go.Proofs.Ytjfgnpgbphdalaa.Num18 Go.Proofs.Ytjfgnpgbphdalaa.Num33 Go.Proofs.Ytjfgnpgbphdalaa.Calls8 Go.Proofs.Ytjfgnpgbphdalaa.Calls9 Go.Proofs.Ytjfgnpgbphdalaa.Calls19 Go.Proofs.Ytjfgnpgbphdalaa.Calls20 Go.Proofs.Ytjfgnpgbphdalaa.Calls54 Go.Proofs.Ytjfgnpgbphdalaa.Calls55
open Go.ChangeShapes Go.WideShapes Go.ChangeAt Go.RowKit
set_option linter.unusedVariables false      -- a walk need not use every 'w<i>' (that an integer argument fits its kind)

theorem own : ownKnob Try.prog.godebug = none := by kernel_rfl

theorem walk (a0 : Int) (a1 : Int) (a2 : Int) (w0 : (Lit.int .i64 a0).wf = true) (w1 : (Lit.int .i64 a1).wf = true) (w2 : (Lit.int .i64 a2).wf = true) (w : World) :
    Calls Try.prog 4 #[.int .i64 a0, .int .i64 a1, .int .i64 a2] w fun e w' => e = .returned (.bool true) ∧ Below w.heap.size w w' := by
  obtain ⟨k1, k2, cB, cM, cF⟩ := gate2 a0 a2 a1
  by_cases h : (Nr a0 ∧ Nr a2) ∧ Md a1
  · rw [if_pos h] at cF
    obtain ⟨⟨hc, hx⟩, hm1, hm2⟩ := h
    obtain ⟨n, rfl⟩ : ∃ n : Nat, a1 = (n : Int) := ⟨a1.toNat, by omega⟩
    by_cases h1 : n = 1
    · subst h1
      have cC := fun w => Split_one a0 a2 hc hx w
      clear hc hx
      go_enter Try.func4, Try.ntmps4
      go_wp2_with (first | (go_at_call 12; refine (cC _).mono ?_; rintro e w_hB1 ⟨rfl, hB1⟩) | (go_at_call 9; refine (cB _).mono ?_; rintro e w' ⟨rfl, hw⟩; subst w') | (go_at_call 10; refine (cM _).mono ?_; rintro e w' ⟨rfl, hw⟩; subst w') | (go_at_call 8; refine (cF _).mono ?_; rintro e w' ⟨rfl, hw⟩; subst w'))
      go_ret
      exact ⟨rfl, hB1⟩
    · obtain ⟨t, s, hR, hts⟩ := wk_rho (c := rs a0 n) (rs_lt a2 (show 1 ≤ n by omega))
      obtain ⟨m, hm, hml⟩ := fst_ex hR (by omega)
      have cC := fun w => Split_yes a0 a2 n m hc hx (by omega) (by omega) hm (by omega) w
      have cR := fun w => refSplit_any a0 a2 n m (by omega) (by omega) hm (by omega) w
      have e1 : ((n : Int) == 1) = false := beq_one (by omega)
      have e2 : ¬ (n : Int) = 1 := by omega
      generalize cm (rs a0 n) n (rs a2 n) m = g at cC cR
      clear hR hc hx hm h1
      go_enter Try.func4, Try.ntmps4
      go_wp2_with (first | (go_at_call 12; refine (cC _).mono ?_; rintro e w_hB1 ⟨rfl, hB1⟩) | (go_at_call 9; refine (cB _).mono ?_; rintro e w' ⟨rfl, hw⟩; subst w') | (go_at_call 10; refine (cM _).mono ?_; rintro e w' ⟨rfl, hw⟩; subst w') | (go_at_call 8; refine (cF _).mono ?_; rintro e w' ⟨rfl, hw⟩; subst w') | (go_at_call 13; refine (cR _).mono ?_; rintro e w_hB2 ⟨rfl, hB2⟩))
      go_ret
      exact ⟨rfl, below_trans hB1 hB2⟩
  · rw [if_neg h] at cF
    have cC := fun w => Split_far a0 a1 a2 h w
    clear h
    go_enter Try.func4, Try.ntmps4
    go_wp2_with (first | (go_at_call 12; refine (cC _).mono ?_; rintro e w_hB1 ⟨rfl, hB1⟩) | (go_at_call 9; refine (cB _).mono ?_; rintro e w' ⟨rfl, hw⟩; subst w') | (go_at_call 10; refine (cM _).mono ?_; rintro e w' ⟨rfl, hw⟩; subst w') | (go_at_call 8; refine (cF _).mono ?_; rintro e w' ⟨rfl, hw⟩; subst w'))
    go_ret
    exact ⟨rfl, hB1⟩

/-! ### THE ROW's STEP: WRITTEN OUT: LEAVE IT -/
set_option maxRecDepth 100000 in
theorem lifted (os : Os) (started : os.Started) (H : Type) (enc : TypeId × Value → H) :
    ReturnsInHanded {} Try.checked os 4 .any (Rows.cycleSplitsSpec.pre6 enc Try.prog Try.f4 Rows.cycleSplitsRow.domain false) (Rows.cycleSplitsSpec.post enc Try.prog Try.f4 false true false false) := by
  refine returnsInHanded_of_change (C := Try.checked) own started (by kernel_rfl) Try.func4
    (ChangeSpec.witness6 (enc := enc) (C := Try.checked) false ⟨#[], #[.int .i64 0, .int .i64 0, .int .i64 0], []⟩ 8 (by kernel_rfl) (by kernel_rfl) (by kernel_rfl) (by kernel_rfl)) ?_
  intro W base args ds gs before hval0 hW hcnd _
  have hval : ∀ (j : Nat) t v, Try.f4.params[j]? = some t → args[j]? = some v → Value.okWide Try.prog W .any base t v := hval0
  have hW' := hW
  obtain ⟨p, q, hA0, hV, rfl, hfz, hnd⟩ := hW
  have hA : DataW.TrodAll enc Try.prog W 0 (fun _ => true) true Try.f4.params.toList args.toList ds p := hA0
  rw [Try.params4] at hA hval
  obtain ⟨v0, vs0, d0, ds0, p0, q0, hargs, rfl, rfl, h0, r0⟩ := trodAll_cons hA
  obtain ⟨v1, vs1, d1, ds1, p1, q1, rfl, rfl, rfl, h1, r1⟩ := trodAll_cons r0
  obtain ⟨v2, vs2, d2, ds2, p2, q2, rfl, rfl, rfl, h2, r2⟩ := trodAll_cons r1
  obtain ⟨rfl, rfl, rfl⟩ := trodAll_nil r2
  obtain rfl : args = #[v0, v1, v2] := by cases args; simp_all
  obtain ⟨rfl, rfl⟩ := trodVars_none hV
  obtain ⟨a0, rfl, rfl, rfl, w0⟩ := open_int Try.underlying2 (hval 0 2 v0 rfl rfl) h0
  obtain ⟨a1, rfl, rfl, rfl, w1⟩ := open_int Try.underlying2 (hval 1 2 v1 rfl rfl) h1
  obtain ⟨a2, rfl, rfl, rfl, w2⟩ := open_int Try.underlying2 (hval 2 2 v2 rfl rfl) h2
  clear hA0 hval0
  simp only [List.append_nil] at hW'
  refine (walk a0 a1 a2 w0 w1 w2 W).mono fun e W' ⟨he, hg⟩ => ?_
  subst he
  exact ⟨_, rfl, post_of_kept (pa := []) (pv := []) hW' (fun _ _ _ => (trodAll_cons_mk (shut_bool Try.underlying4 _) trodAll_mk0)) (fun sp _ => (trodAll_cons_mk (shut_int Try.underlying2 w0) (trodAll_cons_mk (shut_int Try.underlying2 w1) (trodAll_cons_mk (shut_int Try.underlying2 w2) trodAll_mk0)))) (fun _ _ => rfl) rfl
    (hg.frame _)⟩

theorem over : Rows.cycleSplitsRow.holds Try.pinned (OpenSpec.ofChange Rows.cycleSplitsSpec) :=
  OpenClaim.holds_of_wide 4 Try.f4 rfl rfl rfl rfl rfl rfl rfl ⟨rfl, rfl, rfl, rfl, rfl⟩ rfl rfl rfl rfl rfl (by kernel_rfl) Try.func4 (by kernel_rfl)
    (of_decide_eq_true (by kernel_rfl)) (by unfold Func.isWrapper; first | (rw [if_pos (by decide +kernel)]; kernel_rfl) | (rw [if_neg (by decide +kernel)]; exact ⟨rfl, rfl⟩))
    (fun os started H enc _ => lifted os started H enc)

/-- ████ THE STATEMENT ████ -/
theorem proved : Rows.CycleSplitsSaid :=
  over
end Go.Proofs.Ytjfgnpgbphdalaa.cycleSplits
