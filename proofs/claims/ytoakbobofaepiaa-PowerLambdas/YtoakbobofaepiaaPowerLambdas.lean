/-
  For all numbers m: the program tells the least k above 0 for which all powers that are ever what 1 leaves are so, divided by m, or what is wrong with m, as the document's count does.
-/
import Derived.Test.YtoakbobofaepiaaRows
import Derived.Test.YtoakbobofaepiaaCalls22
import Derived.Test.YtoakbobofaepiaaCalls23
import Derived.WalkKit
import Derived.ProofKit
import Derived.OpenShut
namespace Go.Proofs.Ytoakbobofaepiaa.powerLambdas
open Go.Proofs.Ytoakbobofaepiaa.Num6 Go.Proofs.Ytoakbobofaepiaa.Num8 Go.Proofs.Ytoakbobofaepiaa.Num13 Go.Proofs.Ytoakbobofaepiaa.Calls8 Go.Proofs.Ytoakbobofaepiaa.Calls9 Go.Proofs.Ytoakbobofaepiaa.Calls19 Go.Proofs.Ytoakbobofaepiaa.Calls20 Go.Proofs.Ytoakbobofaepiaa.Calls22 Go.Proofs.Ytoakbobofaepiaa.Calls23
open Go.ChangeShapes Go.WideShapes Go.ChangeAt Go.RowKit
set_option linter.unusedVariables false      -- a walk need not use every 'w<i>' (that an integer argument fits its kind)

theorem own : ownKnob Try.prog.godebug = none := by kernel_rfl

theorem walk (a0 : Int) (w0 : (Lit.int .i64 a0).wf = true) (w : World) :
    Calls Try.prog 5 #[.int .i64 a0] w fun e w' => e = .returned (.bool true) ∧ Below w.heap.size w w' := by
  by_cases hg : Md a0
  · obtain ⟨m1, m2⟩ := hg
    obtain ⟨m, rfl⟩ : ∃ m : Nat, a0 = (m : Int) := ⟨a0.toNat, by omega⟩
    have hm1 : 1 ≤ m := by omega
    have hm2 : m ≤ 1048576 := by omega
    obtain ⟨L, hL⟩ := lam_ex hm1
    have cO := fun w => Lambda_yes m L hm1 hm2 hL w
    have cM := fun w => modulus_yes (m : Int) m1 m2 w
    have cR : ∀ w, Calls Try.prog 17 #[.int .i64 (m : Int)] w fun e w' => e = .returned (.int .i64 (L : Int)) ∧ Below w.heap.size w w' := fun w => (refLambda_any m hm1 hm2 w).mono (by
      rintro e w' ⟨⟨K, hK, rfl⟩, hB⟩
      rw [hK.uniq hL]; exact ⟨rfl, hB⟩)
    clear hL
    go_enter Try.func5, Try.ntmps5
    go_wp2_with (first | (go_at_call 16; refine (cO _).mono ?_; rintro e w1 ⟨rfl, hB1⟩) | (go_at_call 12; refine (cM _).mono ?_; rintro e w' ⟨rfl, hw⟩; subst w') | (go_at_call 17; refine (cR _).mono ?_; rintro e w2 ⟨rfl, hB2⟩))
    go_ret
    exact ⟨rfl, below_trans hB1 hB2⟩
  · have cO := fun w => Lambda_no a0 hg w
    have cM := fun w => modulus_no a0 hg w
    clear hg
    go_enter Try.func5, Try.ntmps5
    go_wp2_with (first | (go_at_call 16; refine (cO _).mono ?_; rintro e w1 ⟨rfl, hB1⟩) | (go_at_call 12; refine (cM _).mono ?_; rintro e w' ⟨rfl, hw⟩; subst w'))
    go_ret
    exact ⟨rfl, hB1⟩

/-! ### THE ROW's STEP: WRITTEN OUT: LEAVE IT -/
set_option maxRecDepth 100000 in
theorem lifted (os : Os) (started : os.Started) (H : Type) (enc : TypeId × Value → H) :
    ReturnsInHanded {} Try.checked os 5 .any (Rows.powerLambdasSpec.pre6 enc Try.prog Try.f5 Rows.powerLambdasRow.domain false) (Rows.powerLambdasSpec.post enc Try.prog Try.f5 false true false false) := by
  refine returnsInHanded_of_change (C := Try.checked) own started (by kernel_rfl) Try.func5
    (ChangeSpec.witness6 (enc := enc) (C := Try.checked) false ⟨#[], #[.int .i64 0], []⟩ 8 (by kernel_rfl) (by kernel_rfl) (by kernel_rfl) (by kernel_rfl)) ?_
  intro W base args ds gs before hval0 hW hcnd _
  have hval : ∀ (j : Nat) t v, Try.f5.params[j]? = some t → args[j]? = some v → Value.okWide Try.prog W .any base t v := hval0
  have hW' := hW
  obtain ⟨p, q, hA0, hV, rfl, hfz, hnd⟩ := hW
  have hA : DataW.TrodAll enc Try.prog W 0 (fun _ => true) true Try.f5.params.toList args.toList ds p := hA0
  rw [Try.params5] at hA hval
  obtain ⟨v0, vs0, d0, ds0, p0, q0, hargs, rfl, rfl, h0, r0⟩ := trodAll_cons hA
  obtain ⟨rfl, rfl, rfl⟩ := trodAll_nil r0
  obtain rfl : args = #[v0] := by cases args; simp_all
  obtain ⟨rfl, rfl⟩ := trodVars_none hV
  obtain ⟨a0, rfl, rfl, rfl, w0⟩ := open_int Try.underlying2 (hval 0 2 v0 rfl rfl) h0
  clear hA0 hval0
  simp only [List.append_nil] at hW'
  refine (walk a0 w0 W).mono fun e W' ⟨he, hg⟩ => ?_
  subst he
  exact ⟨_, rfl, post_of_kept (pa := []) (pv := []) hW' (fun _ _ _ => (trodAll_cons_mk (shut_bool Try.underlying4 _) trodAll_mk0)) (fun sp _ => (trodAll_cons_mk (shut_int Try.underlying2 w0) trodAll_mk0)) (fun _ _ => rfl) rfl
    (hg.frame _)⟩

theorem over : Rows.powerLambdasRow.holds Try.pinned (OpenSpec.ofChange Rows.powerLambdasSpec) :=
  OpenClaim.holds_of_wide 5 Try.f5 rfl rfl rfl rfl rfl rfl rfl ⟨rfl, rfl, rfl, rfl, rfl⟩ rfl rfl rfl rfl rfl (by kernel_rfl) Try.func5 (by kernel_rfl)
    (of_decide_eq_true (by kernel_rfl)) (by unfold Func.isWrapper; first | (rw [if_pos (by decide +kernel)]; kernel_rfl) | (rw [if_neg (by decide +kernel)]; exact ⟨rfl, rfl⟩))
    (fun os started H enc _ => lifted os started H enc)

/-- ████ THE STATEMENT ████ -/
theorem proved : Rows.PowerLambdasSaid :=
  over
end Go.Proofs.Ytoakbobofaepiaa.powerLambdas
