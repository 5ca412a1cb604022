/-
  For any number the program tells what Mobius has of it: with no condition.
-/
import Derived.Test.YtlbmhhkhemhfaaaRows
import Derived.Test.YtlbmhhkhemhfaaaCalls12
import Derived.WalkKit
import Derived.ProofKit
import Derived.OpenShut
namespace Go.Proofs.Ytlbmhhkhemhfaaa.primesSigns
open Go.Proofs.Ytlbmhhkhemhfaaa.Num Go.Proofs.Ytlbmhhkhemhfaaa.Calls7 Go.Proofs.Ytlbmhhkhemhfaaa.Calls8 Go.Proofs.Ytlbmhhkhemhfaaa.Calls9 Go.Proofs.Ytlbmhhkhemhfaaa.Calls11 Go.Proofs.Ytlbmhhkhemhfaaa.Calls12
open Go.ChangeShapes Go.WideShapes Go.ChangeAt Go.RowKit
set_option linter.unusedVariables false      -- a walk need not use every 'w<i>' (that an integer argument fits its kind)

theorem own : ownKnob Try.prog.godebug = none := by kernel_rfl

set_option maxRecDepth 100000 in
theorem walk (a0 : Int) (w0 : (Lit.int .i64 a0).wf = true) (w : World) :
    Calls Try.prog 6 #[.int .i64 a0] w fun e w' => e = .returned (.bool true) ∧ Below w.heap.size w w' := by
  by_cases hm : 1 ≤ a0 ∧ a0 ≤ 1048576
  · obtain ⟨m, rfl⟩ : ∃ m : Nat, a0 = (m : Int) := ⟨a0.toNat, by omega⟩
    have h1 : 1 ≤ m := by omega
    have h2 : m ≤ 1048576 := by omega
    obtain ⟨l, hl⟩ := Fac.exists m h1
    have cA : ∀ w, Calls Try.prog 17 #[.int .i64 (m : Int)] w fun e w' => e = .returned (.tuple #[.int .i64 (mob l), .int .i64 0]) ∧ Below w.heap.size w w' := fun w =>
      (Mobius_yes m h1 h2 w).mono (by rintro e w' ⟨⟨l', hl', rfl⟩, h⟩; rw [hl.unique hl']; exact ⟨rfl, h⟩)
    have cB : ∀ w, Calls Try.prog 18 #[.int .i64 (m : Int)] w fun e w' => e = .returned (.int .i64 (mob l)) ∧ Below w.heap.size w w' := fun w =>
      (refMobius_any m h1 h2 w).mono (by rintro e w' ⟨⟨l', hl', rfl⟩, h⟩; rw [hl.unique hl']; exact ⟨rfl, h⟩)
    have hb : Below w.heap.size w w := Below.refl _ _
    clear hm w0 hl
    go_enter Try.func6, Try.ntmps6
    go_wp2_with (first
      | (go_at_call 17; refine (cA _).mono ?_; rintro e w' ⟨rfl, hg⟩; replace hb := below_trans hb hg; clear hg)
      | (go_at_call 10; refine (modulus_yes _ (by omega) (by omega) _).mono ?_; rintro e w' ⟨rfl, hw⟩; subst w')
      | (go_at_call 18; refine (cB _).mono ?_; rintro e w' ⟨rfl, hg⟩; replace hb := below_trans hb hg; clear hg))
    go_ret
    exact ⟨ret_bool (by simp), hb⟩
  · have H : Hid (¬ (1 ≤ a0 ∧ a0 ≤ 1048576)) := hm
    clear hm w0
    go_enter Try.func6, Try.ntmps6
    go_wp2_with (first
      | (go_at_call 17; refine (Mobius_no _ H.out _).mono ?_; rintro e w' ⟨rfl, hg⟩)
      | (go_at_call 10; refine (modulus_no _ H.out _).mono ?_; rintro e w' ⟨rfl, rfl⟩))
    go_ret
    exact ⟨rfl, hg⟩

/-! ### THE ROW's STEP: WRITTEN OUT: LEAVE IT -/
set_option maxRecDepth 100000 in
theorem lifted (os : Os) (started : os.Started) (H : Type) (enc : TypeId × Value → H) :
    ReturnsInHanded {} Try.checked os 6 .any (Rows.primesSignsSpec.pre6 enc Try.prog Try.f6 Rows.primesSignsRow.domain false) (Rows.primesSignsSpec.post enc Try.prog Try.f6 false true false false) := by
  refine returnsInHanded_of_change (C := Try.checked) own started (by kernel_rfl) Try.func6
    (ChangeSpec.witness6 (enc := enc) (C := Try.checked) false ⟨#[], #[.int .i64 0], []⟩ 8 (by kernel_rfl) (by kernel_rfl) (by kernel_rfl) (by kernel_rfl)) ?_
  intro W base args ds gs before hval0 hW hcnd _
  have hval : ∀ (j : Nat) t v, Try.f6.params[j]? = some t → args[j]? = some v → Value.okWide Try.prog W .any base t v := hval0
  have hW' := hW
  obtain ⟨p, q, hA0, hV, rfl, hfz, hnd⟩ := hW
  have hA : DataW.TrodAll enc Try.prog W 0 (fun _ => true) true Try.f6.params.toList args.toList ds p := hA0
  rw [Try.params6] at hA hval
  obtain ⟨v0, vs0, d0, ds0, p0, q0, hargs, rfl, rfl, h0, r0⟩ := trodAll_cons hA
  obtain ⟨rfl, rfl, rfl⟩ := trodAll_nil r0
  obtain rfl : args = #[v0] := by cases args; simp_all
  obtain ⟨rfl, rfl⟩ := trodVars_none hV
  obtain ⟨a0, rfl, rfl, rfl, w0⟩ := open_int Try.underlying2 (hval 0 2 v0 rfl rfl) h0
  clear hA0 hval0
  simp only [List.append_nil] at hW'
  refine (walk a0 w0 W).mono fun e W' ⟨he, hg⟩ => ?_
  subst he
  exact ⟨_, rfl, post_of_kept (pa := []) (pv := []) hW' (fun _ _ _ => (trodAll_cons_mk (shut_bool Try.underlying4 _) trodAll_mk0)) (fun sp _ => (trodAll_cons_mk (shut_int Try.underlying2 w0) trodAll_mk0)) (fun _ _ => rfl) rfl
    (hg.frame _)⟩

theorem over : Rows.primesSignsRow.holds Try.pinned (OpenSpec.ofChange Rows.primesSignsSpec) :=
  OpenClaim.holds_of_wide 6 Try.f6 rfl rfl rfl rfl rfl rfl rfl ⟨rfl, rfl, rfl, rfl, rfl⟩ rfl rfl rfl rfl rfl (by kernel_rfl) Try.func6 (by kernel_rfl)
    (of_decide_eq_true (by kernel_rfl)) (by unfold Func.isWrapper; first | (rw [if_pos (by decide +kernel)]; kernel_rfl) | (rw [if_neg (by decide +kernel)]; exact ⟨rfl, rfl⟩))
    (fun os started H enc _ => lifted os started H enc)

/-- ████ THE STATEMENT ████ -/
theorem proved : Rows.PrimesSignsSaid :=
  over
end Go.Proofs.Ytlbmhhkhemhfaaa.primesSigns
