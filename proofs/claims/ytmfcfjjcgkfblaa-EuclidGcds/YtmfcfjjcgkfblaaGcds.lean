/-
  For any two 64-bit numbers the program tells their greatest common divisor, as the document's answer has it (0 of 0 and 0), or ErrRange and 0 where one of them lies beyond MaxNum: the statement EuclidGcds, for every input.
-/
import Derived.Test.YtmfcfjjcgkfblaaRows
import Derived.Test.YtmfcfjjcgkfblaaCalls5
import Derived.WalkKit
import Derived.ProofKit
import Derived.OpenShut
namespace Go.Proofs.Ytmfcfjjcgkfblaa.euclidGcds
open Go.Proofs.Ytmfcfjjcgkfblaa.Math Go.Proofs.Ytmfcfjjcgkfblaa.Calls1 Go.Proofs.Ytmfcfjjcgkfblaa.Calls2 Go.Proofs.Ytmfcfjjcgkfblaa.Calls3 Go.Proofs.Ytmfcfjjcgkfblaa.Calls4 Go.Proofs.Ytmfcfjjcgkfblaa.Calls5
open Go.ChangeShapes Go.WideShapes Go.ChangeAt Go.RowKit
set_option linter.unusedVariables false      -- a walk need not use every 'w<i>' (that an integer argument fits its kind)

theorem own : ownKnob Try.prog.godebug = none := by kernel_rfl

theorem walk (a0 : Int) (a1 : Int) (w0 : (Lit.int .i64 a0).wf = true) (w1 : (Lit.int .i64 a1).wf = true) (w : World) :
    Calls Try.prog 3 #[.int .i64 a0, .int .i64 a1] w fun e w' => e = .returned (.bool true) ∧ Grown w w' := by
  by_cases hf : (a0 < -2147483648 ∨ 2147483648 < a0) ∨ (a1 < -2147483648 ∨ 2147483648 < a1)
  · have H : Hid ((a0 < -2147483648 ∨ 2147483648 < a0) ∨ (a1 < -2147483648 ∨ 2147483648 < a1)) := hf
    clear hf w0 w1
    go_enter Try.func3, Try.ntmps3
    go_wp2_with (first
      | (go_at_call 9; refine (Gcd_no _ _ _ H.out).mono ?_; rintro e w' ⟨rfl, hg⟩)
      | (go_at_call 10; refine (both_no _ _ _ H.out).mono ?_; rintro e w' ⟨rfl, rfl⟩))
    go_ret
    exact ⟨rfl, hg⟩
  · have n1 : -2147483648 ≤ a0 := by omega
    have n2 : a0 ≤ 2147483648 := by omega
    have n3 : -2147483648 ≤ a1 := by omega
    have n4 : a1 ≤ 2147483648 := by omega
    clear hf w0 w1
    go_enter Try.func3, Try.ntmps3
    go_wp2_with (first
      | (go_at_call 9; refine (Gcd_yes _ _ _ n1 n2 n3 n4).mono ?_; rintro e w' ⟨rfl, hg⟩)
      | (go_at_call 10; refine (both_ok _ _ _ n1 n2 n3 n4).mono ?_; rintro e w' ⟨rfl, rfl⟩)
      | (go_at_call 11; refine (refGcd_any _ _ _ n1 n2 n3 n4).mono ?_; rintro e w' ⟨rfl, rfl⟩))
    go_ret
    exact ⟨ret_bool (by simp), hg⟩

/-! ### THE ROW's STEP: WRITTEN OUT: LEAVE IT -/
set_option maxRecDepth 100000 in
theorem lifted (os : Os) (started : os.Started) (H : Type) (enc : TypeId × Value → H) :
    ReturnsInHanded {} Try.checked os 3 .any (Rows.euclidGcdsSpec.pre6 enc Try.prog Try.f3 Rows.euclidGcdsRow.domain false) (Rows.euclidGcdsSpec.post enc Try.prog Try.f3 false true false false) := by
  refine returnsInHanded_of_change (C := Try.checked) own started (by kernel_rfl) Try.func3
    (ChangeSpec.witness6 (enc := enc) (C := Try.checked) false ⟨#[], #[.int .i64 0, .int .i64 0], []⟩ 8 (by kernel_rfl) (by kernel_rfl) (by kernel_rfl) (by kernel_rfl)) ?_
  intro W base args ds gs before hval0 hW hcnd _
  have hval : ∀ (j : Nat) t v, Try.f3.params[j]? = some t → args[j]? = some v → Value.okWide Try.prog W .any base t v := hval0
  have hW' := hW
  obtain ⟨p, q, hA0, hV, rfl, hfz, hnd⟩ := hW
  have hA : DataW.TrodAll enc Try.prog W 0 (fun _ => true) true Try.f3.params.toList args.toList ds p := hA0
  rw [Try.params3] at hA hval
  obtain ⟨v0, vs0, d0, ds0, p0, q0, hargs, rfl, rfl, h0, r0⟩ := trodAll_cons hA
  obtain ⟨v1, vs1, d1, ds1, p1, q1, rfl, rfl, rfl, h1, r1⟩ := trodAll_cons r0
  obtain ⟨rfl, rfl, rfl⟩ := trodAll_nil r1
  obtain rfl : args = #[v0, v1] := by cases args; simp_all
  obtain ⟨rfl, rfl⟩ := trodVars_none hV
  obtain ⟨a0, rfl, rfl, rfl, w0⟩ := open_int Try.underlying2 (hval 0 2 v0 rfl rfl) h0
  obtain ⟨a1, rfl, rfl, rfl, w1⟩ := open_int Try.underlying2 (hval 1 2 v1 rfl rfl) h1
  clear hA0 hval0
  simp only [List.append_nil] at hW'
  refine (walk a0 a1 w0 w1 W).mono fun e W' ⟨he, hg⟩ => ?_
  subst he
  exact ⟨_, rfl, post_of_same (pa := []) (pv := []) hW' (fun _ _ _ => (trodAll_cons_mk (shut_bool Try.underlying4 _) trodAll_mk0)) (fun sp _ => (trodAll_cons_mk (shut_int Try.underlying2 w0) (trodAll_cons_mk (shut_int Try.underlying2 w1) trodAll_mk0))) (fun _ _ => rfl) rfl
    (hg.frame _) hg.2.1 (ok_one (by kernel_rfl) rfl (okWide_bool_mk Try.underlying4 _))⟩

theorem over : Rows.euclidGcdsRow.holds Try.pinned (OpenSpec.ofChange Rows.euclidGcdsSpec) :=
  OpenClaim.holds_of_wide 3 Try.f3 rfl rfl rfl rfl rfl rfl rfl ⟨rfl, rfl, rfl, rfl, rfl⟩ rfl rfl rfl rfl rfl (by kernel_rfl) Try.func3 (by kernel_rfl)
    (of_decide_eq_true (by kernel_rfl)) (by unfold Func.isWrapper; first | (rw [if_pos (by decide +kernel)]; kernel_rfl) | (rw [if_neg (by decide +kernel)]; exact ⟨rfl, rfl⟩))
    (fun os started H enc _ => lifted os started H enc)

/-- ████ THE STATEMENT ████ -/
theorem proved : Rows.EuclidGcdsSaid :=
  over
end Go.Proofs.Ytmfcfjjcgkfblaa.euclidGcds
