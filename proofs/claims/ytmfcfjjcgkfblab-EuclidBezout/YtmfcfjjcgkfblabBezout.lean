/-
  For any two 64-bit numbers within MaxNum the program's Bezout makes their greatest common divisor of both, and beyond MaxNum both calls tell an error: the statement EuclidBezout, for every input.
-/
import Derived.Test.YtmfcfjjcgkfblabRows
import Derived.Test.YtmfcfjjcgkfblabCalls6
import Derived.WalkKit
import Derived.ProofKit
import Derived.OpenShut
namespace Go.Proofs.Ytmfcfjjcgkfblab.euclidBezout
open Go.Proofs.Ytmfcfjjcgkfblab.Math Go.Proofs.Ytmfcfjjcgkfblab.Calls1 Go.Proofs.Ytmfcfjjcgkfblab.Calls2 Go.Proofs.Ytmfcfjjcgkfblab.Calls3 Go.Proofs.Ytmfcfjjcgkfblab.Calls4 Go.Proofs.Ytmfcfjjcgkfblab.Calls5 Go.Proofs.Ytmfcfjjcgkfblab.Calls6
open Go.ChangeShapes Go.WideShapes Go.ChangeAt Go.RowKit
set_option linter.unusedVariables false      -- a walk need not use every 'w<i>' (that an integer argument fits its kind)

theorem own : ownKnob Try.prog.godebug = none := by kernel_rfl

theorem zero_case (a0 : Int) (w : World) (n1 : -2147483648 ≤ a0) (n2 : a0 ≤ 2147483648) :
    Calls Try.prog 3 #[.int .i64 a0, .int .i64 0] w fun e w' => e = .returned (.bool true) ∧ Grown w w' := by
  have GZ : Hid (gg a0 0 = (a0.natAbs : Int)) := by
    have : gg a0 0 = (a0.natAbs : Int) := by rw [← gg_abs]; exact gg_zero_right (by omega)
    exact this
  by_cases h0 : a0 = 0
  · subst h0
    go_enter Try.func3, Try.ntmps3
    go_wp2_with (first
      | (go_at_call 5; refine (Gcd_yes _ _ _ n1 n2 (by omega) (by omega)).mono ?_; rw [GZ.out]; rintro e w' ⟨rfl, hg⟩)
      | (go_at_call 6; refine (Bezout_zero _ _ n1 n2).mono ?_; rw [sg_zero]; rintro e w' ⟨rfl, hg2⟩)
      | (go_at_call 7; refine (near_yes _ _ (by omega) (by omega)).mono ?_; rintro e w' ⟨rfl, rfl⟩))
    go_ret
    exact ⟨rfl, grown_trans hg hg2⟩
  · have hs := sg_mul a0
    have t3 : (sg a0 * a0 == (a0.natAbs : Int)) = true := by rw [hs]; simp
    have p1 : 0 ≤ sg a0 * a0 := by omega
    have p2 : sg a0 * a0 ≤ 2147483648 := by omega
    have p3 : 0 < (a0.natAbs : Int) := by omega
    have p4 : decide (0 < (a0.natAbs : Int)) = true := by simpa using p3
    clear hs
    go_enter Try.func3, Try.ntmps3
    go_wp2_with (first
      | (go_at_call 5; refine (Gcd_yes _ _ _ n1 n2 (by omega) (by omega)).mono ?_; rw [GZ.out]; rintro e w' ⟨rfl, hg⟩)
      | (go_at_call 6; refine (Bezout_zero _ _ n1 n2).mono ?_; rintro e w' ⟨rfl, hg2⟩)
      | (go_at_call 7; refine (near_yes _ _ (by omega) (by omega)).mono ?_; rintro e w' ⟨rfl, rfl⟩))
    go_ret
    exact ⟨rfl, grown_trans hg hg2⟩

theorem main_case (a b : Int) (w : World) (hb : b ≠ 0) (n1 : -2147483648 ≤ a) (n2 : a ≤ 2147483648) (n3 : -2147483648 ≤ b) (n4 : b ≤ 2147483648) :
    Calls Try.prog 3 #[.int .i64 a, .int .i64 b] w fun e w' => e = .returned (.bool true) ∧ Grown w w' := by
  obtain ⟨g1, m1, m2⟩ := quot_bd (a := a) hb
  have gl : gg a b ≤ 2147483648 := by rw [← gg_abs]; exact gg_le (by omega) (by omega) (by omega) (by omega)
  have g0 : decide (0 < gg a b) = true := by simp; omega
  go_enter Try.func3, Try.ntmps3
  go_wp2_with fail
  refine (Gcd_yes _ _ _ n1 n2 n3 n4).mono ?_
  rintro e w' ⟨rfl, hg⟩
  go_wp2_with fail
  refine (Bezout_yes _ _ _ hb n1 n2 n3 n4).mono ?_
  rintro e w'' ⟨x, rfl, hx1, hx2, hx3, hg2⟩
  obtain ⟨sl, su⟩ := prod_bd hx1 hx2 (by omega) n1 n2
  have e3 : (gg a b - x * a).tdiv b * b = gg a b - x * a := by
    have : b ∣ gg a b - x * a := by
      have := Int.dvd_neg.mpr hx3; rwa [Int.neg_sub] at this
    exact Int.tdiv_mul_cancel this
  have l3 : -9000000000000000000 ≤ (gg a b - x * a).tdiv b * b := by omega
  have u3 : (gg a b - x * a).tdiv b * b ≤ 9000000000000000000 := by omega
  have l4 : 0 ≤ x * a + (gg a b - x * a).tdiv b * b := by omega
  have u4 : x * a + (gg a b - x * a).tdiv b * b ≤ 2147483648 := by omega
  have t3 : (x * a + (gg a b - x * a).tdiv b * b == gg a b) = true := by simp; omega
  clear hx3 e3 hb
  go_wp2_with (go_at_call 7; refine (near_yes _ _ (by omega) (by omega)).mono ?_; rintro e w' ⟨rfl, rfl⟩)
  go_ret
  exact ⟨rfl, grown_trans hg hg2⟩

theorem walk (a0 : Int) (a1 : Int) (w0 : (Lit.int .i64 a0).wf = true) (w1 : (Lit.int .i64 a1).wf = true) (w : World) :
    Calls Try.prog 3 #[.int .i64 a0, .int .i64 a1] w fun e w' => e = .returned (.bool true) ∧ Grown w w' := by
  by_cases hf : (a0 < -2147483648 ∨ 2147483648 < a0) ∨ (a1 < -2147483648 ∨ 2147483648 < a1)
  · have H := hid hf
    by_cases hf0 : a0 < -2147483648 ∨ 2147483648 < a0
    · have H0 := hid hf0
      clear hf hf0 w0 w1
      go_enter Try.func3, Try.ntmps3
      go_wp2_with (first
        | (go_at_call 5; refine (Gcd_no _ _ _ H.out).mono ?_; rintro e w' ⟨rfl, hg⟩)
        | (go_at_call 6; refine (Bezout_no _ _ _ H.out).mono ?_; rintro e w' ⟨rfl, hg2⟩)
        | (go_at_call 7; refine (near_no _ _ H0.out).mono ?_; rintro e w' ⟨rfl, rfl⟩))
      go_ret
      exact ⟨rfl, grown_trans hg hg2⟩
    · have hf1 : a1 < -2147483648 ∨ 2147483648 < a1 := by omega
      have H1 := hid hf1
      have n1 : -2147483648 ≤ a0 := by omega
      have n2 : a0 ≤ 2147483648 := by omega
      clear hf hf0 hf1 w0 w1
      go_enter Try.func3, Try.ntmps3
      go_wp2_with fail
      refine (Gcd_no _ _ _ H.out).mono ?_
      rintro e w' ⟨rfl, hg⟩
      go_wp2_with fail
      refine (Bezout_no _ _ _ H.out).mono ?_
      rintro e w' ⟨rfl, hg2⟩
      go_wp2_with fail
      refine (near_yes _ _ n1 n2).mono ?_
      rintro e w'' ⟨rfl, rfl⟩
      go_wp2_with fail
      refine (near_no _ _ H1.out).mono ?_
      rintro e w'' ⟨rfl, rfl⟩
      go_wp2_with fail
      go_ret
      exact ⟨rfl, grown_trans hg hg2⟩
  · by_cases hb : a1 = 0
    · subst hb
      exact zero_case a0 w (by omega) (by omega)
    · exact main_case a0 a1 w hb (by omega) (by omega) (by omega) (by omega)

/-! ### THE ROW's STEP: WRITTEN OUT: LEAVE IT -/
set_option maxRecDepth 100000 in
theorem lifted (os : Os) (started : os.Started) (H : Type) (enc : TypeId × Value → H) :
    ReturnsInHanded {} Try.checked os 3 .any (Rows.euclidBezoutSpec.pre6 enc Try.prog Try.f3 Rows.euclidBezoutRow.domain false) (Rows.euclidBezoutSpec.post enc Try.prog Try.f3 false true false false) := by
  refine returnsInHanded_of_change (C := Try.checked) own started (by kernel_rfl) Try.func3
    (ChangeSpec.witness6 (enc := enc) (C := Try.checked) false ⟨#[], #[.int .i64 0, .int .i64 0], []⟩ 8 (by kernel_rfl) (by kernel_rfl) (by kernel_rfl) (by kernel_rfl)) ?_
  intro W base args ds gs before hval0 hW hcnd _
  have hval : ∀ (j : Nat) t v, Try.f3.params[j]? = some t → args[j]? = some v → Value.okWide Try.prog W .any base t v := hval0
  have hW' := hW
  obtain ⟨p, q, hA0, hV, rfl, hfz, hnd⟩ := hW
  have hA : DataW.TrodAll enc Try.prog W 0 (fun _ => true) true Try.f3.params.toList args.toList ds p := hA0
  rw [Try.params3] at hA hval
  obtain ⟨v0, vs0, d0, ds0, p0, q0, hargs, rfl, rfl, h0, r0⟩ := trodAll_cons hA
  obtain ⟨v1, vs1, d1, ds1, p1, q1, rfl, rfl, rfl, h1, r1⟩ := trodAll_cons r0
  obtain ⟨rfl, rfl, rfl⟩ := trodAll_nil r1
  obtain rfl : args = #[v0, v1] := by cases args; simp_all
  obtain ⟨rfl, rfl⟩ := trodVars_none hV
  obtain ⟨a0, rfl, rfl, rfl, w0⟩ := open_int Try.underlying2 (hval 0 2 v0 rfl rfl) h0
  obtain ⟨a1, rfl, rfl, rfl, w1⟩ := open_int Try.underlying2 (hval 1 2 v1 rfl rfl) h1
  clear hA0 hval0
  simp only [List.append_nil] at hW'
  refine (walk a0 a1 w0 w1 W).mono fun e W' ⟨he, hg⟩ => ?_
  subst he
  exact ⟨_, rfl, post_of_same (pa := []) (pv := []) hW' (fun _ _ _ => (trodAll_cons_mk (shut_bool Try.underlying4 _) trodAll_mk0)) (fun sp _ => (trodAll_cons_mk (shut_int Try.underlying2 w0) (trodAll_cons_mk (shut_int Try.underlying2 w1) trodAll_mk0))) (fun _ _ => rfl) rfl
    (hg.frame _) hg.2.1 (ok_one (by kernel_rfl) rfl (okWide_bool_mk Try.underlying4 _))⟩

theorem over : Rows.euclidBezoutRow.holds Try.pinned (OpenSpec.ofChange Rows.euclidBezoutSpec) :=
  OpenClaim.holds_of_wide 3 Try.f3 rfl rfl rfl rfl rfl rfl rfl ⟨rfl, rfl, rfl, rfl, rfl⟩ rfl rfl rfl rfl rfl (by kernel_rfl) Try.func3 (by kernel_rfl)
    (of_decide_eq_true (by kernel_rfl)) (by unfold Func.isWrapper; first | (rw [if_pos (by decide +kernel)]; kernel_rfl) | (rw [if_neg (by decide +kernel)]; exact ⟨rfl, rfl⟩))
    (fun os started H enc _ => lifted os started H enc)

/-- ████ THE STATEMENT ████ -/
theorem proved : Rows.EuclidBezoutSaid :=
  over
end Go.Proofs.Ytmfcfjjcgkfblab.euclidBezout
