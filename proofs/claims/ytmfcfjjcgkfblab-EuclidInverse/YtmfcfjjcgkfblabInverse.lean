/-
  For any 64-bit number and modulus: the program's inverse of the inverse is what is left of the number, and there is an inverse just if nothing but 1 divides both: the statement EuclidInverse, for every input.
-/
import Derived.Test.YtmfcfjjcgkfblabRows
import Derived.Test.YtmfcfjjcgkfblabCalls6
import Derived.WalkKit
import Derived.ProofKit
import Derived.OpenShut
namespace Go.Proofs.Ytmfcfjjcgkfblab.euclidInverse
open Go.Proofs.Ytmfcfjjcgkfblab.Math Go.Proofs.Ytmfcfjjcgkfblab.Calls1 Go.Proofs.Ytmfcfjjcgkfblab.Calls2 Go.Proofs.Ytmfcfjjcgkfblab.Calls3 Go.Proofs.Ytmfcfjjcgkfblab.Calls4 Go.Proofs.Ytmfcfjjcgkfblab.Calls5 Go.Proofs.Ytmfcfjjcgkfblab.Calls6
open Go.ChangeShapes Go.WideShapes Go.ChangeAt Go.RowKit
set_option linter.unusedVariables false      -- a walk need not use every 'w<i>' (that an integer argument fits its kind)

theorem own : ownKnob Try.prog.godebug = none := by kernel_rfl

theorem kmod_yes (m : Int) (w : World) (h1 : 1 ≤ m) (h2 : m ≤ 1048576) :
    Calls Try.prog 9 #[.int .i64 m] w fun e w' => e = .returned (.bool true) ∧ w' = w := by
  have d1 : decide (1 ≤ m) = true := by simpa using h1
  have d2 : decide (m ≤ 1048576) = true := by simpa using h2
  go_enter Try.func9, Try.ntmps9
  go_wp2
  go_ret
  exact ⟨rfl, rfl⟩

theorem kmod_no (m : Int) (w : World) (h : m < 1 ∨ 1048576 < m) :
    Calls Try.prog 9 #[.int .i64 m] w fun e w' => e = .returned (.bool false) ∧ w' = w := by
  by_cases h1 : m < 1
  · have d1 : decide (1 ≤ m) = false := by simp; omega
    clear h
    go_enter Try.func9, Try.ntmps9
    go_wp2
    go_ret
    exact ⟨rfl, rfl⟩
  · have d1 : decide (1 ≤ m) = true := by simp; omega
    have d2 : decide (m ≤ 1048576) = false := by simp; omega
    clear h
    go_enter Try.func9, Try.ntmps9
    go_wp2
    go_ret
    exact ⟨rfl, rfl⟩

theorem inv_gg {i a m : Int} (h : m ∣ i * a - 1) : gg i m = 1 := by
  apply gg_uniq (by omega) (Int.one_dvd _) (Int.one_dvd _)
  intro c h1 h2
  have h3 : c ∣ i * a := Int.dvd_mul_of_dvd_left h1
  have h4 : c ∣ i * a - 1 := Int.dvd_trans h2 h
  have := Int.dvd_sub h3 h4
  rwa [show i * a - (i * a - 1) = 1 by omega] at this

theorem inv_inv {i j a m : Int} (h : m ∣ i * a - 1) (h2 : m ∣ j * i - 1) (j0 : 0 ≤ j) (j1 : j < m) : j = a % m := by
  have h3 : m ∣ j - a := by
    have e : j - a = a * (j * i - 1) - j * (i * a - 1) := by
      rw [Int.mul_sub, Int.mul_sub, show a * (j * i) = j * (i * a) by ac_rfl]; omega
    rw [e]; exact Int.dvd_sub (Int.dvd_mul_of_dvd_right h2) (Int.dvd_mul_of_dvd_right h)
  have h4 : j % m = a % m := Int.emod_eq_emod_iff_emod_sub_eq_zero.mpr (Int.emod_eq_zero_of_dvd h3)
  rw [← h4, Int.emod_eq_of_lt j0 j1]

theorem none_case (a0 a1 : Int) (w : World) (n1 : -2147483648 ≤ a0) (n2 : a0 ≤ 2147483648) (m1 : 1 ≤ a1) (m2 : a1 ≤ 1048576) (hn : gg a0 a1 ≠ 1) :
    Calls Try.prog 4 #[.int .i64 a0, .int .i64 a1] w fun e w' => e = .returned (.bool true) ∧ Grown w w' := by
  have g1 : 0 < gg a0 a1 := gg_pos (by omega)
  have g2 : decide (1 < gg a0 a1) = true := by simp; omega
  have hn'' : (gg a0 a1 == 1) = false := by simpa using hn
  have HN := hid hn
  clear hn
  go_enter Try.func4, Try.ntmps4
  go_wp2_with (first
    | (go_at_call 8; refine (Inverse_none _ _ _ n1 n2 m1 m2 HN.out).mono ?_; rintro e w' ⟨rfl, hg⟩)
    | (go_at_call 7; refine (near_yes _ _ (by omega) (by omega)).mono ?_; rintro e w' ⟨rfl, rfl⟩)
    | (go_at_call 9; refine (kmod_yes _ _ m1 m2).mono ?_; rintro e w' ⟨rfl, rfl⟩)
    | (go_at_call 5; refine (Gcd_yes _ _ _ n1 n2 (by omega) (by omega)).mono ?_; rintro e w' ⟨rfl, hg2⟩))
  go_ret
  exact ⟨rfl, grown_trans hg hg2⟩

theorem yes_case (a0 a1 : Int) (w : World) (n1 : -2147483648 ≤ a0) (n2 : a0 ≤ 2147483648) (m1 : 1 ≤ a1) (m2 : a1 ≤ 1048576) (hn : gg a0 a1 = 1) :
    Calls Try.prog 4 #[.int .i64 a0, .int .i64 a1] w fun e w' => e = .returned (.bool true) ∧ Grown w w' := by
  have HN := hid hn
  clear hn
  go_enter Try.func4, Try.ntmps4
  go_wp2_with fail
  refine (Inverse_yes _ _ _ n1 n2 m1 m2 HN.out).mono ?_
  rintro e w' ⟨i, rfl, i0, i1, hi, hg⟩
  have HI := hid hi
  clear hi
  go_wp2_with fail
  refine (near_yes _ _ n1 n2).mono ?_
  rintro e w2 ⟨rfl, rfl⟩
  go_wp2_with fail
  refine (kmod_yes _ _ m1 m2).mono ?_
  rintro e w2 ⟨rfl, rfl⟩
  go_wp2_with fail
  refine (Gcd_yes _ _ _ n1 n2 (by omega) (by omega)).mono ?_
  rw [HN.out]
  rintro e w2 ⟨rfl, hg2⟩
  go_wp2_with fail
  refine (Inverse_yes _ _ _ (by omega) (by omega) m1 m2 (inv_gg HI.out)).mono ?_
  rintro e w3 ⟨j, rfl, j0, j1, hj, hg3⟩
  have HJ := hid (inv_inv HI.out hj j0 j1)
  clear hj
  go_wp2_with fail
  refine (refMod_any _ _ _ m1 (by omega)).mono ?_
  rintro e w4 ⟨rfl, rfl⟩
  go_wp2_with fail
  go_ret
  exact ⟨ret_bool (by rw [← HJ.out]; simp), grown_trans (grown_trans hg hg2) hg3⟩

theorem walk (a0 : Int) (a1 : Int) (w0 : (Lit.int .i64 a0).wf = true) (w1 : (Lit.int .i64 a1).wf = true) (w : World) :
    Calls Try.prog 4 #[.int .i64 a0, .int .i64 a1] w fun e w' => e = .returned (.bool true) ∧ Grown w w' := by
  by_cases hf : a0 < -2147483648 ∨ 2147483648 < a0
  · have H := hid hf
    clear hf w0 w1
    go_enter Try.func4, Try.ntmps4
    go_wp2_with (first
      | (go_at_call 8; refine (Inverse_far _ _ _ H.out).mono ?_; rintro e w' ⟨rfl, hg⟩)
      | (go_at_call 7; refine (near_no _ _ H.out).mono ?_; rintro e w' ⟨rfl, rfl⟩))
    go_ret
    exact ⟨rfl, hg⟩
  · have n1 : -2147483648 ≤ a0 := by omega
    have n2 : a0 ≤ 2147483648 := by omega
    clear hf w0 w1
    by_cases hm : a1 < 1 ∨ 1048576 < a1
    · have HM := hid hm
      clear hm
      go_enter Try.func4, Try.ntmps4
      go_wp2_with (first
        | (go_at_call 8; refine (Inverse_mod _ _ _ n1 n2 HM.out).mono ?_; rintro e w' ⟨rfl, hg⟩)
        | (go_at_call 7; refine (near_yes _ _ n1 n2).mono ?_; rintro e w' ⟨rfl, rfl⟩)
        | (go_at_call 9; refine (kmod_no _ _ HM.out).mono ?_; rintro e w' ⟨rfl, rfl⟩))
      go_ret
      exact ⟨rfl, hg⟩
    · by_cases hn : gg a0 a1 = 1
      · exact yes_case a0 a1 w n1 n2 (by omega) (by omega) hn
      · exact none_case a0 a1 w n1 n2 (by omega) (by omega) hn

/-! ### THE ROW's STEP: WRITTEN OUT: LEAVE IT -/
set_option maxRecDepth 100000 in
theorem lifted (os : Os) (started : os.Started) (H : Type) (enc : TypeId × Value → H) :
    ReturnsInHanded {} Try.checked os 4 .any (Rows.euclidInverseSpec.pre6 enc Try.prog Try.f4 Rows.euclidInverseRow.domain false) (Rows.euclidInverseSpec.post enc Try.prog Try.f4 false true false false) := by
  refine returnsInHanded_of_change (C := Try.checked) own started (by kernel_rfl) Try.func4
    (ChangeSpec.witness6 (enc := enc) (C := Try.checked) false ⟨#[], #[.int .i64 0, .int .i64 0], []⟩ 8 (by kernel_rfl) (by kernel_rfl) (by kernel_rfl) (by kernel_rfl)) ?_
  intro W base args ds gs before hval0 hW hcnd _
  have hval : ∀ (j : Nat) t v, Try.f4.params[j]? = some t → args[j]? = some v → Value.okWide Try.prog W .any base t v := hval0
  have hW' := hW
  obtain ⟨p, q, hA0, hV, rfl, hfz, hnd⟩ := hW
  have hA : DataW.TrodAll enc Try.prog W 0 (fun _ => true) true Try.f4.params.toList args.toList ds p := hA0
  rw [Try.params4] at hA hval
  obtain ⟨v0, vs0, d0, ds0, p0, q0, hargs, rfl, rfl, h0, r0⟩ := trodAll_cons hA
  obtain ⟨v1, vs1, d1, ds1, p1, q1, rfl, rfl, rfl, h1, r1⟩ := trodAll_cons r0
  obtain ⟨rfl, rfl, rfl⟩ := trodAll_nil r1
  obtain rfl : args = #[v0, v1] := by cases args; simp_all
  obtain ⟨rfl, rfl⟩ := trodVars_none hV
  obtain ⟨a0, rfl, rfl, rfl, w0⟩ := open_int Try.underlying2 (hval 0 2 v0 rfl rfl) h0
  obtain ⟨a1, rfl, rfl, rfl, w1⟩ := open_int Try.underlying2 (hval 1 2 v1 rfl rfl) h1
  clear hA0 hval0
  simp only [List.append_nil] at hW'
  refine (walk a0 a1 w0 w1 W).mono fun e W' ⟨he, hg⟩ => ?_
  subst he
  exact ⟨_, rfl, post_of_same (pa := []) (pv := []) hW' (fun _ _ _ => (trodAll_cons_mk (shut_bool Try.underlying4 _) trodAll_mk0)) (fun sp _ => (trodAll_cons_mk (shut_int Try.underlying2 w0) (trodAll_cons_mk (shut_int Try.underlying2 w1) trodAll_mk0))) (fun _ _ => rfl) rfl
    (hg.frame _) hg.2.1 (ok_one (by kernel_rfl) rfl (okWide_bool_mk Try.underlying4 _))⟩

theorem over : Rows.euclidInverseRow.holds Try.pinned (OpenSpec.ofChange Rows.euclidInverseSpec) :=
  OpenClaim.holds_of_wide 4 Try.f4 rfl rfl rfl rfl rfl rfl rfl ⟨rfl, rfl, rfl, rfl, rfl⟩ rfl rfl rfl rfl rfl (by kernel_rfl) Try.func4 (by kernel_rfl)
    (of_decide_eq_true (by kernel_rfl)) (by unfold Func.isWrapper; first | (rw [if_pos (by decide +kernel)]; kernel_rfl) | (rw [if_neg (by decide +kernel)]; exact ⟨rfl, rfl⟩))
    (fun os started H enc _ => lifted os started H enc)

/-- ████ THE STATEMENT ████ -/
theorem proved : Rows.EuclidInverseSaid :=
  over
end Go.Proofs.Ytmfcfjjcgkfblab.euclidInverse
