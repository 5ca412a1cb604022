/-
  For any 64-bit number and modulus the program tells the number that makes 1 of it, or ErrNone where there is none, or ErrRange: the statement EuclidInverts, for every input.
-/
import Derived.Test.YtmfcfjjcgkfblaaRows
import Derived.Test.YtmfcfjjcgkfblaaCalls6
import Derived.WalkKit
import Derived.ProofKit
import Derived.OpenShut
namespace Go.Proofs.Ytmfcfjjcgkfblaa.euclidInverts
open Go.Proofs.Ytmfcfjjcgkfblaa.Math Go.Proofs.Ytmfcfjjcgkfblaa.Calls1 Go.Proofs.Ytmfcfjjcgkfblaa.Calls2 Go.Proofs.Ytmfcfjjcgkfblaa.Calls3 Go.Proofs.Ytmfcfjjcgkfblaa.Calls4 Go.Proofs.Ytmfcfjjcgkfblaa.Calls5 Go.Proofs.Ytmfcfjjcgkfblaa.Calls6
open Go.ChangeShapes Go.WideShapes Go.ChangeAt Go.RowKit
set_option linter.unusedVariables false      -- a walk need not use every 'w<i>' (that an integer argument fits its kind)

theorem own : ownKnob Try.prog.godebug = none := by kernel_rfl

theorem first_any (a b : Int) (w : World) :
    Calls Try.prog 17 #[.int .i64 a, .int .i64 b] w fun e w' => e = .returned (.int .i64 (if a = 0 then b else a)) ∧ w' = w := by
  by_cases h : a = 0
  · subst h
    go_enter Try.func17, Try.ntmps17
    go_wp2
    go_ret
    exact ⟨rfl, rfl⟩
  · rw [if_neg h]
    have h' : (a == 0) = false := by simpa using h
    go_enter Try.func17, Try.ntmps17
    go_wp2
    go_ret
    exact ⟨rfl, rfl⟩

theorem modulus_ok (m : Int) (w : World) (h1 : 1 ≤ m) (h2 : m ≤ 1048576) :
    Calls Try.prog 18 #[.int .i64 m] w fun e w' => e = .returned (.int .i64 0) ∧ w' = w := by
  have d1 : decide (m < 1) = false := by simp; omega
  have d2 : decide (1048576 < m) = false := by simp; omega
  go_enter Try.func18, Try.ntmps18
  go_wp2
  go_ret
  exact ⟨rfl, rfl⟩

theorem modulus_no (m : Int) (w : World) (h : m < 1 ∨ 1048576 < m) :
    Calls Try.prog 18 #[.int .i64 m] w fun e w' => e = .returned (.int .i64 2) ∧ w' = w := by
  by_cases h1 : m < 1
  · have d1 : decide (m < 1) = true := by simpa using h1
    clear h
    go_enter Try.func18, Try.ntmps18
    go_wp2
    go_ret
    exact ⟨rfl, rfl⟩
  · have d1 : decide (m < 1) = false := by simpa using h1
    have d2 : decide (1048576 < m) = true := by simp; omega
    clear h
    go_enter Try.func18, Try.ntmps18
    go_wp2
    go_ret
    exact ⟨rfl, rfl⟩

theorem far_case (a0 a1 : Int) (w : World) (h : a0 < -2147483648 ∨ 2147483648 < a0) :
    Calls Try.prog 6 #[.int .i64 a0, .int .i64 a1] w fun e w' => e = .returned (.bool true) ∧ Grown w w' := by
  have H := hid h
  clear h
  by_cases hm : a1 < 1 ∨ 1048576 < a1
  · have HM := hid hm
    clear hm
    go_enter Try.func6, Try.ntmps6
    go_wp2_with (first
      | (go_at_call 16; refine (Inverse_far _ _ _ H.out).mono ?_; rintro e w' ⟨rfl, hg⟩)
      | (go_at_call 10; refine (both_no _ _ _ (Or.inl H.out)).mono ?_; rintro e w' ⟨rfl, rfl⟩)
      | (go_at_call 18; refine (modulus_no _ _ HM.out).mono ?_; rintro e w' ⟨rfl, rfl⟩)
      | (go_at_call 17; refine (first_any _ _ _).mono ?_; rintro e w' ⟨rfl, rfl⟩))
    go_ret
    exact ⟨rfl, hg⟩
  · have m1 : 1 ≤ a1 := by omega
    have m2 : a1 ≤ 1048576 := by omega
    clear hm
    go_enter Try.func6, Try.ntmps6
    go_wp2_with (first
      | (go_at_call 16; refine (Inverse_far _ _ _ H.out).mono ?_; rintro e w' ⟨rfl, hg⟩)
      | (go_at_call 10; refine (both_no _ _ _ (Or.inl H.out)).mono ?_; rintro e w' ⟨rfl, rfl⟩)
      | (go_at_call 18; refine (modulus_ok _ _ m1 m2).mono ?_; rintro e w' ⟨rfl, rfl⟩)
      | (go_at_call 17; refine (first_any _ _ _).mono ?_; rintro e w' ⟨rfl, rfl⟩))
    go_ret
    exact ⟨rfl, hg⟩

theorem mod_case (a0 a1 : Int) (w : World) (n1 : -2147483648 ≤ a0) (n2 : a0 ≤ 2147483648) (hm : a1 < 1 ∨ 1048576 < a1) :
    Calls Try.prog 6 #[.int .i64 a0, .int .i64 a1] w fun e w' => e = .returned (.bool true) ∧ Grown w w' := by
  have HM := hid hm
  clear hm
  go_enter Try.func6, Try.ntmps6
  go_wp2_with (first
    | (go_at_call 16; refine (Inverse_mod _ _ _ n1 n2 HM.out).mono ?_; rintro e w' ⟨rfl, hg⟩)
    | (go_at_call 10; refine (both_ok _ _ _ n1 n2 (by omega) (by omega)).mono ?_; rintro e w' ⟨rfl, rfl⟩)
    | (go_at_call 18; refine (modulus_no _ _ HM.out).mono ?_; rintro e w' ⟨rfl, rfl⟩)
    | (go_at_call 17; refine (first_any _ _ _).mono ?_; rintro e w' ⟨rfl, rfl⟩))
  go_ret
  exact ⟨rfl, hg⟩

theorem none_case (a0 a1 : Int) (w : World) (n1 : -2147483648 ≤ a0) (n2 : a0 ≤ 2147483648) (m1 : 1 ≤ a1) (m2 : a1 ≤ 1048576) (hn : gg a0 a1 ≠ 1) :
    Calls Try.prog 6 #[.int .i64 a0, .int .i64 a1] w fun e w' => e = .returned (.bool true) ∧ Grown w w' := by
  have hn' : ¬ gg a0 a1 = 1 := hn
  have hn'' : (gg a0 a1 == 1) = false := by simpa using hn
  have HN := hid hn
  clear hn
  go_enter Try.func6, Try.ntmps6
  go_wp2_with (first
    | (go_at_call 16; refine (Inverse_none _ _ _ n1 n2 m1 m2 HN.out).mono ?_; rintro e w' ⟨rfl, hg⟩)
    | (go_at_call 10; refine (both_ok _ _ _ n1 n2 (by omega) (by omega)).mono ?_; rintro e w' ⟨rfl, rfl⟩)
    | (go_at_call 18; refine (modulus_ok _ _ m1 m2).mono ?_; rintro e w' ⟨rfl, rfl⟩)
    | (go_at_call 11; refine (refGcd_any _ _ _ n1 n2 (by omega) (by omega)).mono ?_; rintro e w' ⟨rfl, rfl⟩)
    | (go_at_call 17; refine (first_any _ _ _).mono ?_; rintro e w' ⟨rfl, rfl⟩))
  go_ret
  exact ⟨rfl, hg⟩

theorem inv_mod {x a m : Int} (h : m ∣ x * a - 1) : x * (a % m) % m = 1 % m := by
  have e1 : x * (a % m) % m = x * a % m := by rw [Int.mul_emod, Int.emod_emod, ← Int.mul_emod]
  rw [e1]
  exact Int.emod_eq_emod_iff_emod_sub_eq_zero.mpr (Int.emod_eq_zero_of_dvd h)

theorem yes_case (a0 a1 : Int) (w : World) (n1 : -2147483648 ≤ a0) (n2 : a0 ≤ 2147483648) (m1 : 1 ≤ a1) (m2 : a1 ≤ 1048576) (hn : gg a0 a1 = 1) :
    Calls Try.prog 6 #[.int .i64 a0, .int .i64 a1] w fun e w' => e = .returned (.bool true) ∧ Grown w w' := by
  have HN := hid hn
  clear hn
  have r0 : 0 ≤ a0 % a1 := Int.emod_nonneg _ (by omega)
  have r1 : a0 % a1 < a1 := Int.emod_lt_of_pos _ (by omega)
  have z0 : ¬ a1 = 0 := by omega
  go_enter Try.func6, Try.ntmps6
  go_wp2_with fail
  refine (Inverse_yes _ _ _ n1 n2 m1 m2 HN.out).mono ?_
  rintro e w' ⟨x, rfl, x0, x1, hx, hg⟩
  have p0 : 0 ≤ x * (a0 % a1) := Int.mul_nonneg x0 r0
  have p1 : x * (a0 % a1) ≤ 1048576 * 1048576 := Int.mul_le_mul (by omega) (by omega) r0 (by omega)
  have HX := hid (inv_mod hx)
  have t1 : decide (0 ≤ x) = true := by simpa using x0
  have t2 : decide (x < a1) = true := by simpa using x1
  clear hx
  go_wp2_with (first
    | (go_at_call 10; refine (both_ok _ _ _ n1 n2 (by omega) (by omega)).mono ?_; rintro e w' ⟨rfl, rfl⟩)
    | (go_at_call 18; refine (modulus_ok _ _ m1 m2).mono ?_; rintro e w' ⟨rfl, rfl⟩)
    | (go_at_call 11; refine (refGcd_any _ _ _ n1 n2 (by omega) (by omega)).mono ?_; rw [HN.out]; rintro e w' ⟨rfl, rfl⟩)
    | (go_at_call 17; refine (first_any _ _ _).mono ?_; rintro e w' ⟨rfl, rfl⟩))
  go_quiet ((go_at_call 19; exact Calls.quiet_of_same (refMod_any _ _ _ (by omega) (by omega))))
  go_wp2
  go_ret
  exact ⟨ret_bool (by rw [HX.out]; simp), grown_drewN hg _⟩

theorem walk (a0 : Int) (a1 : Int) (w0 : (Lit.int .i64 a0).wf = true) (w1 : (Lit.int .i64 a1).wf = true) (w : World) :
    Calls Try.prog 6 #[.int .i64 a0, .int .i64 a1] w fun e w' => e = .returned (.bool true) ∧ Grown w w' := by
  by_cases hf : a0 < -2147483648 ∨ 2147483648 < a0
  · exact far_case a0 a1 w hf
  · by_cases hm : a1 < 1 ∨ 1048576 < a1
    · exact mod_case a0 a1 w (by omega) (by omega) hm
    · by_cases hn : gg a0 a1 = 1
      · exact yes_case a0 a1 w (by omega) (by omega) (by omega) (by omega) hn
      · exact none_case a0 a1 w (by omega) (by omega) (by omega) (by omega) hn

/-! ### THE ROW's STEP: WRITTEN OUT: LEAVE IT -/
set_option maxRecDepth 100000 in
theorem lifted (os : Os) (started : os.Started) (H : Type) (enc : TypeId × Value → H) :
    ReturnsInHanded {} Try.checked os 6 .any (Rows.euclidInvertsSpec.pre6 enc Try.prog Try.f6 Rows.euclidInvertsRow.domain false) (Rows.euclidInvertsSpec.post enc Try.prog Try.f6 false true false false) := by
  refine returnsInHanded_of_change (C := Try.checked) own started (by kernel_rfl) Try.func6
    (ChangeSpec.witness6 (enc := enc) (C := Try.checked) false ⟨#[], #[.int .i64 0, .int .i64 0], []⟩ 8 (by kernel_rfl) (by kernel_rfl) (by kernel_rfl) (by kernel_rfl)) ?_
  intro W base args ds gs before hval0 hW hcnd _
  have hval : ∀ (j : Nat) t v, Try.f6.params[j]? = some t → args[j]? = some v → Value.okWide Try.prog W .any base t v := hval0
  have hW' := hW
  obtain ⟨p, q, hA0, hV, rfl, hfz, hnd⟩ := hW
  have hA : DataW.TrodAll enc Try.prog W 0 (fun _ => true) true Try.f6.params.toList args.toList ds p := hA0
  rw [Try.params6] at hA hval
  obtain ⟨v0, vs0, d0, ds0, p0, q0, hargs, rfl, rfl, h0, r0⟩ := trodAll_cons hA
  obtain ⟨v1, vs1, d1, ds1, p1, q1, rfl, rfl, rfl, h1, r1⟩ := trodAll_cons r0
  obtain ⟨rfl, rfl, rfl⟩ := trodAll_nil r1
  obtain rfl : args = #[v0, v1] := by cases args; simp_all
  obtain ⟨rfl, rfl⟩ := trodVars_none hV
  obtain ⟨a0, rfl, rfl, rfl, w0⟩ := open_int Try.underlying2 (hval 0 2 v0 rfl rfl) h0
  obtain ⟨a1, rfl, rfl, rfl, w1⟩ := open_int Try.underlying2 (hval 1 2 v1 rfl rfl) h1
  clear hA0 hval0
  simp only [List.append_nil] at hW'
  refine (walk a0 a1 w0 w1 W).mono fun e W' ⟨he, hg⟩ => ?_
  subst he
  exact ⟨_, rfl, post_of_same (pa := []) (pv := []) hW' (fun _ _ _ => (trodAll_cons_mk (shut_bool Try.underlying4 _) trodAll_mk0)) (fun sp _ => (trodAll_cons_mk (shut_int Try.underlying2 w0) (trodAll_cons_mk (shut_int Try.underlying2 w1) trodAll_mk0))) (fun _ _ => rfl) rfl
    (hg.frame _) hg.2.1 (ok_one (by kernel_rfl) rfl (okWide_bool_mk Try.underlying4 _))⟩

theorem over : Rows.euclidInvertsRow.holds Try.pinned (OpenSpec.ofChange Rows.euclidInvertsSpec) :=
  OpenClaim.holds_of_wide 6 Try.f6 rfl rfl rfl rfl rfl rfl rfl ⟨rfl, rfl, rfl, rfl, rfl⟩ rfl rfl rfl rfl rfl (by kernel_rfl) Try.func6 (by kernel_rfl)
    (of_decide_eq_true (by kernel_rfl)) (by unfold Func.isWrapper; first | (rw [if_pos (by decide +kernel)]; kernel_rfl) | (rw [if_neg (by decide +kernel)]; exact ⟨rfl, rfl⟩))
    (fun os started H enc _ => lifted os started H enc)

/-- ████ THE STATEMENT ████ -/
theorem proved : Rows.EuclidInvertsSaid :=
  over
end Go.Proofs.Ytmfcfjjcgkfblaa.euclidInverts
