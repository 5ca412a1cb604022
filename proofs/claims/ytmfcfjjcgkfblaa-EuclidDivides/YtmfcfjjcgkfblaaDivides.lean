/-
  For any two numbers and any divisor, the program's greatest common divisor divides both, and whatever divides both divides it: the statement EuclidDivides, for every input.
-/
import Derived.Test.YtmfcfjjcgkfblaaRows
import Derived.Test.YtmfcfjjcgkfblaaCalls5
import Derived.WalkKit
import Derived.ProofKit
import Derived.OpenShut
namespace Go.Proofs.Ytmfcfjjcgkfblaa.euclidDivides
open Go.Proofs.Ytmfcfjjcgkfblaa.Math Go.Proofs.Ytmfcfjjcgkfblaa.Calls1 Go.Proofs.Ytmfcfjjcgkfblaa.Calls2 Go.Proofs.Ytmfcfjjcgkfblaa.Calls3 Go.Proofs.Ytmfcfjjcgkfblaa.Calls4 Go.Proofs.Ytmfcfjjcgkfblaa.Calls5
open Go.ChangeShapes Go.WideShapes Go.ChangeAt Go.RowKit
set_option linter.unusedVariables false      -- a walk need not use every 'w<i>' (that an integer argument fits its kind)

theorem own : ownKnob Try.prog.godebug = none := by kernel_rfl

theorem tmod_zero {a d : Int} (h : d ∣ a) : (a.tmod d == 0) = true := by
  rw [Int.tmod_eq_zero_of_dvd h]; rfl

set_option maxHeartbeats 400000 in
theorem core (a0 a1 a2 g : Int) (w : World) (n1 : -2147483648 ≤ a0) (n2 : a0 ≤ 2147483648) (n3 : -2147483648 ≤ a1) (n4 : a1 ≤ 2147483648)
    (GY : Hid (∀ w, Calls Try.prog 9 #[.int .i64 a0, .int .i64 a1] w fun e w' => e = .returned (.tuple #[.int .i64 g, .int .i64 0]) ∧ Grown w w'))
    (gp : 1 ≤ g) (gl : g ≤ 2147483648) (G0 : (g == 0) = false) (G1 : decide (g < 0) = false)
    (D0 : (a0.tmod g == 0) = true) (D1 : (a1.tmod g == 0) = true) (z : ((a0 == 0) = false) ∨ ((a0 == 0) = true ∧ (a1 == 0) = false)) (hd : ¬ a2 = 0)
    (HX : Hid (a0.tmod a2 = 0 → a1.tmod a2 = 0 → g % a2 = 0)) :
    Calls Try.prog 7 #[.int .i64 a0, .int .i64 a1, .int .i64 a2] w fun e w' => e = .returned (.bool true) ∧ Grown w w' := by
  have d0 : (a2 == 0) = false := by simpa using hd
  rcases z with z | ⟨z, z'⟩
  all_goals
    go_enter Try.func7, Try.ntmps7
    go_wp2_with (first
      | (go_at_call 9; refine (GY.out _).mono ?_; rintro e w' ⟨rfl, hg⟩)
      | (go_at_call 20; refine (near_yes _ _ (by omega) (by omega)).mono ?_; rintro e w' ⟨rfl, rfl⟩))
    all_goals
      go_ret
      first
      | exact ⟨rfl, hg⟩
      | exact ⟨ret_bool (by rw [HX.out ‹_› ‹_›]; rfl), hg⟩

theorem core0 (a0 a1 g : Int) (w : World) (n1 : -2147483648 ≤ a0) (n2 : a0 ≤ 2147483648) (n3 : -2147483648 ≤ a1) (n4 : a1 ≤ 2147483648)
    (GY : Hid (∀ w, Calls Try.prog 9 #[.int .i64 a0, .int .i64 a1] w fun e w' => e = .returned (.tuple #[.int .i64 g, .int .i64 0]) ∧ Grown w w'))
    (gp : 1 ≤ g) (gl : g ≤ 2147483648) (G0 : (g == 0) = false) (G1 : decide (g < 0) = false)
    (z : ((a0 == 0) = false) ∨ ((a0 == 0) = true ∧ (a1 == 0) = false)) :
    Calls Try.prog 7 #[.int .i64 a0, .int .i64 a1, .int .i64 0] w fun e w' => e = .returned (.bool true) ∧ Grown w w' := by
  rcases z with z | ⟨z, z'⟩
  all_goals
    go_enter Try.func7, Try.ntmps7
    go_wp2_with (first
      | (go_at_call 9; refine (GY.out _).mono ?_; rintro e w' ⟨rfl, hg⟩)
      | (go_at_call 20; refine (near_yes _ _ (by omega) (by omega)).mono ?_; rintro e w' ⟨rfl, rfl⟩))
    go_ret
    exact ⟨rfl, hg⟩

theorem walk (a0 : Int) (a1 : Int) (a2 : Int) (w0 : (Lit.int .i64 a0).wf = true) (w1 : (Lit.int .i64 a1).wf = true) (w2 : (Lit.int .i64 a2).wf = true) (w : World) :
    Calls Try.prog 7 #[.int .i64 a0, .int .i64 a1, .int .i64 a2] w fun e w' => e = .returned (.bool true) ∧ Grown w w' := by
  by_cases hf : (a0 < -2147483648 ∨ 2147483648 < a0) ∨ (a1 < -2147483648 ∨ 2147483648 < a1)
  · have H : Hid ((a0 < -2147483648 ∨ 2147483648 < a0) ∨ (a1 < -2147483648 ∨ 2147483648 < a1)) := hf
    by_cases hf0 : a0 < -2147483648 ∨ 2147483648 < a0
    · have H0 : Hid (a0 < -2147483648 ∨ 2147483648 < a0) := hf0
      clear hf hf0 w0 w1 w2
      go_enter Try.func7, Try.ntmps7
      go_wp2_with (first
        | (go_at_call 9; refine (Gcd_no _ _ _ H.out).mono ?_; rintro e w' ⟨rfl, hg⟩)
        | (go_at_call 20; refine (near_no _ _ H0.out).mono ?_; rintro e w' ⟨rfl, rfl⟩))
      go_ret
      exact ⟨rfl, hg⟩
    · have hf1 : a1 < -2147483648 ∨ 2147483648 < a1 := by omega
      have H1 : Hid (a1 < -2147483648 ∨ 2147483648 < a1) := hf1
      have n1 : -2147483648 ≤ a0 := by omega
      have n2 : a0 ≤ 2147483648 := by omega
      clear hf hf0 hf1 w0 w1 w2
      go_enter Try.func7, Try.ntmps7
      go_wp2_with fail
      refine (Gcd_no _ _ _ H.out).mono ?_
      rintro e w' ⟨rfl, hg⟩
      go_wp2_with fail
      refine (near_yes _ _ n1 n2).mono ?_
      rintro e w'' ⟨rfl, rfl⟩
      go_wp2_with fail
      refine (near_no _ _ H1.out).mono ?_
      rintro e w'' ⟨rfl, rfl⟩
      go_wp2_with fail
      go_ret
      exact ⟨rfl, hg⟩
  · have n1 : -2147483648 ≤ a0 := by omega
    have n2 : a0 ≤ 2147483648 := by omega
    have n3 : -2147483648 ≤ a1 := by omega
    have n4 : a1 ≤ 2147483648 := by omega
    clear hf w0 w1
    by_cases hz : a0 = 0 ∧ a1 = 0
    · obtain ⟨rfl, rfl⟩ := hz
      have gz : Hid (gg 0 0 = 0) := gg_zero_left (Int.le_refl 0)
      go_enter Try.func7, Try.ntmps7
      go_wp2_with (first
        | (go_at_call 9; refine (Gcd_yes _ _ _ n1 n2 n3 n4).mono ?_; rw [gz.out]; rintro e w' ⟨rfl, hg⟩)
        | (go_at_call 20; refine (near_yes _ _ (by omega) (by omega)).mono ?_; rintro e w' ⟨rfl, rfl⟩))
      go_ret
      exact ⟨rfl, hg⟩
    · have GY := fun w => Gcd_yes a0 a1 w n1 n2 n3 n4
      have gp : 1 ≤ gg a0 a1 := gg_pos (by omega)
      have gl : gg a0 a1 ≤ 2147483648 := by rw [← gg_abs]; exact gg_le (by omega) (by omega) (by omega) (by omega)
      have z : ((a0 == 0) = false) ∨ ((a0 == 0) = true ∧ (a1 == 0) = false) := by simp; omega
      by_cases hd : a2 = 0
      · subst hd
        exact core0 a0 a1 (gg a0 a1) w n1 n2 n3 n4 GY gp gl (by simp; omega) (by simp; omega) z
      · refine core a0 a1 a2 (gg a0 a1) w n1 n2 n3 n4 GY gp gl (by simp; omega) (by simp; omega) (tmod_zero (gg_left a0 a1)) (tmod_zero (gg_right a0 a1)) z hd ?_
        intro h1 h2
        exact Int.emod_eq_zero_of_dvd (gg_great (Int.dvd_of_tmod_eq_zero h1) (Int.dvd_of_tmod_eq_zero h2))

/-! ### THE ROW's STEP: WRITTEN OUT: LEAVE IT -/
set_option maxRecDepth 100000 in
theorem lifted (os : Os) (started : os.Started) (H : Type) (enc : TypeId × Value → H) :
    ReturnsInHanded {} Try.checked os 7 .any (Rows.euclidDividesSpec.pre6 enc Try.prog Try.f7 Rows.euclidDividesRow.domain false) (Rows.euclidDividesSpec.post enc Try.prog Try.f7 false true false false) := by
  refine returnsInHanded_of_change (C := Try.checked) own started (by kernel_rfl) Try.func7
    (ChangeSpec.witness6 (enc := enc) (C := Try.checked) false ⟨#[], #[.int .i64 0, .int .i64 0, .int .i64 0], []⟩ 8 (by kernel_rfl) (by kernel_rfl) (by kernel_rfl) (by kernel_rfl)) ?_
  intro W base args ds gs before hval0 hW hcnd _
  have hval : ∀ (j : Nat) t v, Try.f7.params[j]? = some t → args[j]? = some v → Value.okWide Try.prog W .any base t v := hval0
  have hW' := hW
  obtain ⟨p, q, hA0, hV, rfl, hfz, hnd⟩ := hW
  have hA : DataW.TrodAll enc Try.prog W 0 (fun _ => true) true Try.f7.params.toList args.toList ds p := hA0
  rw [Try.params7] at hA hval
  obtain ⟨v0, vs0, d0, ds0, p0, q0, hargs, rfl, rfl, h0, r0⟩ := trodAll_cons hA
  obtain ⟨v1, vs1, d1, ds1, p1, q1, rfl, rfl, rfl, h1, r1⟩ := trodAll_cons r0
  obtain ⟨v2, vs2, d2, ds2, p2, q2, rfl, rfl, rfl, h2, r2⟩ := trodAll_cons r1
  obtain ⟨rfl, rfl, rfl⟩ := trodAll_nil r2
  obtain rfl : args = #[v0, v1, v2] := by cases args; simp_all
  obtain ⟨rfl, rfl⟩ := trodVars_none hV
  obtain ⟨a0, rfl, rfl, rfl, w0⟩ := open_int Try.underlying2 (hval 0 2 v0 rfl rfl) h0
  obtain ⟨a1, rfl, rfl, rfl, w1⟩ := open_int Try.underlying2 (hval 1 2 v1 rfl rfl) h1
  obtain ⟨a2, rfl, rfl, rfl, w2⟩ := open_int Try.underlying2 (hval 2 2 v2 rfl rfl) h2
  clear hA0 hval0
  simp only [List.append_nil] at hW'
  refine (walk a0 a1 a2 w0 w1 w2 W).mono fun e W' ⟨he, hg⟩ => ?_
  subst he
  exact ⟨_, rfl, post_of_same (pa := []) (pv := []) hW' (fun _ _ _ => (trodAll_cons_mk (shut_bool Try.underlying4 _) trodAll_mk0)) (fun sp _ => (trodAll_cons_mk (shut_int Try.underlying2 w0) (trodAll_cons_mk (shut_int Try.underlying2 w1) (trodAll_cons_mk (shut_int Try.underlying2 w2) trodAll_mk0)))) (fun _ _ => rfl) rfl
    (hg.frame _) hg.2.1 (ok_one (by kernel_rfl) rfl (okWide_bool_mk Try.underlying4 _))⟩

theorem over : Rows.euclidDividesRow.holds Try.pinned (OpenSpec.ofChange Rows.euclidDividesSpec) :=
  OpenClaim.holds_of_wide 7 Try.f7 rfl rfl rfl rfl rfl rfl rfl ⟨rfl, rfl, rfl, rfl, rfl⟩ rfl rfl rfl rfl rfl (by kernel_rfl) Try.func7 (by kernel_rfl)
    (of_decide_eq_true (by kernel_rfl)) (by unfold Func.isWrapper; first | (rw [if_pos (by decide +kernel)]; kernel_rfl) | (rw [if_neg (by decide +kernel)]; exact ⟨rfl, rfl⟩))
    (fun os started H enc _ => lifted os started H enc)

/-- ████ THE STATEMENT ████ -/
theorem proved : Rows.EuclidDividesSaid :=
  over
end Go.Proofs.Ytmfcfjjcgkfblaa.euclidDivides
