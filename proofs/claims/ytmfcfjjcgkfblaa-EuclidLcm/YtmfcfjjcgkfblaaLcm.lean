/-
  For any two 64-bit numbers the program's greatest common divisor and least common multiple together are as much as both numbers: the statement EuclidLcm, for every input.
-/
import Derived.Test.YtmfcfjjcgkfblaaRows
import Derived.Test.YtmfcfjjcgkfblaaCalls5
import Derived.WalkKit
import Derived.ProofKit
import Derived.OpenShut
namespace Go.Proofs.Ytmfcfjjcgkfblaa.euclidLcm
open Go.Proofs.Ytmfcfjjcgkfblaa.Math Go.Proofs.Ytmfcfjjcgkfblaa.Calls1 Go.Proofs.Ytmfcfjjcgkfblaa.Calls2 Go.Proofs.Ytmfcfjjcgkfblaa.Calls3 Go.Proofs.Ytmfcfjjcgkfblaa.Calls4 Go.Proofs.Ytmfcfjjcgkfblaa.Calls5
open Go.ChangeShapes Go.WideShapes Go.ChangeAt Go.RowKit
set_option linter.unusedVariables false      -- a walk need not use every 'w<i>' (that an integer argument fits its kind)

theorem own : ownKnob Try.prog.godebug = none := by kernel_rfl

theorem walk (a0 : Int) (a1 : Int) (w0 : (Lit.int .i64 a0).wf = true) (w1 : (Lit.int .i64 a1).wf = true) (w : World) :
    Calls Try.prog 8 #[.int .i64 a0, .int .i64 a1] w fun e w' => e = .returned (.bool true) ∧ Grown w w' := by
  by_cases hf : (a0 < -2147483648 ∨ 2147483648 < a0) ∨ (a1 < -2147483648 ∨ 2147483648 < a1)
  · have H : Hid ((a0 < -2147483648 ∨ 2147483648 < a0) ∨ (a1 < -2147483648 ∨ 2147483648 < a1)) := hf
    by_cases hf0 : a0 < -2147483648 ∨ 2147483648 < a0
    · have H0 : Hid (a0 < -2147483648 ∨ 2147483648 < a0) := hf0
      clear hf hf0 w0 w1
      go_enter Try.func8, Try.ntmps8
      go_wp2_with (first
        | (go_at_call 9; refine (Gcd_no _ _ _ H.out).mono ?_; rintro e w' ⟨rfl, hg⟩)
        | (go_at_call 12; refine (Lcm_no _ _ _ H.out).mono ?_; rintro e w' ⟨rfl, hg2⟩)
        | (go_at_call 20; refine (near_no _ _ H0.out).mono ?_; rintro e w' ⟨rfl, rfl⟩))
      go_ret
      exact ⟨rfl, grown_trans hg hg2⟩
    · have hf1 : a1 < -2147483648 ∨ 2147483648 < a1 := by omega
      have H1 : Hid (a1 < -2147483648 ∨ 2147483648 < a1) := hf1
      have n1 : -2147483648 ≤ a0 := by omega
      have n2 : a0 ≤ 2147483648 := by omega
      clear hf hf0 hf1 w0 w1
      go_enter Try.func8, Try.ntmps8
      go_wp2_with fail
      refine (Gcd_no _ _ _ H.out).mono ?_
      rintro e w' ⟨rfl, hg⟩
      go_wp2_with fail
      refine (Lcm_no _ _ _ H.out).mono ?_
      rintro e w' ⟨rfl, hg2⟩
      go_wp2_with fail
      refine (near_yes _ _ n1 n2).mono ?_
      rintro e w'' ⟨rfl, rfl⟩
      go_wp2_with fail
      refine (near_no _ _ H1.out).mono ?_
      rintro e w'' ⟨rfl, rfl⟩
      go_wp2_with fail
      go_ret
      exact ⟨rfl, grown_trans hg hg2⟩
  · have n1 : -2147483648 ≤ a0 := by omega
    have n2 : a0 ≤ 2147483648 := by omega
    have n3 : -2147483648 ≤ a1 := by omega
    have n4 : a1 ≤ 2147483648 := by omega
    clear hf w0 w1
    by_cases hz : a0 = 0 ∧ a1 = 0
    · obtain ⟨rfl, rfl⟩ := hz
      have gz : Hid (gg 0 0 = 0) := gg_zero_left (Int.le_refl 0)
      have lz : Hid (ll 0 0 = 0) := ll_zero_left 0
      go_enter Try.func8, Try.ntmps8
      go_wp2_with (first
        | (go_at_call 9; refine (Gcd_yes _ _ _ n1 n2 n3 n4).mono ?_; rw [gz.out]; rintro e w' ⟨rfl, hg⟩)
        | (go_at_call 12; refine (Lcm_yes _ _ _ n1 n2 n3 n4).mono ?_; rw [lz.out]; rintro e w' ⟨rfl, hg2⟩)
        | (go_at_call 20; refine (near_yes _ _ (by omega) (by omega)).mono ?_; rintro e w' ⟨rfl, rfl⟩))
      go_ret
      exact ⟨rfl, grown_trans hg hg2⟩
    · obtain ⟨g1, q0, q1, l0, l1⟩ := ll_bd (a := a0) (b := a1) (by omega) n1 n2 n3 n4
      have G0 : (gg a0 a1 == 0) = false := by simp; omega
      have G1 : ¬ gg a0 a1 = 0 := by omega
      clear hz
      have L : Hid (ll a0 a1 = (a0.natAbs : Int) / gg a0 a1 * (a1.natAbs : Int)) := rfl
      unfold ll at l0 l1
      go_enter Try.func8, Try.ntmps8
      go_wp2_with (first
        | (go_at_call 9; refine (Gcd_yes _ _ _ n1 n2 n3 n4).mono ?_; rintro e w' ⟨rfl, hg⟩)
        | (go_at_call 12; refine (Lcm_yes _ _ _ n1 n2 n3 n4).mono ?_; rintro e w' ⟨rfl, hg2⟩)
        | (go_at_call 20; refine (near_yes _ _ (by omega) (by omega)).mono ?_; rintro e w' ⟨rfl, rfl⟩))
      go_quiet ((go_at_call 15; exact Calls.quiet_of_same (refAbs_any _ _ (by omega) (by omega))))
      go_wp2
      go_ret
      exact ⟨ret_bool (by rw [L.out]; simp), grown_drewN (grown_trans hg hg2) _⟩

/-! ### THE ROW's STEP: WRITTEN OUT: LEAVE IT -/
set_option maxRecDepth 100000 in
theorem lifted (os : Os) (started : os.Started) (H : Type) (enc : TypeId × Value → H) :
    ReturnsInHanded {} Try.checked os 8 .any (Rows.euclidLcmSpec.pre6 enc Try.prog Try.f8 Rows.euclidLcmRow.domain false) (Rows.euclidLcmSpec.post enc Try.prog Try.f8 false true false false) := by
  refine returnsInHanded_of_change (C := Try.checked) own started (by kernel_rfl) Try.func8
    (ChangeSpec.witness6 (enc := enc) (C := Try.checked) false ⟨#[], #[.int .i64 0, .int .i64 0], []⟩ 8 (by kernel_rfl) (by kernel_rfl) (by kernel_rfl) (by kernel_rfl)) ?_
  intro W base args ds gs before hval0 hW hcnd _
  have hval : ∀ (j : Nat) t v, Try.f8.params[j]? = some t → args[j]? = some v → Value.okWide Try.prog W .any base t v := hval0
  have hW' := hW
  obtain ⟨p, q, hA0, hV, rfl, hfz, hnd⟩ := hW
  have hA : DataW.TrodAll enc Try.prog W 0 (fun _ => true) true Try.f8.params.toList args.toList ds p := hA0
  rw [Try.params8] at hA hval
  obtain ⟨v0, vs0, d0, ds0, p0, q0, hargs, rfl, rfl, h0, r0⟩ := trodAll_cons hA
  obtain ⟨v1, vs1, d1, ds1, p1, q1, rfl, rfl, rfl, h1, r1⟩ := trodAll_cons r0
  obtain ⟨rfl, rfl, rfl⟩ := trodAll_nil r1
  obtain rfl : args = #[v0, v1] := by cases args; simp_all
  obtain ⟨rfl, rfl⟩ := trodVars_none hV
  obtain ⟨a0, rfl, rfl, rfl, w0⟩ := open_int Try.underlying2 (hval 0 2 v0 rfl rfl) h0
  obtain ⟨a1, rfl, rfl, rfl, w1⟩ := open_int Try.underlying2 (hval 1 2 v1 rfl rfl) h1
  clear hA0 hval0
  simp only [List.append_nil] at hW'
  refine (walk a0 a1 w0 w1 W).mono fun e W' ⟨he, hg⟩ => ?_
  subst he
  exact ⟨_, rfl, post_of_same (pa := []) (pv := []) hW' (fun _ _ _ => (trodAll_cons_mk (shut_bool Try.underlying4 _) trodAll_mk0)) (fun sp _ => (trodAll_cons_mk (shut_int Try.underlying2 w0) (trodAll_cons_mk (shut_int Try.underlying2 w1) trodAll_mk0))) (fun _ _ => rfl) rfl
    (hg.frame _) hg.2.1 (ok_one (by kernel_rfl) rfl (okWide_bool_mk Try.underlying4 _))⟩

theorem over : Rows.euclidLcmRow.holds Try.pinned (OpenSpec.ofChange Rows.euclidLcmSpec) :=
  OpenClaim.holds_of_wide 8 Try.f8 rfl rfl rfl rfl rfl rfl rfl ⟨rfl, rfl, rfl, rfl, rfl⟩ rfl rfl rfl rfl rfl (by kernel_rfl) Try.func8 (by kernel_rfl)
    (of_decide_eq_true (by kernel_rfl)) (by unfold Func.isWrapper; first | (rw [if_pos (by decide +kernel)]; kernel_rfl) | (rw [if_neg (by decide +kernel)]; exact ⟨rfl, rfl⟩))
    (fun os started H enc _ => lifted os started H enc)

/-- ████ THE STATEMENT ████ -/
theorem proved : Rows.EuclidLcmSaid :=
  over
end Go.Proofs.Ytmfcfjjcgkfblaa.euclidLcm
