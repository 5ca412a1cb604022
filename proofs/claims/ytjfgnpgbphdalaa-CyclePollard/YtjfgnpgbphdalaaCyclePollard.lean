/-
  POLLARD: for any numbers, what is found divides, and is more than 1, and it is found by the time that all has come round; with no condition.
-/
import Derived.Test.YtjfgnpgbphdalaaRows
import Derived.Test.YtjfgnpgbphdalaaCalls55
import Derived.WalkKit
import Derived.ProofKit
import Derived.OpenShut
namespace Go.Proofs.Ytjfgnpgbphdalaa.cyclePollard
open Go.Proofs.Ytjfgnpgbphdalaa.Num Go.Proofs.Ytjfgnpgbphdalaa.Num13 Go.Proofs.Ytjfgnpgbphdalaa.Num18 Go.Proofs.Ytjfgnpgbphdalaa.Num33 Go.Proofs.Ytjfgnpgbphdalaa.Calls8 Go.Proofs.Ytjfgnpgbphdalaa.Calls9 Go.Proofs.Ytjfgnpgbphdalaa.Calls19 Go.Proofs.Ytjfgnpgbphdalaa.Calls20 Go.Proofs.Ytjfgnpgbphdalaa.Calls54 Go.Proofs.Ytjfgnpgbphdalaa.Calls55
open Go.ChangeShapes Go.WideShapes Go.ChangeAt Go.RowKit
set_option linter.unusedVariables false      -- a walk need not use every 'w<i>' (that an integer argument fits its kind)

theorem own : ownKnob Try.prog.godebug = none := by kernel_rfl

theorem Split_err (c n x : Int) (h : ¬ (((Nr c ∧ Nr x) ∧ Md n) ∧ ¬ n = 1)) : ∃ k : Int, ((k != 0) = true ∧ (k == 0) = false) ∧ ∀ w, Calls Try.prog 12 #[.int .i64 c, .int .i64 n, .int .i64 x] w fun e w' => e = .returned (.tuple #[.int .i64 0, .int .i64 0, .int .i64 k]) ∧ Below w.heap.size w w' := by
  by_cases h1 : (Nr c ∧ Nr x) ∧ Md n
  · have h2 : n = 1 := by
      rcases Classical.em (n = 1) with e | e
      · exact e
      · exact absurd ⟨h1, e⟩ h
    subst h2
    exact ⟨5, ⟨rfl, rfl⟩, fun w => Split_one c x h1.1.1 h1.1.2 w⟩
  · exact ⟨2, ⟨rfl, rfl⟩, fun w => Split_far c n x h1 w⟩

theorem Cycle_some (c n x : Int) : ∃ t s k : Int, ∀ w, Calls Try.prog 7 #[.int .i64 c, .int .i64 n, .int .i64 x] w fun e w' => e = .returned (.tuple #[.int .i64 t, .int .i64 s, .int .i64 k]) ∧ Below w.heap.size w w' := by
  by_cases h : (Nr c ∧ Nr x) ∧ Md n
  · obtain ⟨⟨hc, hx⟩, h1, h2⟩ := h
    obtain ⟨m, rfl⟩ : ∃ m : Nat, n = (m : Int) := ⟨n.toNat, by omega⟩
    obtain ⟨t, s, hR, hts⟩ := wk_rho (c := rs c m) (rs_lt x (show 1 ≤ m by omega))
    exact ⟨t, s, 0, fun w => Cycle_yes c x m t s hc hx (by omega) (by omega) hR hts w⟩
  · exact ⟨0, 0, 2, fun w => Cycle_far c n x h w⟩

set_option maxRecDepth 100000 in
/-- What the gate lets by, and n is not 1. -/
theorem walk_main (a0 a2 : Int) (n : Nat) (hc : Nr a0) (hx : Nr a2) (hn1 : 2 ≤ n) (hn2 : n ≤ 1048576) (w : World) :
    Calls Try.prog 6 #[.int .i64 a0, .int .i64 (n : Int), .int .i64 a2] w fun e w' => e = .returned (.bool true) ∧ Below w.heap.size w w' := by
  have cK := fun w => kmodulus_yes (n : Int) (by omega) (by omega) w
  have cN0 := fun w => near_any a0 w
  rw [decide_eq_true (show -2147483648 ≤ a0 ∧ a0 ≤ 2147483648 from hc)] at cN0
  have cN2 := fun w => near_any a2 w
  rw [decide_eq_true (show -2147483648 ≤ a2 ∧ a2 ≤ 2147483648 from hx)] at cN2
  obtain ⟨t, s, hR, hts⟩ := wk_rho (c := rs a0 n) (rs_lt a2 (show 1 ≤ n by omega))
  obtain ⟨m, hm, hml⟩ := fst_ex hR hn1
  have cS := fun w => Split_yes a0 a2 n m hc hx hn1 hn2 hm (by omega) w
  have cC := fun w => Cycle_yes a0 a2 n t s hc hx (by omega) hn2 hR hts w
  have hm1 := hm.pos
  have hne := hm.ne
  have hp := cm_pos (c := rs a0 n) (x := rs a2 n) (show 1 ≤ n by omega) m
  have hd := cm_dvd (rs a0 n) n (rs a2 n) m
  generalize cm (rs a0 n) n (rs a2 n) m = g at cS hne hp hd
  have hg : 1 < g := by omega
  have hg0 : ¬ g = 0 := by omega
  have hd1 : (n : Int) % g = 0 := Int.emod_eq_zero_of_dvd hd
  have e1 : ((n : Int) == 1) = false := beq_one (by omega)
  have e2 : ¬ (n : Int) = 1 := by omega
  have e3 : (m : Int) ≤ (t : Int) + (s : Int) := by omega
  have e4 : 1 ≤ (m : Int) := by omega
  clear hR hm hc hx hne hp hd
  go_enter Try.func6, Try.ntmps6
  go_wp2_with (first | (go_at_call 12; refine (cS _).mono ?_; rintro e w_hB1 ⟨rfl, hB1⟩) | (go_at_call 7; refine (cC _).mono ?_; rintro e w_hB2 ⟨rfl, hB2⟩) | (go_at_call 14; refine (cN0 _).mono ?_; rintro e w' ⟨rfl, hw⟩; subst w'; clear cN0) | (go_at_call 14; refine (cN2 _).mono ?_; rintro e w' ⟨rfl, hw⟩; subst w'; clear cN2) | (go_at_call 15; refine (cK _).mono ?_; rintro e w' ⟨rfl, hw⟩; subst w'))
  go_ret
  exact ⟨rfl, below_trans hB1 hB2⟩

theorem walk (a0 : Int) (a1 : Int) (a2 : Int) (w0 : (Lit.int .i64 a0).wf = true) (w1 : (Lit.int .i64 a1).wf = true) (w2 : (Lit.int .i64 a2).wf = true) (w : World) :
    Calls Try.prog 6 #[.int .i64 a0, .int .i64 a1, .int .i64 a2] w fun e w' => e = .returned (.bool true) ∧ Below w.heap.size w w' := by
  by_cases hm : Md a1
  · have cK := fun w => kmodulus_yes a1 hm.1 hm.2 w
    have cN0 := fun w => near_any a0 w
    by_cases hc : -2147483648 ≤ a0 ∧ a0 ≤ 2147483648
    · rw [decide_eq_true hc] at cN0
      have cN2 := fun w => near_any a2 w
      by_cases hx : -2147483648 ≤ a2 ∧ a2 ≤ 2147483648
      · by_cases h1 : a1 = 1
        · rw [decide_eq_true hx] at cN2
          obtain ⟨k, ⟨e1, e2⟩, cS⟩ := Split_err a0 a1 a2 (fun h => h.2 h1)
          obtain ⟨t, s, k', cC⟩ := Cycle_some a0 a1 a2
          subst h1
          clear hm hc hx
          go_enter Try.func6, Try.ntmps6
          go_wp2_with (first | (go_at_call 12; refine (cS _).mono ?_; rintro e w_hB1 ⟨rfl, hB1⟩) | (go_at_call 7; refine (cC _).mono ?_; rintro e w_hB2 ⟨rfl, hB2⟩) | (go_at_call 14; refine (cN0 _).mono ?_; rintro e w' ⟨rfl, hw⟩; subst w'; clear cN0) | (go_at_call 14; refine (cN2 _).mono ?_; rintro e w' ⟨rfl, hw⟩; subst w'; clear cN2) | (go_at_call 15; refine (cK _).mono ?_; rintro e w' ⟨rfl, hw⟩; subst w'))
          go_ret
          exact ⟨rfl, below_trans hB1 hB2⟩
        · obtain ⟨n, rfl⟩ : ∃ n : Nat, a1 = (n : Int) := ⟨a1.toNat, by omega⟩
          exact walk_main a0 a2 n hc hx (by omega) (by omega) w
      · rw [decide_eq_false hx] at cN2
        obtain ⟨k, ⟨e1, e2⟩, cS⟩ := Split_err a0 a1 a2 (fun h => hx h.1.1.2)
        obtain ⟨t, s, k', cC⟩ := Cycle_some a0 a1 a2
        clear hm hc hx
        go_enter Try.func6, Try.ntmps6
        go_wp2_with (first | (go_at_call 12; refine (cS _).mono ?_; rintro e w_hB1 ⟨rfl, hB1⟩) | (go_at_call 7; refine (cC _).mono ?_; rintro e w_hB2 ⟨rfl, hB2⟩) | (go_at_call 14; refine (cN0 _).mono ?_; rintro e w' ⟨rfl, hw⟩; subst w'; clear cN0) | (go_at_call 14; refine (cN2 _).mono ?_; rintro e w' ⟨rfl, hw⟩; subst w'; clear cN2) | (go_at_call 15; refine (cK _).mono ?_; rintro e w' ⟨rfl, hw⟩; subst w'))
        go_ret
        exact ⟨rfl, below_trans hB1 hB2⟩
    · rw [decide_eq_false hc] at cN0
      obtain ⟨k, ⟨e1, e2⟩, cS⟩ := Split_err a0 a1 a2 (fun h => hc h.1.1.1)
      obtain ⟨t, s, k', cC⟩ := Cycle_some a0 a1 a2
      clear hm hc
      go_enter Try.func6, Try.ntmps6
      go_wp2_with (first | (go_at_call 12; refine (cS _).mono ?_; rintro e w_hB1 ⟨rfl, hB1⟩) | (go_at_call 7; refine (cC _).mono ?_; rintro e w_hB2 ⟨rfl, hB2⟩) | (go_at_call 14; refine (cN0 _).mono ?_; rintro e w' ⟨rfl, hw⟩; subst w'; clear cN0) | (go_at_call 15; refine (cK _).mono ?_; rintro e w' ⟨rfl, hw⟩; subst w'))
      go_ret
      exact ⟨rfl, below_trans hB1 hB2⟩
  · have cK := fun w => kmodulus_no a1 hm w
    obtain ⟨k, ⟨e1, e2⟩, cS⟩ := Split_err a0 a1 a2 (fun h => hm h.1.2)
    obtain ⟨t, s, k', cC⟩ := Cycle_some a0 a1 a2
    have cN0 := fun w => near_any a0 w
    by_cases hc : -2147483648 ≤ a0 ∧ a0 ≤ 2147483648
    · rw [decide_eq_true hc] at cN0
      have cN2 := fun w => near_any a2 w
      generalize decide (-2147483648 ≤ a2 ∧ a2 ≤ 2147483648) = b at cN2
      clear hm hc
      cases b
      all_goals
        go_enter Try.func6, Try.ntmps6
        go_wp2_with (first | (go_at_call 12; refine (cS _).mono ?_; rintro e w_hB1 ⟨rfl, hB1⟩) | (go_at_call 7; refine (cC _).mono ?_; rintro e w_hB2 ⟨rfl, hB2⟩) | (go_at_call 14; refine (cN0 _).mono ?_; rintro e w' ⟨rfl, hw⟩; subst w'; clear cN0) | (go_at_call 14; refine (cN2 _).mono ?_; rintro e w' ⟨rfl, hw⟩; subst w'; clear cN2) | (go_at_call 15; refine (cK _).mono ?_; rintro e w' ⟨rfl, hw⟩; subst w'))
        go_ret
        exact ⟨rfl, below_trans hB1 hB2⟩
    · rw [decide_eq_false hc] at cN0
      clear hm hc
      go_enter Try.func6, Try.ntmps6
      go_wp2_with (first | (go_at_call 12; refine (cS _).mono ?_; rintro e w_hB1 ⟨rfl, hB1⟩) | (go_at_call 7; refine (cC _).mono ?_; rintro e w_hB2 ⟨rfl, hB2⟩) | (go_at_call 14; refine (cN0 _).mono ?_; rintro e w' ⟨rfl, hw⟩; subst w'; clear cN0) | (go_at_call 15; refine (cK _).mono ?_; rintro e w' ⟨rfl, hw⟩; subst w'))
      go_ret
      exact ⟨rfl, below_trans hB1 hB2⟩

/-! ### THE ROW's STEP: WRITTEN OUT: LEAVE IT -/
set_option maxRecDepth 100000 in
theorem lifted (os : Os) (started : os.Started) (H : Type) (enc : TypeId × Value → H) :
    ReturnsInHanded {} Try.checked os 6 .any (Rows.cyclePollardSpec.pre6 enc Try.prog Try.f6 Rows.cyclePollardRow.domain false) (Rows.cyclePollardSpec.post enc Try.prog Try.f6 false true false false) := by
  refine returnsInHanded_of_change (C := Try.checked) own started (by kernel_rfl) Try.func6
    (ChangeSpec.witness6 (enc := enc) (C := Try.checked) false ⟨#[], #[.int .i64 0, .int .i64 0, .int .i64 0], []⟩ 8 (by kernel_rfl) (by kernel_rfl) (by kernel_rfl) (by kernel_rfl)) ?_
  intro W base args ds gs before hval0 hW hcnd _
  have hval : ∀ (j : Nat) t v, Try.f6.params[j]? = some t → args[j]? = some v → Value.okWide Try.prog W .any base t v := hval0
  have hW' := hW
  obtain ⟨p, q, hA0, hV, rfl, hfz, hnd⟩ := hW
  have hA : DataW.TrodAll enc Try.prog W 0 (fun _ => true) true Try.f6.params.toList args.toList ds p := hA0
  rw [Try.params6] at hA hval
  obtain ⟨v0, vs0, d0, ds0, p0, q0, hargs, rfl, rfl, h0, r0⟩ := trodAll_cons hA
  obtain ⟨v1, vs1, d1, ds1, p1, q1, rfl, rfl, rfl, h1, r1⟩ := trodAll_cons r0
  obtain ⟨v2, vs2, d2, ds2, p2, q2, rfl, rfl, rfl, h2, r2⟩ := trodAll_cons r1
  obtain ⟨rfl, rfl, rfl⟩ := trodAll_nil r2
  obtain rfl : args = #[v0, v1, v2] := by cases args; simp_all
  obtain ⟨rfl, rfl⟩ := trodVars_none hV
  obtain ⟨a0, rfl, rfl, rfl, w0⟩ := open_int Try.underlying2 (hval 0 2 v0 rfl rfl) h0
  obtain ⟨a1, rfl, rfl, rfl, w1⟩ := open_int Try.underlying2 (hval 1 2 v1 rfl rfl) h1
  obtain ⟨a2, rfl, rfl, rfl, w2⟩ := open_int Try.underlying2 (hval 2 2 v2 rfl rfl) h2
  clear hA0 hval0
  simp only [List.append_nil] at hW'
  refine (walk a0 a1 a2 w0 w1 w2 W).mono fun e W' ⟨he, hg⟩ => ?_
  subst he
  exact ⟨_, rfl, post_of_kept (pa := []) (pv := []) hW' (fun _ _ _ => (trodAll_cons_mk (shut_bool Try.underlying4 _) trodAll_mk0)) (fun sp _ => (trodAll_cons_mk (shut_int Try.underlying2 w0) (trodAll_cons_mk (shut_int Try.underlying2 w1) (trodAll_cons_mk (shut_int Try.underlying2 w2) trodAll_mk0)))) (fun _ _ => rfl) rfl
    (hg.frame _)⟩

theorem over : Rows.cyclePollardRow.holds Try.pinned (OpenSpec.ofChange Rows.cyclePollardSpec) :=
  OpenClaim.holds_of_wide 6 Try.f6 rfl rfl rfl rfl rfl rfl rfl ⟨rfl, rfl, rfl, rfl, rfl⟩ rfl rfl rfl rfl rfl (by kernel_rfl) Try.func6 (by kernel_rfl)
    (of_decide_eq_true (by kernel_rfl)) (by unfold Func.isWrapper; first | (rw [if_pos (by decide +kernel)]; kernel_rfl) | (rw [if_neg (by decide +kernel)]; exact ⟨rfl, rfl⟩))
    (fun os started H enc _ => lifted os started H enc)

/-- ████ THE STATEMENT ████ -/
theorem proved : Rows.CyclePollardSaid :=
  over
end Go.Proofs.Ytjfgnpgbphdalaa.cyclePollard
