/-
  For any numbers, what comes round comes again just behind as many steps as are told, not sooner, and not from further ahead; with no condition.
-/
import Derived.Test.YtjfgnpgbphdalaaRows
import Derived.Test.YtjfgnpgbphdalaaCalls55
import Derived.WalkKit
import Derived.ProofKit
import Derived.OpenShut
namespace Go.Proofs.Ytjfgnpgbphdalaa.cycleReturns
open Go.Proofs.Ytjfgnpgbphdalaa.Num Go.Proofs.Ytjfgnpgbphdalaa.Num13 Go.Proofs.Ytjfgnpgbphdalaa.Num18 Go.Proofs.Ytjfgnpgbphdalaa.Num33 Go.Proofs.Ytjfgnpgbphdalaa.Calls8 Go.Proofs.Ytjfgnpgbphdalaa.Calls9 Go.Proofs.Ytjfgnpgbphdalaa.Calls19 Go.Proofs.Ytjfgnpgbphdalaa.Calls20 Go.Proofs.Ytjfgnpgbphdalaa.Calls54 Go.Proofs.Ytjfgnpgbphdalaa.Calls55
open Go.ChangeShapes Go.WideShapes Go.ChangeAt Go.RowKit
set_option linter.unusedVariables false      -- a walk need not use every 'w<i>' (that an integer argument fits its kind)

theorem own : ownKnob Try.prog.godebug = none := by kernel_rfl

theorem beq_nat {a b : Nat} (h : ¬ a = b) : ((a : Int) == (b : Int)) = false := by
  have : ¬ (a : Int) = (b : Int) := by omega
  simpa using this

set_option maxRecDepth 100000 in
/-- What the gate lets by. -/
theorem walk_main (a0 a2 : Int) (n : Nat) (hc : Nr a0) (hx : Nr a2) (hn1 : 1 ≤ n) (hn2 : n ≤ 1048576) (w : World) :
    Calls Try.prog 5 #[.int .i64 a0, .int .i64 (n : Int), .int .i64 a2] w fun e w' => e = .returned (.bool true) ∧ Below w.heap.size w w' := by
  have cK := fun w => kmodulus_yes (n : Int) (by omega) (by omega) w
  have cN0 := fun w => near_any a0 w
  rw [decide_eq_true (show -2147483648 ≤ a0 ∧ a0 ≤ 2147483648 from hc)] at cN0
  have cN2 := fun w => near_any a2 w
  rw [decide_eq_true (show -2147483648 ≤ a2 ∧ a2 ≤ 2147483648 from hx)] at cN2
  have lx := rs_lt a2 hn1
  obtain ⟨t, s, hR, hts⟩ := wk_rho (c := rs a0 n) lx
  have hs1 := hR.pos
  have cC := fun w => Cycle_yes a0 a2 n t s hc hx hn1 hn2 hR hts w
  have cW1 := fun w => Walk_b a0 a2 n t hn1 hn2 (by omega) w
  have cWz := fun (z : Nat) w => Walk_b a0 (z : Int) n s hn1 hn2 (by omega) w
  have cW3 := fun y (hy : y < n) w => Walk_one a0 n y hn1 hn2 hy w
  have cW4 := fun w => Walk_b a0 a2 n (t - 1) hn1 hn2 (by omega) w
  have HR := hid hR
  clear hc hx hR
  generalize rs a0 n = c' at *
  generalize rs a2 n = x' at *
  obtain ⟨z, hz⟩ : ∃ z, z = wk c' n x' t := ⟨_, rfl⟩
  have lz : z < n := by rw [hz]; exact wk_lt lx t
  have cW2 := cWz z
  have e2 : wk c' n (rs (z : Int) n) s = z := by
    rw [rs_small lz, hz, wk_add]
    exact HR.out.back
  rw [e2] at cW2
  rw [← hz] at cW1
  have HZ := hid hz
  clear e2 hz
  have t0 : 0 ≤ (t : Int) := by omega
  have s0 : ¬ (s : Int) < 1 := by omega
  have ts0 : (t : Int) + (s : Int) ≤ (n : Int) := by omega
  go_enter Try.func5, Try.ntmps5
  go_wp2_with (first | (go_at_call 7; refine (cC _).mono ?_; rintro e w_hB1 ⟨rfl, hB1⟩) | (go_at_call 14; refine (cN0 _).mono ?_; rintro e w' ⟨rfl, hw⟩; subst w'; clear cN0) | (go_at_call 14; refine (cN2 _).mono ?_; rintro e w' ⟨rfl, hw⟩; subst w'; clear cN2) | (go_at_call 15; refine (cK _).mono ?_; rintro e w' ⟨rfl, hw⟩; subst w') | (go_at_call 16; refine (cW1 _).mono ?_; rintro e w_hB2 ⟨rfl, hB2⟩; clear cW1) | (go_at_call 16; refine (cW2 _).mono ?_; rintro e w_hB3 ⟨rfl, hB3⟩; clear cW2))
  have hB4 := below_trans (below_trans hB1 hB2) hB3
  clear hB1 hB2 hB3 cC cK
  go_loopw [11, 12] (fun u i wr => ∃ j y : Nat, u = .int .i64 (y : Int) ∧ i = .int .i64 ((j : Int) + 1) ∧ j + 1 ≤ s ∧ y < n ∧ Hid (y = wk c' n x' (t + j)) ∧ Below w.heap.size w wr) (fun u i wr => s - (intOf i).toNat)
  case atStart => exact ⟨0, z, rfl, rfl, by omega, lz, HZ.out, hB4⟩
  case round =>
    obtain ⟨j, y, rfl, rfl, hj, hy, hY, hB⟩ := hrel
    by_cases hlt : j + 1 < s
    · have hlt' : (j : Int) + 1 < (s : Int) := by omega
      have l1 := nx_lt c' y hn1
      have hne : ¬ nx c' n y = z := by
        rw [hY.out, HZ.out]
        exact HR.out.fewer (k := j + 1) (by omega) hlt
      have q1 := beq_nat hne
      have q2 : ¬ ((nx c' n y : Nat) : Int) = (z : Int) := by omega
      clear hne
      go_wp2_with (go_at_call 16; refine (cW3 _ hy _).mono ?_; rintro e w2 ⟨rfl, hB2⟩)
      go_roundw
      case rel => exact ⟨j + 1, nx c' n y, rfl, by simp, by omega, l1, by show _ = _; rw [hY.out]; rfl, below_trans hB hB2⟩
      case measure => simp [intOf]; omega
    · have hlt' : ¬ (j : Int) + 1 < (s : Int) := by omega
      clear cW3
      by_cases ht : t = 0
      · subst ht
        clear cW4 cWz
        go_wp2
        go_ret
        exact ⟨rfl, hB⟩
      · have ht' : ((t : Int) == 0) = false := by
          have : ¬ (t : Int) = 0 := by omega
          simpa using this
        have ht2 : ¬ (t : Int) = 0 := by omega
        rw [show ((t - 1 : Nat) : Int) = (t : Int) - 1 by omega] at cW4
        obtain ⟨u, hu⟩ : ∃ u, u = wk c' n x' (t - 1) := ⟨_, rfl⟩
        have lu : u < n := by rw [hu]; exact wk_lt lx _
        rw [← hu] at cW4
        have cW5 := cWz u
        rw [rs_small lu] at cW5
        obtain ⟨v, hv⟩ : ∃ v, v = wk c' n u s := ⟨_, rfl⟩
        rw [← hv] at cW5
        have hne : ¬ u = v := by
          rw [hv, hu, wk_add]
          exact HR.out.before (by omega)
        have q1 := bne_nat hne
        have q2 : ¬ (u : Int) = (v : Int) := by omega
        clear cWz hu hv hne
        go_wp2_with (first | (go_at_call 16; refine (cW4 _).mono ?_; rintro e w_hB2 ⟨rfl, hB2⟩; clear cW4) | (go_at_call 16; refine (cW5 _).mono ?_; rintro e w_hB3 ⟨rfl, hB3⟩; clear cW5))
        go_ret
        exact ⟨rfl, below_trans (below_trans hB hB2) hB3⟩

theorem walk (a0 : Int) (a1 : Int) (a2 : Int) (w0 : (Lit.int .i64 a0).wf = true) (w1 : (Lit.int .i64 a1).wf = true) (w2 : (Lit.int .i64 a2).wf = true) (w : World) :
    Calls Try.prog 5 #[.int .i64 a0, .int .i64 a1, .int .i64 a2] w fun e w' => e = .returned (.bool true) ∧ Below w.heap.size w w' := by
  by_cases hm : Md a1
  · have cK := fun w => kmodulus_yes a1 hm.1 hm.2 w
    have cN0 := fun w => near_any a0 w
    by_cases hc : -2147483648 ≤ a0 ∧ a0 ≤ 2147483648
    · rw [decide_eq_true hc] at cN0
      have cN2 := fun w => near_any a2 w
      by_cases hx : -2147483648 ≤ a2 ∧ a2 ≤ 2147483648
      · obtain ⟨h1, h2⟩ := hm
        obtain ⟨n, rfl⟩ : ∃ n : Nat, a1 = (n : Int) := ⟨a1.toNat, by omega⟩
        exact walk_main a0 a2 n hc hx (by omega) (by omega) w
      · rw [decide_eq_false hx] at cN2
        have cC := fun w => Cycle_far a0 a1 a2 (fun h => hx h.1.2) w
        clear hm hc hx
        go_enter Try.func5, Try.ntmps5
        go_wp2_with (first | (go_at_call 7; refine (cC _).mono ?_; rintro e w_hB1 ⟨rfl, hB1⟩) | (go_at_call 14; refine (cN0 _).mono ?_; rintro e w' ⟨rfl, hw⟩; subst w'; clear cN0) | (go_at_call 14; refine (cN2 _).mono ?_; rintro e w' ⟨rfl, hw⟩; subst w'; clear cN2) | (go_at_call 15; refine (cK _).mono ?_; rintro e w' ⟨rfl, hw⟩; subst w'))
        go_ret
        exact ⟨rfl, hB1⟩
    · rw [decide_eq_false hc] at cN0
      have cC := fun w => Cycle_far a0 a1 a2 (fun h => hc h.1.1) w
      clear hm hc
      go_enter Try.func5, Try.ntmps5
      go_wp2_with (first | (go_at_call 7; refine (cC _).mono ?_; rintro e w_hB1 ⟨rfl, hB1⟩) | (go_at_call 14; refine (cN0 _).mono ?_; rintro e w' ⟨rfl, hw⟩; subst w'; clear cN0) | (go_at_call 15; refine (cK _).mono ?_; rintro e w' ⟨rfl, hw⟩; subst w'))
      go_ret
      exact ⟨rfl, hB1⟩
  · have cK := fun w => kmodulus_no a1 hm w
    have cC := fun w => Cycle_far a0 a1 a2 (fun h => hm h.2) w
    have cN0 := fun w => near_any a0 w
    by_cases hc : -2147483648 ≤ a0 ∧ a0 ≤ 2147483648
    · rw [decide_eq_true hc] at cN0
      have cN2 := fun w => near_any a2 w
      generalize decide (-2147483648 ≤ a2 ∧ a2 ≤ 2147483648) = b at cN2
      clear hm hc
      cases b
      all_goals
        go_enter Try.func5, Try.ntmps5
        go_wp2_with (first | (go_at_call 7; refine (cC _).mono ?_; rintro e w_hB1 ⟨rfl, hB1⟩) | (go_at_call 14; refine (cN0 _).mono ?_; rintro e w' ⟨rfl, hw⟩; subst w'; clear cN0) | (go_at_call 14; refine (cN2 _).mono ?_; rintro e w' ⟨rfl, hw⟩; subst w'; clear cN2) | (go_at_call 15; refine (cK _).mono ?_; rintro e w' ⟨rfl, hw⟩; subst w'))
        go_ret
        exact ⟨rfl, hB1⟩
    · rw [decide_eq_false hc] at cN0
      clear hm hc
      go_enter Try.func5, Try.ntmps5
      go_wp2_with (first | (go_at_call 7; refine (cC _).mono ?_; rintro e w_hB1 ⟨rfl, hB1⟩) | (go_at_call 14; refine (cN0 _).mono ?_; rintro e w' ⟨rfl, hw⟩; subst w'; clear cN0) | (go_at_call 15; refine (cK _).mono ?_; rintro e w' ⟨rfl, hw⟩; subst w'))
      go_ret
      exact ⟨rfl, hB1⟩

/-! ### THE ROW's STEP: WRITTEN OUT: LEAVE IT -/
set_option maxRecDepth 100000 in
theorem lifted (os : Os) (started : os.Started) (H : Type) (enc : TypeId × Value → H) :
    ReturnsInHanded {} Try.checked os 5 .any (Rows.cycleReturnsSpec.pre6 enc Try.prog Try.f5 Rows.cycleReturnsRow.domain false) (Rows.cycleReturnsSpec.post enc Try.prog Try.f5 false true false false) := by
  refine returnsInHanded_of_change (C := Try.checked) own started (by kernel_rfl) Try.func5
    (ChangeSpec.witness6 (enc := enc) (C := Try.checked) false ⟨#[], #[.int .i64 0, .int .i64 0, .int .i64 0], []⟩ 8 (by kernel_rfl) (by kernel_rfl) (by kernel_rfl) (by kernel_rfl)) ?_
  intro W base args ds gs before hval0 hW hcnd _
  have hval : ∀ (j : Nat) t v, Try.f5.params[j]? = some t → args[j]? = some v → Value.okWide Try.prog W .any base t v := hval0
  have hW' := hW
  obtain ⟨p, q, hA0, hV, rfl, hfz, hnd⟩ := hW
  have hA : DataW.TrodAll enc Try.prog W 0 (fun _ => true) true Try.f5.params.toList args.toList ds p := hA0
  rw [Try.params5] at hA hval
  obtain ⟨v0, vs0, d0, ds0, p0, q0, hargs, rfl, rfl, h0, r0⟩ := trodAll_cons hA
  obtain ⟨v1, vs1, d1, ds1, p1, q1, rfl, rfl, rfl, h1, r1⟩ := trodAll_cons r0
  obtain ⟨v2, vs2, d2, ds2, p2, q2, rfl, rfl, rfl, h2, r2⟩ := trodAll_cons r1
  obtain ⟨rfl, rfl, rfl⟩ := trodAll_nil r2
  obtain rfl : args = #[v0, v1, v2] := by cases args; simp_all
  obtain ⟨rfl, rfl⟩ := trodVars_none hV
  obtain ⟨a0, rfl, rfl, rfl, w0⟩ := open_int Try.underlying2 (hval 0 2 v0 rfl rfl) h0
  obtain ⟨a1, rfl, rfl, rfl, w1⟩ := open_int Try.underlying2 (hval 1 2 v1 rfl rfl) h1
  obtain ⟨a2, rfl, rfl, rfl, w2⟩ := open_int Try.underlying2 (hval 2 2 v2 rfl rfl) h2
  clear hA0 hval0
  simp only [List.append_nil] at hW'
  refine (walk a0 a1 a2 w0 w1 w2 W).mono fun e W' ⟨he, hg⟩ => ?_
  subst he
  exact ⟨_, rfl, post_of_kept (pa := []) (pv := []) hW' (fun _ _ _ => (trodAll_cons_mk (shut_bool Try.underlying4 _) trodAll_mk0)) (fun sp _ => (trodAll_cons_mk (shut_int Try.underlying2 w0) (trodAll_cons_mk (shut_int Try.underlying2 w1) (trodAll_cons_mk (shut_int Try.underlying2 w2) trodAll_mk0)))) (fun _ _ => rfl) rfl
    (hg.frame _)⟩

theorem over : Rows.cycleReturnsRow.holds Try.pinned (OpenSpec.ofChange Rows.cycleReturnsSpec) :=
  OpenClaim.holds_of_wide 5 Try.f5 rfl rfl rfl rfl rfl rfl rfl ⟨rfl, rfl, rfl, rfl, rfl⟩ rfl rfl rfl rfl rfl (by kernel_rfl) Try.func5 (by kernel_rfl)
    (of_decide_eq_true (by kernel_rfl)) (by unfold Func.isWrapper; first | (rw [if_pos (by decide +kernel)]; kernel_rfl) | (rw [if_neg (by decide +kernel)]; exact ⟨rfl, rfl⟩))
    (fun os started H enc _ => lifted os started H enc)

/-- ████ THE STATEMENT ████ -/
theorem proved : Rows.CycleReturnsSaid :=
  over
end Go.Proofs.Ytjfgnpgbphdalaa.cycleReturns
