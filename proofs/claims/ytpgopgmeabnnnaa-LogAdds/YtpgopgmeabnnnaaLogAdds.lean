/-
  For every prime in range and all numbers in range: which power a product is is the sum of which powers both are, divided by the order; 1 is the power 0; and what is out of range is refused: with no condition.
-/
import Derived.Test.YtpgopgmeabnnnaaRows
import Derived.Test.YtpgopgmeabnnnaaCalls53
import Derived.WalkKit
import Derived.ProofKit
import Derived.OpenShut
namespace Go.Proofs.Ytpgopgmeabnnnaa.logAdds
open Go.Proofs.Ytpgopgmeabnnnaa.Num Go.Proofs.Ytpgopgmeabnnnaa.Num6 Go.Proofs.Ytpgopgmeabnnnaa.Num13 Go.Proofs.Ytpgopgmeabnnnaa.Num32 Go.Proofs.Ytpgopgmeabnnnaa.Calls8 Go.Proofs.Ytpgopgmeabnnnaa.Calls9 Go.Proofs.Ytpgopgmeabnnnaa.Calls11 Go.Proofs.Ytpgopgmeabnnnaa.Calls19 Go.Proofs.Ytpgopgmeabnnnaa.Calls20 Go.Proofs.Ytpgopgmeabnnnaa.Calls51 Go.Proofs.Ytpgopgmeabnnnaa.Calls52 Go.Proofs.Ytpgopgmeabnnnaa.Calls53
open Go.ChangeShapes Go.WideShapes Go.ChangeAt Go.RowKit
set_option linter.unusedVariables false      -- a walk need not use every 'w<i>' (that an integer argument fits its kind)

theorem own : ownKnob Try.prog.godebug = none := by kernel_rfl

theorem tm_zero (a : Int) {p : Nat} (hp : 1 ≤ p) : (a.tmod (p : Int) == 0) = decide (rs a p = 0) := by
  have h : a.tmod (p : Int) = 0 ↔ rs a p = 0 := by
    rw [← Int.dvd_iff_tmod_eq_zero, Int.dvd_iff_emod_eq_zero, ← rs_cast a hp]
    omega
  by_cases e : rs a p = 0
  · rw [decide_eq_true e, h.2 e]; rfl
  · rw [decide_eq_false e, beq_eq_false_iff_ne]; exact fun e2 => e (h.1 e2)

theorem Log_err (g a p : Int) (h : ¬ ((Nr g ∧ Nr a) ∧ pcode p = 0)) : ∃ c : Int, ((c != 0) = true ∧ (c == 0) = false) ∧ ∀ w, Calls Try.prog 10 #[.int .i64 g, .int .i64 a, .int .i64 p] w fun e w' => e = .returned (.tuple #[.int .i64 0, .int .i64 c]) ∧ Below w.heap.size w w' := by
  by_cases hn : Nr g ∧ Nr a
  · have hc : ¬ pcode p = 0 := fun e => h ⟨hn, e⟩
    exact ⟨pcode p, ⟨by simpa using hc, by simpa using hc⟩, fun w => Log_bad g a p hn.1 hn.2 hc w⟩
  · exact ⟨2, ⟨rfl, rfl⟩, fun w => Log_far g a p hn w⟩

theorem Log_some (g a : Int) (p : Nat) (hg : Nr g) (ha : Nr a) (hp : Pr p) (hp2 : p ≤ 1048576) : ∃ k c : Int, ∀ w, Calls Try.prog 10 #[.int .i64 g, .int .i64 a, .int .i64 (p : Int)] w fun e w' => e = .returned (.tuple #[.int .i64 k, .int .i64 c]) ∧ Below w.heap.size w w' := by
  rcases log_or (rs g p) (rs a p) p with ⟨k, hk⟩ | hk
  · exact ⟨k, 0, fun w => Log_yes g a p k hg ha hp hp2 hk w⟩
  · exact ⟨0, 5, fun w => Log_none g a p hg ha hp hp2 hk w⟩

set_option maxRecDepth 100000 in
/-- The main case: one that the prime does not divide. -/
theorem walk_main (a0 a1 a2 : Int) (p : Nat) (hp : Pr p) (hp2 : p ≤ 1048576) (hg : Nr a0) (ha : Nr a1) (hb : Nr a2) (hz : ¬ rs a0 p = 0) (w : World) :
    Calls Try.prog 6 #[.int .i64 a0, .int .i64 a1, .int .i64 a2, .int .i64 (p : Int)] w fun e w' => e = .returned (.bool true) ∧ Below w.heap.size w w' := by
  have hp1 := hp.1
  have cK := fun w => kmodulus_yes (p : Int) (by omega) (by omega) w
  have cI := fun w => refIs_any p hp2 w
  rw [(prB_iff p).2 hp] at cI
  have cN0 := fun w => near_any a0 w
  rw [decide_eq_true (show -2147483648 ≤ a0 ∧ a0 ≤ 2147483648 from hg)] at cN0
  have cN1 := fun w => near_any a1 w
  rw [decide_eq_true (show -2147483648 ≤ a1 ∧ a1 ≤ 2147483648 from ha)] at cN1
  have cN2 := fun w => near_any a2 w
  rw [decide_eq_true (show -2147483648 ≤ a2 ∧ a2 ≤ 2147483648 from hb)] at cN2
  have ht := tm_zero a0 (p := p) (by omega)
  rw [decide_eq_false hz] at ht
  have hp0 : ¬ (p : Int) = 0 := by omega
  have hgl := rs_lt a0 (show 1 ≤ p by omega)
  obtain ⟨o, ho, _⟩ := ord_ex (by omega) (cop_small hp (show 1 ≤ rs a0 p by omega) hgl)
  have cO := fun w => Calls22.Order_yes a0 p o hg (by omega) hp2 ho w
  have ho1 := ho.1
  have hop := ord_lt hp ho
  have h1 : LogIs (rs a0 p) (rs 1 p) p 0 := by
    refine ⟨?_, fun j hj => by omega⟩
    rw [Nat.pow_zero, show (1 : Int) = ((1 : Nat) : Int) from rfl, rs_nat]
  have c1 := fun w => Log_yes a0 1 p 0 hg ⟨by omega, by omega⟩ hp hp2 h1 w
  rcases log_or (rs a0 p) (rs a1 p) p with ⟨j, hj⟩ | hj
  · have cA := fun w => Log_yes a0 a1 p j hg ha hp hp2 hj w
    rcases log_or (rs a0 p) (rs a2 p) p with ⟨k, hk⟩ | hk
    · have cB := fun w => Log_yes a0 a2 p k hg hb hp hp2 hk w
      have hx := rs_lt a1 (show 1 ≤ p by omega)
      have hy := rs_lt a2 (show 1 ≤ p by omega)
      have hl : rs a1 p * rs a2 p % p < p := Nat.mod_lt _ (by omega)
      have hab : LogIs (rs a0 p) (rs ((rs a1 p * rs a2 p % p : Nat) : Int) p) p ((j + k) % o) := by
        rw [rs_nat, Nat.mod_mod]
        exact hj.add (by omega) ho hk
      have cC := fun w => Log_yes a0 ((rs a1 p * rs a2 p % p : Nat) : Int) p ((j + k) % o) hg ⟨by omega, by omega⟩ hp hp2 hab w
      rw [show ((rs a1 p * rs a2 p % p : Nat) : Int) = (rs a1 p : Int) * (rs a2 p : Int) % (p : Int) by simp] at cC
      have cM1 := fun w => refMod_at a1 p w (by omega) hp2
      have cM2 := fun w => refMod_at a2 p w (by omega) hp2
      obtain ⟨b1, b2⟩ := mul_bd hx hy hp2
      have j1 : (j : Int) < (o : Int) := by have := hj.lt_ord (by omega) ho; omega
      have k1 : (k : Int) < (o : Int) := by have := hk.lt_ord (by omega) ho; omega
      have ho0 : ¬ (o : Int) = 0 := by omega
      rw [show (((j + k) % o : Nat) : Int) = ((j : Int) + (k : Int)) % (o : Int) by simp] at cC
      clear hab ho hj hk h1 hp hg ha hb hz hl
      go_enter Try.func6, Try.ntmps6
      go_wp2_with (first | (go_at_call 14; refine (cK _).mono ?_; rintro e w' ⟨rfl, hw⟩; subst w') | (go_at_call 15; refine (cI _).mono ?_; rintro e w' ⟨rfl, hw⟩; subst w') | (go_at_call 17; refine (cN0 _).mono ?_; rintro e w' ⟨rfl, hw⟩; subst w'; clear cN0) | (go_at_call 17; refine (cN1 _).mono ?_; rintro e w' ⟨rfl, hw⟩; subst w'; clear cN1) | (go_at_call 17; refine (cN2 _).mono ?_; rintro e w' ⟨rfl, hw⟩; subst w'; clear cN2) | (go_at_call 10; refine (cA _).mono ?_; rintro e w_hB1 ⟨rfl, hB1⟩; clear cA) | (go_at_call 10; refine (cB _).mono ?_; rintro e w_hB2 ⟨rfl, hB2⟩; clear cB) | (go_at_call 16; refine (cO _).mono ?_; rintro e w_hB3 ⟨rfl, hB3⟩) | (go_at_call 10; refine (c1 _).mono ?_; rintro e w_hB4 ⟨rfl, hB4⟩; clear c1) | (go_at_call 19; refine (cM1 _).mono ?_; rintro e w' ⟨rfl, hw⟩; subst w'; clear cM1) | (go_at_call 19; refine (cM2 _).mono ?_; rintro e w' ⟨rfl, hw⟩; subst w'; clear cM2) | (go_at_call 10; refine (cC _).mono ?_; rintro e w_hB5 ⟨rfl, hB5⟩; clear cC))
      go_ret
      exact ⟨rfl, below_trans (below_trans (below_trans (below_trans hB1 hB2) hB3) hB4) hB5⟩
    · have cB := fun w => Log_none a0 a2 p hg hb hp hp2 hk w
      clear ho hj hk h1 hp hg ha hb hz
      go_enter Try.func6, Try.ntmps6
      go_wp2_with (first | (go_at_call 14; refine (cK _).mono ?_; rintro e w' ⟨rfl, hw⟩; subst w') | (go_at_call 15; refine (cI _).mono ?_; rintro e w' ⟨rfl, hw⟩; subst w') | (go_at_call 17; refine (cN0 _).mono ?_; rintro e w' ⟨rfl, hw⟩; subst w'; clear cN0) | (go_at_call 17; refine (cN1 _).mono ?_; rintro e w' ⟨rfl, hw⟩; subst w'; clear cN1) | (go_at_call 17; refine (cN2 _).mono ?_; rintro e w' ⟨rfl, hw⟩; subst w'; clear cN2) | (go_at_call 10; refine (cA _).mono ?_; rintro e w_hB1 ⟨rfl, hB1⟩; clear cA) | (go_at_call 10; refine (cB _).mono ?_; rintro e w_hB2 ⟨rfl, hB2⟩; clear cB) | (go_at_call 16; refine (cO _).mono ?_; rintro e w_hB3 ⟨rfl, hB3⟩) | (go_at_call 10; refine (c1 _).mono ?_; rintro e w_hB4 ⟨rfl, hB4⟩; clear c1))
      go_ret
      exact ⟨rfl, below_trans (below_trans (below_trans hB1 hB2) hB3) hB4⟩
  · have cA := fun w => Log_none a0 a1 p hg ha hp hp2 hj w
    obtain ⟨k, c, cB⟩ := Log_some a0 a2 p hg hb hp hp2
    clear ho hj h1 hp hg ha hb hz
    go_enter Try.func6, Try.ntmps6
    go_wp2_with (first | (go_at_call 14; refine (cK _).mono ?_; rintro e w' ⟨rfl, hw⟩; subst w') | (go_at_call 15; refine (cI _).mono ?_; rintro e w' ⟨rfl, hw⟩; subst w') | (go_at_call 17; refine (cN0 _).mono ?_; rintro e w' ⟨rfl, hw⟩; subst w'; clear cN0) | (go_at_call 17; refine (cN1 _).mono ?_; rintro e w' ⟨rfl, hw⟩; subst w'; clear cN1) | (go_at_call 17; refine (cN2 _).mono ?_; rintro e w' ⟨rfl, hw⟩; subst w'; clear cN2) | (go_at_call 10; refine (cA _).mono ?_; rintro e w_hB1 ⟨rfl, hB1⟩; clear cA) | (go_at_call 10; refine (cB _).mono ?_; rintro e w_hB2 ⟨rfl, hB2⟩; clear cB) | (go_at_call 16; refine (cO _).mono ?_; rintro e w_hB3 ⟨rfl, hB3⟩) | (go_at_call 10; refine (c1 _).mono ?_; rintro e w_hB4 ⟨rfl, hB4⟩; clear c1))
    go_ret
    exact ⟨rfl, below_trans (below_trans (below_trans hB1 hB2) hB3) hB4⟩

theorem walk (a0 : Int) (a1 : Int) (a2 : Int) (a3 : Int) (w0 : (Lit.int .i64 a0).wf = true) (w1 : (Lit.int .i64 a1).wf = true) (w2 : (Lit.int .i64 a2).wf = true) (w3 : (Lit.int .i64 a3).wf = true) (w : World) :
    Calls Try.prog 6 #[.int .i64 a0, .int .i64 a1, .int .i64 a2, .int .i64 a3] w fun e w' => e = .returned (.bool true) ∧ Below w.heap.size w w' := by
  by_cases hm : Md a3
  · obtain ⟨h1, h2⟩ := hm
    obtain ⟨p, rfl⟩ : ∃ m : Nat, a3 = (m : Int) := ⟨a3.toNat, by omega⟩
    have cK := fun w => kmodulus_yes (p : Int) h1 h2 w
    have cI := fun w => refIs_any p (by omega) w
    cases hb : prB p with
    | false =>
      rw [hb] at cI
      have hc : ¬ pcode (p : Int) = 0 := by rw [pcode_yes (by omega) (by omega), hb]; decide
      obtain ⟨c, ⟨e1, e2⟩, cL⟩ := Log_err a0 a1 (p : Int) (fun h => hc h.2)
      clear hb hc
      go_enter Try.func6, Try.ntmps6
      go_wp2_with (first | (go_at_call 14; refine (cK _).mono ?_; rintro e w' ⟨rfl, hw⟩; subst w') | (go_at_call 15; refine (cI _).mono ?_; rintro e w' ⟨rfl, hw⟩; subst w') | (go_at_call 10; refine (cL _).mono ?_; rintro e w_hB1 ⟨rfl, hB1⟩))
      go_ret
      exact ⟨rfl, hB1⟩
    | true =>
      rw [hb] at cI
      have hp := (prB_iff p).1 hb
      have hp1 := hp.1
      have hp2 : p ≤ 1048576 := by omega
      have cN0 := fun w => near_any a0 w
      by_cases ha0 : -2147483648 ≤ a0 ∧ a0 ≤ 2147483648
      · rw [decide_eq_true ha0] at cN0
        have cN3 := cN0
        have cN1 := fun w => near_any a1 w
        by_cases ha1 : -2147483648 ≤ a1 ∧ a1 ≤ 2147483648
        · rw [decide_eq_true ha1] at cN1
          have cN4 := cN1
          have cN2 := fun w => near_any a2 w
          by_cases ha2 : -2147483648 ≤ a2 ∧ a2 ≤ 2147483648
          · by_cases hz : rs a0 p = 0
            · rw [decide_eq_true ha2] at cN2
              have ht := tm_zero a0 (p := p) (by omega)
              rw [decide_eq_true hz] at ht
              have hp0 : ¬ (p : Int) = 0 := by omega
              obtain ⟨k, c, cL⟩ := Log_some a0 a1 p ha0 ha1 hp hp2
              clear hb hp ha0 ha1 ha2 hz
              go_enter Try.func6, Try.ntmps6
              go_wp2_with (first | (go_at_call 14; refine (cK _).mono ?_; rintro e w' ⟨rfl, hw⟩; subst w') | (go_at_call 15; refine (cI _).mono ?_; rintro e w' ⟨rfl, hw⟩; subst w') | (go_at_call 17; refine (cN0 _).mono ?_; rintro e w' ⟨rfl, hw⟩; subst w'; clear cN0) | (go_at_call 17; refine (cN1 _).mono ?_; rintro e w' ⟨rfl, hw⟩; subst w'; clear cN1) | (go_at_call 17; refine (cN2 _).mono ?_; rintro e w' ⟨rfl, hw⟩; subst w'; clear cN2) | (go_at_call 10; refine (cL _).mono ?_; rintro e w_hB1 ⟨rfl, hB1⟩) | (go_at_call 17; refine (cN3 _).mono ?_; rintro e w' ⟨rfl, hw⟩; subst w'; clear cN3) | (go_at_call 17; refine (cN4 _).mono ?_; rintro e w' ⟨rfl, hw⟩; subst w'; clear cN4))
              go_ret
              exact ⟨rfl, hB1⟩
            · exact walk_main a0 a1 a2 p hp hp2 ha0 ha1 ha2 hz w
          · rw [decide_eq_false ha2] at cN2
            obtain ⟨k, c, cL⟩ := Log_some a0 a1 p ha0 ha1 hp hp2
            clear hb hp ha0 ha1 ha2
            go_enter Try.func6, Try.ntmps6
            go_wp2_with (first | (go_at_call 14; refine (cK _).mono ?_; rintro e w' ⟨rfl, hw⟩; subst w') | (go_at_call 15; refine (cI _).mono ?_; rintro e w' ⟨rfl, hw⟩; subst w') | (go_at_call 17; refine (cN0 _).mono ?_; rintro e w' ⟨rfl, hw⟩; subst w'; clear cN0) | (go_at_call 17; refine (cN1 _).mono ?_; rintro e w' ⟨rfl, hw⟩; subst w'; clear cN1) | (go_at_call 17; refine (cN2 _).mono ?_; rintro e w' ⟨rfl, hw⟩; subst w'; clear cN2) | (go_at_call 10; refine (cL _).mono ?_; rintro e w_hB1 ⟨rfl, hB1⟩) | (go_at_call 17; refine (cN3 _).mono ?_; rintro e w' ⟨rfl, hw⟩; subst w'; clear cN3) | (go_at_call 17; refine (cN4 _).mono ?_; rintro e w' ⟨rfl, hw⟩; subst w'; clear cN4))
            go_ret
            exact ⟨rfl, hB1⟩
        · rw [decide_eq_false ha1] at cN1
          have cN4 := cN1
          obtain ⟨c, ⟨e1, e2⟩, cL⟩ := Log_err a0 a1 (p : Int) (fun h => ha1 h.1.2)
          clear hb hp ha0 ha1
          go_enter Try.func6, Try.ntmps6
          go_wp2_with (first | (go_at_call 14; refine (cK _).mono ?_; rintro e w' ⟨rfl, hw⟩; subst w') | (go_at_call 15; refine (cI _).mono ?_; rintro e w' ⟨rfl, hw⟩; subst w') | (go_at_call 17; refine (cN0 _).mono ?_; rintro e w' ⟨rfl, hw⟩; subst w'; clear cN0) | (go_at_call 17; refine (cN1 _).mono ?_; rintro e w' ⟨rfl, hw⟩; subst w'; clear cN1) | (go_at_call 10; refine (cL _).mono ?_; rintro e w_hB1 ⟨rfl, hB1⟩) | (go_at_call 17; refine (cN3 _).mono ?_; rintro e w' ⟨rfl, hw⟩; subst w'; clear cN3) | (go_at_call 17; refine (cN4 _).mono ?_; rintro e w' ⟨rfl, hw⟩; subst w'; clear cN4))
          go_ret
          exact ⟨rfl, hB1⟩
      · rw [decide_eq_false ha0] at cN0
        obtain ⟨c, ⟨e1, e2⟩, cL⟩ := Log_err a0 a1 (p : Int) (fun h => ha0 h.1.1)
        clear hb hp ha0
        go_enter Try.func6, Try.ntmps6
        go_wp2_with (first | (go_at_call 14; refine (cK _).mono ?_; rintro e w' ⟨rfl, hw⟩; subst w') | (go_at_call 15; refine (cI _).mono ?_; rintro e w' ⟨rfl, hw⟩; subst w') | (go_at_call 17; refine (cN0 _).mono ?_; rintro e w' ⟨rfl, hw⟩; subst w') | (go_at_call 10; refine (cL _).mono ?_; rintro e w_hB1 ⟨rfl, hB1⟩))
        go_ret
        exact ⟨rfl, hB1⟩
  · have cK := fun w => kmodulus_no a3 hm w
    obtain ⟨c, ⟨e1, e2⟩, cL⟩ := Log_err a0 a1 a3 (fun h => by rw [pcode_no hm] at h; exact absurd h.2 (by decide))
    clear hm
    go_enter Try.func6, Try.ntmps6
    go_wp2_with (first | (go_at_call 14; refine (cK _).mono ?_; rintro e w' ⟨rfl, hw⟩; subst w') | (go_at_call 10; refine (cL _).mono ?_; rintro e w_hB1 ⟨rfl, hB1⟩))
    go_ret
    exact ⟨rfl, hB1⟩

/-! ### THE ROW's STEP: WRITTEN OUT: LEAVE IT -/
set_option maxRecDepth 100000 in
theorem lifted (os : Os) (started : os.Started) (H : Type) (enc : TypeId × Value → H) :
    ReturnsInHanded {} Try.checked os 6 .any (Rows.logAddsSpec.pre6 enc Try.prog Try.f6 Rows.logAddsRow.domain false) (Rows.logAddsSpec.post enc Try.prog Try.f6 false true false false) := by
  refine returnsInHanded_of_change (C := Try.checked) own started (by kernel_rfl) Try.func6
    (ChangeSpec.witness6 (enc := enc) (C := Try.checked) false ⟨#[], #[.int .i64 0, .int .i64 0, .int .i64 0, .int .i64 0], []⟩ 8 (by kernel_rfl) (by kernel_rfl) (by kernel_rfl) (by kernel_rfl)) ?_
  intro W base args ds gs before hval0 hW hcnd _
  have hval : ∀ (j : Nat) t v, Try.f6.params[j]? = some t → args[j]? = some v → Value.okWide Try.prog W .any base t v := hval0
  have hW' := hW
  obtain ⟨p, q, hA0, hV, rfl, hfz, hnd⟩ := hW
  have hA : DataW.TrodAll enc Try.prog W 0 (fun _ => true) true Try.f6.params.toList args.toList ds p := hA0
  rw [Try.params6] at hA hval
  obtain ⟨v0, vs0, d0, ds0, p0, q0, hargs, rfl, rfl, h0, r0⟩ := trodAll_cons hA
  obtain ⟨v1, vs1, d1, ds1, p1, q1, rfl, rfl, rfl, h1, r1⟩ := trodAll_cons r0
  obtain ⟨v2, vs2, d2, ds2, p2, q2, rfl, rfl, rfl, h2, r2⟩ := trodAll_cons r1
  obtain ⟨v3, vs3, d3, ds3, p3, q3, rfl, rfl, rfl, h3, r3⟩ := trodAll_cons r2
  obtain ⟨rfl, rfl, rfl⟩ := trodAll_nil r3
  obtain rfl : args = #[v0, v1, v2, v3] := by cases args; simp_all
  obtain ⟨rfl, rfl⟩ := trodVars_none hV
  obtain ⟨a0, rfl, rfl, rfl, w0⟩ := open_int Try.underlying2 (hval 0 2 v0 rfl rfl) h0
  obtain ⟨a1, rfl, rfl, rfl, w1⟩ := open_int Try.underlying2 (hval 1 2 v1 rfl rfl) h1
  obtain ⟨a2, rfl, rfl, rfl, w2⟩ := open_int Try.underlying2 (hval 2 2 v2 rfl rfl) h2
  obtain ⟨a3, rfl, rfl, rfl, w3⟩ := open_int Try.underlying2 (hval 3 2 v3 rfl rfl) h3
  clear hA0 hval0
  simp only [List.append_nil] at hW'
  refine (walk a0 a1 a2 a3 w0 w1 w2 w3 W).mono fun e W' ⟨he, hg⟩ => ?_
  subst he
  exact ⟨_, rfl, post_of_kept (pa := []) (pv := []) hW' (fun _ _ _ => (trodAll_cons_mk (shut_bool Try.underlying4 _) trodAll_mk0)) (fun sp _ => (trodAll_cons_mk (shut_int Try.underlying2 w0) (trodAll_cons_mk (shut_int Try.underlying2 w1) (trodAll_cons_mk (shut_int Try.underlying2 w2) (trodAll_cons_mk (shut_int Try.underlying2 w3) trodAll_mk0))))) (fun _ _ => rfl) rfl
    (hg.frame _)⟩

theorem over : Rows.logAddsRow.holds Try.pinned (OpenSpec.ofChange Rows.logAddsSpec) :=
  OpenClaim.holds_of_wide 6 Try.f6 rfl rfl rfl rfl rfl rfl rfl ⟨rfl, rfl, rfl, rfl, rfl⟩ rfl rfl rfl rfl rfl (by kernel_rfl) Try.func6 (by kernel_rfl)
    (of_decide_eq_true (by kernel_rfl)) (by unfold Func.isWrapper; first | (rw [if_pos (by decide +kernel)]; kernel_rfl) | (rw [if_neg (by decide +kernel)]; exact ⟨rfl, rfl⟩))
    (fun os started H enc _ => lifted os started H enc)

/-- ████ THE STATEMENT ████ -/
theorem proved : Rows.LogAddsSaid :=
  over
end Go.Proofs.Ytpgopgmeabnnnaa.logAdds
