/-
  When the powers of a number are 1 again: what package power's Order and Lambda answer at every input.
-/
import Derived.Test.YtpflkihagebmlabCalls21
import Derived.Test.YtpflkihagebmlabCalls20
namespace Go.Proofs.Ytpflkihagebmlab.Calls22
set_option linter.unusedVariables false
open Go.ChangeShapes Go.WideShapes Go.ChangeAt Go.RowKit Go.Proofs.Ytpflkihagebmlab.Num Go.Proofs.Ytpflkihagebmlab.Num4 Go.Proofs.Ytpflkihagebmlab.Num6 Go.Proofs.Ytpflkihagebmlab.Num8 Go.Proofs.Ytpflkihagebmlab.Num13 Go.Proofs.Ytpflkihagebmlab.Calls8 Go.Proofs.Ytpflkihagebmlab.Calls9 Go.Proofs.Ytpflkihagebmlab.Calls11 Go.Proofs.Ytpflkihagebmlab.Calls13 Go.Proofs.Ytpflkihagebmlab.Calls19 Go.Proofs.Ytpflkihagebmlab.Calls20 Go.Proofs.Ytpflkihagebmlab.Calls21
open Go.Proofs.Ytpflkihagebmlab.Math (gg)

theorem quiet_at {P : Program} {f : FuncId} {args : Array Value} {w : World} {d n : Nat} {v : Value} (h : Calls P f args (w.drewN (d + n)) fun e w' => e = .returned v ∧ w' = w.drewN (d + n)) :
    Calls P f args (w.drewN (d + n)) fun e w'' => e = .returned v ∧ ∃ m, w'' = w.drewN (d + m) := h.mono fun _ _ ⟨he, hm⟩ => ⟨he, n, hm⟩

theorem one_iff {a : Int} {m o : Nat} (ho : IsOrd (rs a m) m o) (k : Nat) : ((pw a k m : Int) == 1 % (m : Int)) = decide (o ∣ k) := by
  have e : (1 : Int) % (m : Int) = ((1 % m : Nat) : Int) := by simp
  rw [e]
  by_cases h : o ∣ k
  · rw [decide_eq_true h, (pw_is_one ho k).2 h]; simp
  · rw [decide_eq_false h]
    have : ¬ pw a k m = 1 % m := fun h2 => h ((pw_is_one ho k).1 h2)
    rw [beq_eq_false_iff_ne]
    intro h3
    exact this (by exact_mod_cast h3)

set_option maxRecDepth 100000 in
set_option maxHeartbeats 1000000 in
theorem leastExponent_any (a : Int) (m o : Nat) (hm1 : 1 ≤ m) (hm2 : m ≤ 1048576) (ho : IsOrd (rs a m) m o) (w : World) :
    Calls Try.prog 62 #[.int .i64 a, .int .i64 (m : Int)] w fun e w' => e = .returned (.int .i64 (o : Int)) ∧ Below w.heap.size w w' := by
  have HO := hid ho
  clear ho
  have hm0 : ¬ (m : Int) = 0 := by omega
  go_enter Try.func62, Try.ntmps62
  go_wp2_with (go_at_call 65; refine (lambda_any m hm1 hm2 _).mono ?_; rintro e w0 ⟨⟨L, hL, rfl⟩, hB0⟩; have HL := hid hL; have hL1 := hL.pos; have hL2 := lam_le hm1 hL; clear hL)
  refine (Factor_yes L hL1 (by omega) _).mono ?_
  rintro e w1 ⟨l, v, rfl, hF, hown, hB⟩
  obtain ⟨ao, cap, rfl, hrow⟩ := prow_of_owns hown
  have hblk := owns_block' hown
  have HF := hid hF
  clear hF
  rw [ints_length]
  have hlen := fac_len HF.out (show L ≤ 1048576 by omega)
  go_wp2
  go_loopw [5, 19] (fun c i wr => ∃ kk k : Nat, c = .int .i64 (kk : Int) ∧ i = .int .i64 (k : Int) ∧ k ≤ l.length ∧ kk ≤ L ∧ Hid (Out L o l k kk) ∧ Below w1.heap.size w1 wr) (fun c i wr => ((l.length : Int) - intOf i).toNat)
  case atStart => exact ⟨L, 0, rfl, rfl, by omega, by omega, Out.start hL1 (ord_dvd_lam HL.out HO.out), Below.refl _ _⟩
  case round =>
    obtain ⟨kk, k, rfl, rfl, hk, hkL, hO, hBr⟩ := hrel
    by_cases hgo : k < l.length
    · have hgo' : (k : Int) < (l.length : Int) := by omega
      rcases ao with _ | ad
      · have := hrow.1 rfl
        have e := ints_length l
        rw [this] at e
        simp at e
        omega
      · obtain ⟨c1, c2⟩ := (prow_below hrow hBr (fun ad' e => .inr (hblk ad' e).2)).2 ad rfl k (by rw [ints_length]; exact hgo)
        rw [add_two] at c2
        rw [ints_get2] at c1 c2
        obtain ⟨hp, hk1⟩ := elem_facts HF.out hgo
        have hx1 := elem_le HF.out hL1 hgo
        have hNx := hid (fun (z : Nat) (h : Out L o l k z) (hd : ¬ (l.getD k (0, 0)).1 * o ∣ z) => h.next hd)
        obtain ⟨x, hx⟩ : ∃ x, l.getD k (0, 0) = x := ⟨_, rfl⟩
        rw [hx] at c1 c2 hp hk1 hx1 hNx
        have h2 := hp.1
        have hp0 : ¬ (x.1 : Int) = 0 := by omega
        have hx0 : ¬ x.1 = 0 := by omega
        clear hx hp
        have cR : ∀ (z : Nat), z ≤ L → ∀ w, Calls Try.prog 47 #[.int .i64 a, .int .i64 ((z : Int) / (x.1 : Int)), .int .i64 (m : Int)] w fun e w' => e = .returned (.int .i64 (pw a (z / x.1) m : Int)) ∧ w' = w := by
          intro z hz w
          have := Nat.div_le_self z x.1
          rw [show (z : Int) / (x.1 : Int) = ((z / x.1 : Nat) : Int) by simp]
          exact raise_any a (z / x.1) m (by omega) hm1 hm2 w
        go_wp2
        go_loopw [5] (fun c W => ∃ z : Nat, c = .int .i64 (z : Int) ∧ z ≤ L ∧ Hid (Out L o l k z) ∧ ∃ d, W = (wr.alloc (.cells #[.int .i64 (x.1 : Int), .int .i64 (x.2 : Int)] 83)).drewN d) (fun c W => (intOf c).toNat)
        case atStart => exact ⟨kk, rfl, hkL, hO, 0, rfl⟩
        case round =>
          obtain ⟨z, rfl, hzL, hz, d, rfl⟩ := hrel
          have hz1 := hz.out.1
          have cZ := cR z hzL
          clear cR
          have h1m := hid (one_iff HO.out (z / x.1))
          have hdl := Nat.div_le_self z x.1
          have hqq : ((z / x.1 : Nat) : Int) = (z : Int) / (x.1 : Int) := by simp
          have hq0 : 0 ≤ (z : Int) / (x.1 : Int) := Int.ediv_nonneg (by omega) (by omega)
          have hq1 : (z : Int) / (x.1 : Int) ≤ 1048576 := by omega
          have hq := hid hqq
          clear hqq
          by_cases hd : x.1 ∣ z
          · have hmz := mod_zero_iff z x.1
            rw [decide_eq_true hd] at hmz
            by_cases hdo : o ∣ z / x.1
            · obtain ⟨t1, t2⟩ := hz.out.take h2 hd hdo
              have T1 := hid t1
              clear t1
              have h1t := h1m.out
              rw [decide_eq_true hdo] at h1t
              clear hdo hd
              go_wp2
              go_quiet ((go_at_call 47; exact quiet_at (cZ _)))
              go_wp2
              go_roundw
              case rel => exact ⟨z / x.1, by rw [hq.out], by omega, T1, _, rfl⟩
              case measure => simp only [intOf]; rw [← hq.out]; omega
            · have hN := hid (hNx.out z hz.out (fun h => hdo ((out_iff (by omega)).1 h).2))
              have h1t := h1m.out
              rw [decide_eq_false hdo] at h1t
              clear hdo hd
              go_wp2
              go_quiet ((go_at_call 47; exact quiet_at (cZ _)))
              go_wp2
              go_roundw
              case rel => exact ⟨z, k + 1, rfl, by simp, by omega, hzL, hN, below_drewN (hBr.alloc hBr.size _) _⟩
              case measure => simp [intOf]; omega
          · have hmz := mod_zero_iff z x.1
            rw [decide_eq_false hd] at hmz
            have hN := hid (hNx.out z hz.out (fun h => hd ((out_iff (by omega)).1 h).1))
            clear hd
            go_wp2
            go_quiet (fail)
            go_wp2
            go_roundw
            case rel => exact ⟨z, k + 1, rfl, by simp, by omega, hzL, hN, below_drewN (hBr.alloc hBr.size _) _⟩
            case measure => simp [intOf]; omega
    · have hgo' : ¬ (k : Int) < (l.length : Int) := by omega
      have e : k = l.length := by omega
      have hD := hid (Out.done HF.out (by rw [← e]; exact hO.out))
      clear e
      go_wp2
      go_ret
      exact ⟨ret_int (by rw [hD.out]), below_trans (below_trans hB0 hB) hBr⟩

theorem Order_no (a m : Int) (h : ¬ (Nr a ∧ Md m)) (w : World) :
    Calls Try.prog 56 #[.int .i64 a, .int .i64 m] w fun e w' => e = .returned (.tuple #[.int .i64 0, .int .i64 2]) ∧ Below w.heap.size w w' := by
  have cN := fun w => isNumber_any a w
  have cM := fun w => isModulus_any m w
  by_cases h1 : -2147483648 ≤ a ∧ a ≤ 2147483648
  · rw [decide_eq_true h1] at cN
    rw [decide_eq_false (fun h3 => h ⟨h1, h3⟩)] at cM
    clear h h1
    go_enter Try.func56, Try.ntmps56
    go_wp2_with (first | (go_at_call 44; refine (cN _).mono ?_; rintro e w' ⟨rfl, hw⟩; subst w') | (go_at_call 46; refine (cM _).mono ?_; rintro e w' ⟨rfl, hw⟩; subst w'))
    go_ret2
    exact ⟨rfl, Below.refl _ _⟩
  · rw [decide_eq_false h1] at cN
    clear h h1
    go_enter Try.func56, Try.ntmps56
    go_wp2_with (go_at_call 44; refine (cN _).mono ?_; rintro e w' ⟨rfl, hw⟩; subst w')
    go_ret2
    exact ⟨rfl, Below.refl _ _⟩

theorem gg_rs (a : Int) {m : Nat} (hm : 1 ≤ m) : gg a (m : Int) = (Nat.gcd (rs a m) m : Int) := by
  unfold gg; rw [rs_gcd a hm]

theorem Order_none (a : Int) (m : Nat) (hn : Nr a) (hm1 : 1 ≤ m) (hm2 : m ≤ 1048576) (hg : ¬ Nat.gcd (rs a m) m = 1) (w : World) :
    Calls Try.prog 56 #[.int .i64 a, .int .i64 (m : Int)] w fun e w' => e = .returned (.tuple #[.int .i64 0, .int .i64 5]) ∧ Below w.heap.size w w' := by
  obtain ⟨n1, n2⟩ := hn
  have cN := fun w => isNumber_any a w
  have cM := fun w => isModulus_any (m : Int) w
  rw [decide_eq_true ⟨n1, n2⟩] at cN
  rw [decide_eq_true ⟨by omega, by omega⟩] at cM
  have cG := fun w => Gcd_b a (m : Int) w n1 n2 (by omega) (by omega)
  rw [gg_rs a hm1] at cG
  have hg1 : ¬ (Nat.gcd (rs a m) m : Int) = 1 := by omega
  have hg2 : ((Nat.gcd (rs a m) m : Int) != 1) = true := by simpa using hg1
  clear hg
  go_enter Try.func56, Try.ntmps56
  go_wp2_with (first | (go_at_call 44; refine (cN _).mono ?_; rintro e w' ⟨rfl, hw⟩; subst w') | (go_at_call 46; refine (cM _).mono ?_; rintro e w' ⟨rfl, hw⟩; subst w') | (go_at_call 61; refine (cG _).mono ?_; rintro e w1 ⟨rfl, hB⟩))
  go_ret2
  exact ⟨rfl, hB⟩

theorem Order_yes (a : Int) (m o : Nat) (hn : Nr a) (hm1 : 1 ≤ m) (hm2 : m ≤ 1048576) (ho : IsOrd (rs a m) m o) (w : World) :
    Calls Try.prog 56 #[.int .i64 a, .int .i64 (m : Int)] w fun e w' => e = .returned (.tuple #[.int .i64 (o : Int), .int .i64 0]) ∧ Below w.heap.size w w' := by
  obtain ⟨n1, n2⟩ := hn
  have cN := fun w => isNumber_any a w
  have cM := fun w => isModulus_any (m : Int) w
  rw [decide_eq_true ⟨n1, n2⟩] at cN
  rw [decide_eq_true ⟨by omega, by omega⟩] at cM
  have cG := fun w => Gcd_b a (m : Int) w n1 n2 (by omega) (by omega)
  rw [gg_rs a hm1, cop_of_pow hm1 ho.1 ho.2.1] at cG
  have cL := fun w => leastExponent_any a m o hm1 hm2 ho w
  clear ho
  go_enter Try.func56, Try.ntmps56
  go_wp2_with (first | (go_at_call 44; refine (cN _).mono ?_; rintro e w' ⟨rfl, hw⟩; subst w') | (go_at_call 46; refine (cM _).mono ?_; rintro e w' ⟨rfl, hw⟩; subst w') | (go_at_call 61; refine (cG _).mono ?_; rintro e w1 ⟨rfl, hB⟩) | (go_at_call 62; refine (cL _).mono ?_; rintro e w2 ⟨rfl, hB2⟩))
  go_ret2
  exact ⟨rfl, below_trans hB hB2⟩

end Go.Proofs.Ytpflkihagebmlab.Calls22
