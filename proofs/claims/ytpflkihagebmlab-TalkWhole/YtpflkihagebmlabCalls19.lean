/-
  What the powers of package power answer: raise, and Pow at every input; the document's power by halves.
-/
import Derived.Test.YtpflkihagebmlabCalls1
import Derived.Test.YtpflkihagebmlabCalls9
import Derived.Test.YtpflkihagebmlabFoldB
namespace Go.Proofs.Ytpflkihagebmlab.Calls19
set_option linter.unusedVariables false
open Go.ChangeShapes Go.WideShapes Go.ChangeAt Go.RowKit Go.Proofs.Ytpflkihagebmlab.Num Go.Proofs.Ytpflkihagebmlab.Num3 Go.Proofs.Ytpflkihagebmlab.Num6 Go.Proofs.Ytpflkihagebmlab.Num8 Go.Proofs.Ytpflkihagebmlab.Num13 Go.Proofs.Ytpflkihagebmlab.Calls9
open Go.Proofs.Ytpflkihagebmlab.Calls1 (refMod_any tmod_bd)

theorem and_one {k : Nat} (h : k ≤ 2147483648) : bits .and .i64 (k : Int) 1 = ((k % 2 : Nat) : Int) := by
  have h1 : (BitVec.ofInt 64 (k : Int)).toNat = k := by
    rw [BitVec.ofInt_natCast, BitVec.toNat_ofNat]; exact Nat.mod_eq_of_lt (by omega)
  have h2 : (BitVec.ofInt 64 1).toNat = 1 := by decide
  show IntKind.i64.wrap ((BitVec.ofInt 64 (k : Int) &&& BitVec.ofInt 64 1).toNat : Int) = _
  rw [BitVec.toNat_and, h1, h2, Nat.and_one_is_mod]
  rcases Nat.mod_two_eq_zero_or_one k with e | e <;> rw [e] <;> decide

theorem mul_bd {x y m : Nat} (hx : x < m) (hy : y < m) (hm : m ≤ 1048576) : 0 ≤ (x : Int) * (y : Int) ∧ (x : Int) * (y : Int) ≤ 1099511627776 := by
  have h : x * y ≤ 1048576 * 1048576 := Nat.mul_le_mul (by omega) (by omega)
  have h2 : ((x * y : Nat) : Int) = (x : Int) * (y : Int) := by simp
  omega

theorem two_mod (a : Int) {m : Nat} (hm : 1 ≤ m) : (a.tmod (m : Int) + (m : Int)) % (m : Int) = ((rs a m : Nat) : Int) := by
  rw [rs_cast a hm, Int.add_emod_right]
  by_cases h : a.tmod (m : Int) < 0
  · have := Go.Proofs.Ytpflkihagebmlab.Calls1.tmod_neg_lt (n := a) (m := m) (by omega) h
    rw [show a.tmod (m : Int) = a % (m : Int) - (m : Int) by omega, Int.sub_emod_right, Int.emod_emod]
  · rw [Go.Proofs.Ytpflkihagebmlab.Calls1.tmod_not_lt (n := a) (m := m) (by omega) h, Int.emod_emod]

set_option maxRecDepth 100000 in
theorem raise_any (a : Int) (k m : Nat) (hk : k ≤ 2147483648) (hm1 : 1 ≤ m) (hm2 : m ≤ 1048576) (w : World) :
    Calls Try.prog 47 #[.int .i64 a, .int .i64 (k : Int), .int .i64 (m : Int)] w fun e w' => e = .returned (.int .i64 (pw a k m : Int)) ∧ w' = w := by
  have hb := tmod_bd (n := a) (m := m) (by omega)
  have H2 := hid (two_mod a hm1)
  have hm0 : ¬ (m : Int) = 0 := by omega
  go_enter Try.func47, Try.ntmps47
  go_wp2
  go_loop [1, 7, 8] (fun tk ts tp => ∃ k' s p : Nat, tk = .int .i64 (k' : Int) ∧ ts = .int .i64 (s : Int) ∧ tp = .int .i64 (p : Int) ∧ k' ≤ 2147483648 ∧ s < m ∧ p < m ∧ Hid (p * s ^ k' % m = pw a k m)) (fun tk _ _ => (intOf tk).toNat)
  case atStart =>
    exact ⟨k, rs a m, 1 % m, rfl, by rw [← H2.out], by simp, hk, rs_lt a hm1, Nat.mod_lt _ (by omega), raise_start a k⟩
  case round =>
    obtain ⟨k', s, p, rfl, rfl, rfl, hk', hs, hp, hI⟩ := hrel
    by_cases h0 : k' = 0
    · subst h0
      have e := hid (raise_end hp hI.out)
      go_wp2
      go_ret
      exact ⟨ret_int (by rw [e.out]), rfl⟩
    · have h0' : 0 < (k' : Int) := by omega
      obtain ⟨a1, a2⟩ := mul_bd hs hs hm2
      obtain ⟨b1, b2⟩ := mul_bd hp hs hm2
      have hK : k' / 2 ≤ 2147483648 := by omega
      have hq : (k' : Int) / 2 = ((k' / 2 : Nat) : Int) := by omega
      have hQ := hid hq
      clear hq
      have hms : Hid (((s * s % m : Nat) : Int) = (s : Int) * (s : Int) % (m : Int)) := by show _ = _; simp
      have hmp : Hid (((p * s % m : Nat) : Int) = (p : Int) * (s : Int) % (m : Int)) := by show _ = _; simp
      have l1 : s * s % m < m := Nat.mod_lt _ (by omega)
      have l2 : p * s % m < m := Nat.mod_lt _ (by omega)
      by_cases ho : k' % 2 = 1
      · have hbit : (bits .and .i64 (k' : Int) 1 == 1) = true := by rw [and_one (by omega), ho]; rfl
        have hN := hid (raise_odd hI.out ho)
        clear ho
        go_wp2
        go_round
        case rel => exact ⟨k' / 2, s * s % m, p * s % m, by rw [← hQ.out], by rw [hms.out], by rw [hmp.out], hK, l1, l2, hN⟩
        case measure => simp only [intOf]; omega
      · have hbit : (bits .and .i64 (k' : Int) 1 == 1) = false := by rw [and_one (by omega), show k' % 2 = 0 by omega]; rfl
        have hN := hid (raise_even hI.out (show k' % 2 = 0 by omega))
        clear ho
        go_wp2
        go_round
        case rel => exact ⟨k' / 2, s * s % m, p, by rw [← hQ.out], by rw [hms.out], rfl, hK, l1, hp, hN⟩
        case measure => simp only [intOf]; omega

theorem isNumber_any (n : Int) (w : World) :
    Calls Try.prog 44 #[.int .i64 n] w fun e w' => e = .returned (.bool (decide (-2147483648 ≤ n ∧ n ≤ 2147483648))) ∧ w' = w := by
  by_cases h : -2147483648 ≤ n ∧ n ≤ 2147483648
  · rw [decide_eq_true h]
    obtain ⟨h1, h2⟩ := h
    go_enter Try.func44, Try.ntmps44
    go_wp2
    go_ret
    exact ⟨rfl, rfl⟩
  · rw [decide_eq_false h]
    by_cases h1 : -2147483648 ≤ n
    · have h2 : ¬ n ≤ 2147483648 := by omega
      clear h
      go_enter Try.func44, Try.ntmps44
      go_wp2
      go_ret
      exact ⟨rfl, rfl⟩
    · clear h
      go_enter Try.func44, Try.ntmps44
      go_wp2
      go_ret
      exact ⟨rfl, rfl⟩

theorem isExponent_any (n : Int) (w : World) :
    Calls Try.prog 45 #[.int .i64 n] w fun e w' => e = .returned (.bool (decide (0 ≤ n ∧ n ≤ 2147483648))) ∧ w' = w := by
  by_cases h : 0 ≤ n ∧ n ≤ 2147483648
  · rw [decide_eq_true h]
    obtain ⟨h1, h2⟩ := h
    go_enter Try.func45, Try.ntmps45
    go_wp2
    go_ret
    exact ⟨rfl, rfl⟩
  · rw [decide_eq_false h]
    by_cases h1 : 0 ≤ n
    · have h2 : ¬ n ≤ 2147483648 := by omega
      clear h
      go_enter Try.func45, Try.ntmps45
      go_wp2
      go_ret
      exact ⟨rfl, rfl⟩
    · clear h
      go_enter Try.func45, Try.ntmps45
      go_wp2
      go_ret
      exact ⟨rfl, rfl⟩

theorem isModulus_any (n : Int) (w : World) :
    Calls Try.prog 46 #[.int .i64 n] w fun e w' => e = .returned (.bool (decide (1 ≤ n ∧ n ≤ 1048576))) ∧ w' = w := by
  by_cases h : 1 ≤ n ∧ n ≤ 1048576
  · rw [decide_eq_true h]
    obtain ⟨h1, h2⟩ := h
    go_enter Try.func46, Try.ntmps46
    go_wp2
    go_ret
    exact ⟨rfl, rfl⟩
  · rw [decide_eq_false h]
    by_cases h1 : 1 ≤ n
    · have h2 : ¬ n ≤ 1048576 := by omega
      clear h
      go_enter Try.func46, Try.ntmps46
      go_wp2
      go_ret
      exact ⟨rfl, rfl⟩
    · clear h
      go_enter Try.func46, Try.ntmps46
      go_wp2
      go_ret
      exact ⟨rfl, rfl⟩

theorem Pow_yes (a : Int) (k m : Nat) (ha1 : -2147483648 ≤ a) (ha2 : a ≤ 2147483648) (hk : k ≤ 2147483648) (hm1 : 1 ≤ m) (hm2 : m ≤ 1048576) (w : World) :
    Calls Try.prog 32 #[.int .i64 a, .int .i64 (k : Int), .int .i64 (m : Int)] w fun e w' => e = .returned (.tuple #[.int .i64 (pw a k m : Int), .int .i64 0]) ∧ w' = w := by
  have cN := fun w => isNumber_any a w
  have cE := fun w => isExponent_any (k : Int) w
  have cM := fun w => isModulus_any (m : Int) w
  have cR := fun w => raise_any a k m hk hm1 hm2 w
  rw [decide_eq_true ⟨ha1, ha2⟩] at cN
  rw [decide_eq_true ⟨by omega, by omega⟩] at cE
  rw [decide_eq_true ⟨by omega, by omega⟩] at cM
  go_enter Try.func32, Try.ntmps32
  go_wp2_with (first | (go_at_call 44; refine (cN _).mono ?_; rintro e w' ⟨rfl, hw⟩; subst w') | (go_at_call 45; refine (cE _).mono ?_; rintro e w' ⟨rfl, hw⟩; subst w') | (go_at_call 46; refine (cM _).mono ?_; rintro e w' ⟨rfl, hw⟩; subst w') | (go_at_call 47; refine (cR _).mono ?_; rintro e w' ⟨rfl, hw⟩; subst w'))
  go_ret2
  exact ⟨rfl, rfl⟩

theorem Pow_no (a k m : Int) (h : ¬ ((-2147483648 ≤ a ∧ a ≤ 2147483648) ∧ (0 ≤ k ∧ k ≤ 2147483648) ∧ (1 ≤ m ∧ m ≤ 1048576))) (w : World) :
    Calls Try.prog 32 #[.int .i64 a, .int .i64 k, .int .i64 m] w fun e w' => e = .returned (.tuple #[.int .i64 0, .int .i64 2]) ∧ w' = w := by
  have cN := fun w => isNumber_any a w
  have cE := fun w => isExponent_any k w
  have cM := fun w => isModulus_any m w
  by_cases h1 : -2147483648 ≤ a ∧ a ≤ 2147483648
  · rw [decide_eq_true h1] at cN
    by_cases h2 : 0 ≤ k ∧ k ≤ 2147483648
    · rw [decide_eq_true h2] at cE
      rw [decide_eq_false (fun h3 => h ⟨h1, h2, h3⟩)] at cM
      clear h h1 h2
      go_enter Try.func32, Try.ntmps32
      go_wp2_with (first | (go_at_call 44; refine (cN _).mono ?_; rintro e w' ⟨rfl, hw⟩; subst w') | (go_at_call 45; refine (cE _).mono ?_; rintro e w' ⟨rfl, hw⟩; subst w') | (go_at_call 46; refine (cM _).mono ?_; rintro e w' ⟨rfl, hw⟩; subst w'))
      go_ret2
      exact ⟨rfl, rfl⟩
    · rw [decide_eq_false h2] at cE
      clear h h1 h2
      go_enter Try.func32, Try.ntmps32
      go_wp2_with (first | (go_at_call 44; refine (cN _).mono ?_; rintro e w' ⟨rfl, hw⟩; subst w') | (go_at_call 45; refine (cE _).mono ?_; rintro e w' ⟨rfl, hw⟩; subst w'))
      go_ret2
      exact ⟨rfl, rfl⟩
  · rw [decide_eq_false h1] at cN
    clear h h1
    go_enter Try.func32, Try.ntmps32
    go_wp2_with (go_at_call 44; refine (cN _).mono ?_; rintro e w' ⟨rfl, hw⟩; subst w')
    go_ret2
    exact ⟨rfl, rfl⟩

theorem refMod_at (n : Int) (m : Nat) (w : World) (h1 : 1 ≤ m) (h2 : m ≤ 1048576) :
    Calls Try.prog 57 #[.int .i64 n, .int .i64 (m : Int)] w fun e w' => e = .returned (.int .i64 (rs n m : Int)) ∧ w' = w := by
  rw [rs_cast n h1]
  exact refMod_any n m w (by omega) (by omega)

set_option maxRecDepth 100000 in
theorem refPow_any (a : Int) (m : Nat) (hm1 : 1 ≤ m) (hm2 : m ≤ 1048576) : ∀ (k : Nat) (w : World), k ≤ 2147483648 →
    Calls Try.prog 43 #[.int .i64 a, .int .i64 (k : Int), .int .i64 (m : Int)] w fun e w' => e = .returned (.int .i64 (pw a k m : Int)) ∧ w' = w := by
  have hm0 : ¬ (m : Int) = 0 := by omega
  intro k
  induction k using Nat.strongRecOn with
  | _ k ih =>
    intro w hk
    by_cases h0 : k = 0
    · subst h0
      have e : Hid ((pw a 0 m : Int) = 1 % (m : Int)) := by show _ = _; rw [pw_zero]; simp
      go_enter Try.func43, Try.ntmps43
      go_wp2
      go_ret
      exact ⟨ret_int e.out.symm, rfl⟩
    · have h0' : ((k : Int) == 0) = false := by
        simpa using h0
      have cP : ∀ w, Calls Try.prog 43 #[.int .i64 a, .int .i64 ((k : Int) / 2), .int .i64 (m : Int)] w fun e w' => e = .returned (.int .i64 (pw a (k / 2) m : Int)) ∧ w' = w := by
        intro w
        rw [show (k : Int) / 2 = ((k / 2 : Nat) : Int) by omega]
        exact ih (k / 2) (by omega) w (by omega)
      have cM := fun w => refMod_at a m w hm1 hm2
      have hl := pw_lt a (k / 2) hm1
      have hr := rs_lt a hm1
      obtain ⟨a1, a2⟩ := mul_bd hl hl hm2
      have l1 : pw a (k / 2) m * pw a (k / 2) m % m < m := Nat.mod_lt _ (by omega)
      obtain ⟨b1, b2⟩ := mul_bd l1 hr hm2
      have e1 := hid (fun h => pw_even a (k := k) m h)
      have e2 := hid (fun h => pw_odd a (k := k) hm1 h)
      have hc1 : ((pw a (k / 2) m * pw a (k / 2) m % m : Nat) : Int) = (pw a (k / 2) m : Int) * (pw a (k / 2) m : Int) % (m : Int) := by simp
      rw [hc1] at b1 b2
      clear hc1
      clear ih
      by_cases ho : k % 2 = 1
      · have ho' : ((k : Int) % 2 == 1) = true := by
          have : (k : Int) % 2 = 1 := by omega
          simp [this]
        have e3 := hid (e2.out ho)
        clear ho
        go_enter Try.func43, Try.ntmps43
        go_wp2_with (first | (go_at_call 43; refine (cP _).mono ?_; rintro e w' ⟨rfl, hw⟩; subst w') | (go_at_call 57; refine (cM _).mono ?_; rintro e w' ⟨rfl, hw⟩; subst w'))
        go_ret
        exact ⟨ret_int (by rw [← e3.out]; push_cast; rfl), rfl⟩
      · have ho' : ((k : Int) % 2 == 1) = false := by
          have : ¬ (k : Int) % 2 = 1 := by omega
          simp [this]
        have e3 := hid (e1.out (by omega))
        clear ho
        go_enter Try.func43, Try.ntmps43
        go_wp2_with (first | (go_at_call 43; refine (cP _).mono ?_; rintro e w' ⟨rfl, hw⟩; subst w') | (go_at_call 57; refine (cM _).mono ?_; rintro e w' ⟨rfl, hw⟩; subst w'))
        go_ret
        exact ⟨ret_int (by rw [← e3.out]; simp), rfl⟩

end Go.Proofs.Ytpflkihagebmlab.Calls19
