/-
  What the powers of package power answer: raise, and Pow at every input; the document's power by halves.
-/
import Derived.Test.YtpnmepobdnclkaaCalls1
import Derived.Test.YtpnmepobdnclkaaCalls9
import Derived.Test.YtpnmepobdnclkaaFoldB
namespace Go.Proofs.Ytpnmepobdnclkaa.Calls19
set_option linter.unusedVariables false
open Go.ChangeShapes Go.WideShapes Go.ChangeAt Go.RowKit Go.Proofs.Ytpnmepobdnclkaa.Num Go.Proofs.Ytpnmepobdnclkaa.Num3 Go.Proofs.Ytpnmepobdnclkaa.Num6 Go.Proofs.Ytpnmepobdnclkaa.Num8 Go.Proofs.Ytpnmepobdnclkaa.Num13 Go.Proofs.Ytpnmepobdnclkaa.Calls9
open Go.Proofs.Ytpnmepobdnclkaa.Calls1 (refMod_any tmod_bd)

theorem and_one {k : Nat} (h : k ≤ 2147483648) : bits .and .i64 (k : Int) 1 = ((k % 2 : Nat) : Int) := by
  have h1 : (BitVec.ofInt 64 (k : Int)).toNat = k := by
    rw [BitVec.ofInt_natCast, BitVec.toNat_ofNat]; exact Nat.mod_eq_of_lt (by omega)
  have h2 : (BitVec.ofInt 64 1).toNat = 1 := by decide
  show IntKind.i64.wrap ((BitVec.ofInt 64 (k : Int) &&& BitVec.ofInt 64 1).toNat : Int) = _
  rw [BitVec.toNat_and, h1, h2, Nat.and_one_is_mod]
  rcases Nat.mod_two_eq_zero_or_one k with e | e <;> rw [e] <;> decide

theorem mul_bd {x y m : Nat} (hx : x < m) (hy : y < m) (hm : m ≤ 1048576) : 0 ≤ (x : Int) * (y : Int) ∧ (x : Int) * (y : Int) ≤ 1099511627776 := by
  have h : x * y ≤ 1048576 * 1048576 := Nat.mul_le_mul (by omega) (by omega)
  have h2 : ((x * y : Nat) : Int) = (x : Int) * (y : Int) := by simp
  omega

theorem two_mod (a : Int) {m : Nat} (hm : 1 ≤ m) : (a.tmod (m : Int) + (m : Int)) % (m : Int) = ((rs a m : Nat) : Int) := by
  rw [rs_cast a hm, Int.add_emod_right]
  by_cases h : a.tmod (m : Int) < 0
  · have := Go.Proofs.Ytpnmepobdnclkaa.Calls1.tmod_neg_lt (n := a) (m := m) (by omega) h
    rw [show a.tmod (m : Int) = a % (m : Int) - (m : Int) by omega, Int.sub_emod_right, Int.emod_emod]
  · rw [Go.Proofs.Ytpnmepobdnclkaa.Calls1.tmod_not_lt (n := a) (m := m) (by omega) h, Int.emod_emod]

theorem refMod_at (n : Int) (m : Nat) (w : World) (h1 : 1 ≤ m) (h2 : m ≤ 1048576) :
    Calls Try.prog 24 #[.int .i64 n, .int .i64 (m : Int)] w fun e w' => e = .returned (.int .i64 (rs n m : Int)) ∧ w' = w := by
  rw [rs_cast n h1]
  exact refMod_any n m w (by omega) (by omega)

set_option maxRecDepth 100000 in
theorem refPow_any (a : Int) (m : Nat) (hm1 : 1 ≤ m) (hm2 : m ≤ 1048576) : ∀ (k : Nat) (w : World), k ≤ 2147483648 →
    Calls Try.prog 38 #[.int .i64 a, .int .i64 (k : Int), .int .i64 (m : Int)] w fun e w' => e = .returned (.int .i64 (pw a k m : Int)) ∧ w' = w := by
  have hm0 : ¬ (m : Int) = 0 := by omega
  intro k
  induction k using Nat.strongRecOn with
  | _ k ih =>
    intro w hk
    by_cases h0 : k = 0
    · subst h0
      have e : Hid ((pw a 0 m : Int) = 1 % (m : Int)) := by show _ = _; rw [pw_zero]; simp
      go_enter Try.func38, Try.ntmps38
      go_wp2
      go_ret
      exact ⟨ret_int e.out.symm, rfl⟩
    · have h0' : ((k : Int) == 0) = false := by
        simpa using h0
      have cP : ∀ w, Calls Try.prog 38 #[.int .i64 a, .int .i64 ((k : Int) / 2), .int .i64 (m : Int)] w fun e w' => e = .returned (.int .i64 (pw a (k / 2) m : Int)) ∧ w' = w := by
        intro w
        rw [show (k : Int) / 2 = ((k / 2 : Nat) : Int) by omega]
        exact ih (k / 2) (by omega) w (by omega)
      have cM := fun w => refMod_at a m w hm1 hm2
      have hl := pw_lt a (k / 2) hm1
      have hr := rs_lt a hm1
      obtain ⟨a1, a2⟩ := mul_bd hl hl hm2
      have l1 : pw a (k / 2) m * pw a (k / 2) m % m < m := Nat.mod_lt _ (by omega)
      obtain ⟨b1, b2⟩ := mul_bd l1 hr hm2
      have e1 := hid (fun h => pw_even a (k := k) m h)
      have e2 := hid (fun h => pw_odd a (k := k) hm1 h)
      have hc1 : ((pw a (k / 2) m * pw a (k / 2) m % m : Nat) : Int) = (pw a (k / 2) m : Int) * (pw a (k / 2) m : Int) % (m : Int) := by simp
      rw [hc1] at b1 b2
      clear hc1
      clear ih
      by_cases ho : k % 2 = 1
      · have ho' : ((k : Int) % 2 == 1) = true := by
          have : (k : Int) % 2 = 1 := by omega
          simp [this]
        have e3 := hid (e2.out ho)
        clear ho
        go_enter Try.func38, Try.ntmps38
        go_wp2_with (first | (go_at_call 38; refine (cP _).mono ?_; rintro e w' ⟨rfl, hw⟩; subst w') | (go_at_call 24; refine (cM _).mono ?_; rintro e w' ⟨rfl, hw⟩; subst w'))
        go_ret
        exact ⟨ret_int (by rw [← e3.out]; push_cast; rfl), rfl⟩
      · have ho' : ((k : Int) % 2 == 1) = false := by
          have : ¬ (k : Int) % 2 = 1 := by omega
          simp [this]
        have e3 := hid (e1.out (by omega))
        clear ho
        go_enter Try.func38, Try.ntmps38
        go_wp2_with (first | (go_at_call 38; refine (cP _).mono ?_; rintro e w' ⟨rfl, hw⟩; subst w') | (go_at_call 24; refine (cM _).mono ?_; rintro e w' ⟨rfl, hw⟩; subst w'))
        go_ret
        exact ⟨ret_int (by rw [← e3.out]; simp), rfl⟩

end Go.Proofs.Ytpnmepobdnclkaa.Calls19
