/-
  The document's own roads: when powers are 1 again, one by one; and of all.
-/
import Derived.Test.YtpgopgmeabnnnaaCalls4
import Derived.Test.YtpgopgmeabnnnaaCalls3
import Derived.Test.YtpgopgmeabnnnaaCalls11
import Derived.Test.YtpgopgmeabnnnaaCalls19
namespace Go.Proofs.Ytpgopgmeabnnnaa.Calls23
set_option linter.unusedVariables false
open Go.ChangeShapes Go.WideShapes Go.ChangeAt Go.RowKit Go.Proofs.Ytpgopgmeabnnnaa.Num Go.Proofs.Ytpgopgmeabnnnaa.Num6 Go.Proofs.Ytpgopgmeabnnnaa.Num8 Go.Proofs.Ytpgopgmeabnnnaa.Num13 Go.Proofs.Ytpgopgmeabnnnaa.Calls8 Go.Proofs.Ytpgopgmeabnnnaa.Calls9 Go.Proofs.Ytpgopgmeabnnnaa.Calls11 Go.Proofs.Ytpgopgmeabnnnaa.Calls19
open Go.Proofs.Ytpgopgmeabnnnaa.Math (gg gg_abs)

open Go.Proofs.Ytpgopgmeabnnnaa.Calls3 (ll ll_bd)


theorem ll_nat {a b : Nat} (ha : 1 ≤ a) : ll (a : Int) (b : Int) = (Nat.lcm a b : Int) := by
  unfold ll gg
  rw [Int.gcd_natCast_natCast, Int.natAbs_natCast, Int.natAbs_natCast]
  have hd := Nat.gcd_dvd_left a b
  have e : Nat.lcm a b = a / Nat.gcd a b * b := by
    unfold Nat.lcm
    exact Nat.div_mul_right_comm hd b |>.symm
  rw [e]; push_cast; rfl

theorem meas6 {q M : Nat} (h : q ≤ M) : (((M : Int) + 1) - ((q : Int) + 1)).toNat < (((M : Int) + 1) - (q : Int)).toNat := by omega

/-- Found at k, or nowhere. -/
def Found (a : Int) (m k : Nat) : Prop := (k = 0 ∧ ¬ Nat.gcd (rs a m) m = 1) ∨ IsOrd (rs a m) m k

set_option maxRecDepth 100000 in
theorem refOrder_any (a : Int) (m : Nat) (hm1 : 1 ≤ m) (hm2 : m ≤ 1048576) (w : World) :
    Calls Try.prog 23 #[.int .i64 a, .int .i64 (m : Int)] w fun e w' => (∃ k, Found a m k ∧ e = .returned (.int .i64 (k : Int))) ∧ w' = w := by
  have hm0 : ¬ (m : Int) = 0 := by omega
  have cM := fun w => refMod_at a m w hm1 hm2
  have hr := rs_lt a hm1
  have e1 : Hid ((1 : Int) % (m : Int) = ((1 % m : Nat) : Int)) := by show _ = _; simp
  go_enter Try.func23, Try.ntmps23
  go_wp2
  go_loop [5, 6] (fun x k => ∃ x' k' : Nat, x = .int .i64 (x' : Int) ∧ k = .int .i64 (k' : Int) ∧ 1 ≤ k' ∧ k' ≤ m + 1 ∧ x' < m ∧ Hid (x' = pw a (k' - 1) m) ∧ Hid (NotYet a m k')) (fun x k => (((m : Int) + 1) - intOf k).toNat)
  case atStart => exact ⟨1 % m, 1, by rw [e1.out], rfl, by omega, by omega, Nat.mod_lt _ (by omega), (pw_zero a m).symm, NotYet.start a m⟩
  case round =>
    obtain ⟨x, k, rfl, rfl, hk1, hkm, hx, hX, hN⟩ := hrel
    by_cases hgo : k ≤ m
    · have hgo' : (k : Int) ≤ (m : Int) := by omega
      obtain ⟨b1, b2⟩ := mul_bd hx hr hm2
      have hP : x * rs a m % m = pw a k m := by
        rw [hX.out, pw_succ a _ hm1, Nat.sub_add_cancel hk1]
      have hPc : Hid ((x : Int) * (rs a m : Int) % (m : Int) = (pw a k m : Int)) := by
        show _ = _
        rw [← hP]; push_cast; rfl
      have hP' := hid hP
      clear hP
      have ht : ((x : Int) * (rs a m : Int) % (m : Int) == 1 % (m : Int)) = decide (pw a k m = 1 % m) := by
        rw [hPc.out, e1.out]
        by_cases h : pw a k m = 1 % m
        · rw [decide_eq_true h, h]; simp
        · rw [decide_eq_false h, beq_eq_false_iff_ne]
          intro h3; exact h (by exact_mod_cast h3)
      by_cases hone : pw a k m = 1 % m
      · have hD : Hid (Found a m k) := Or.inr (hN.out.found hk1 hone)
        rw [decide_eq_true hone] at ht
        clear hone
        go_wp2_with (go_at_call 19; refine (cM _).mono ?_; rintro e w' ⟨rfl, hw⟩; subst w')
        go_ret
        exact ⟨⟨k, hD.out, rfl⟩, rfl⟩
      · have hN2 := hid (hN.out.next hone)
        rw [decide_eq_false hone] at ht
        clear hone
        have hl := pw_lt a k hm1
        go_wp2_with (go_at_call 19; refine (cM _).mono ?_; rintro e w' ⟨rfl, hw⟩; subst w')
        go_round
        case rel => exact ⟨pw a k m, k + 1, by rw [hPc.out], by simp, by omega, by omega, hl, rfl, hN2⟩
        case measure => exact meas6 hgo
    · have hgo' : ¬ (k : Int) ≤ (m : Int) := by omega
      have hD : Hid (Found a m 0) := Or.inl ⟨rfl, NotYet.none hm1 (by rw [show m + 1 = k by omega]; exact hN.out)⟩
      go_wp2
      go_ret
      exact ⟨⟨0, hD.out, rfl⟩, rfl⟩

theorem refOrder_yes (a : Int) (m o : Nat) (hm1 : 1 ≤ m) (hm2 : m ≤ 1048576) (ho : IsOrd (rs a m) m o) (w : World) :
    Calls Try.prog 23 #[.int .i64 a, .int .i64 (m : Int)] w fun e w' => e = .returned (.int .i64 (o : Int)) ∧ w' = w := by
  refine (refOrder_any a m hm1 hm2 w).mono ?_
  rintro e w' ⟨⟨k, hk, rfl⟩, hw⟩
  rcases hk with ⟨_, hg⟩ | h
  · exact absurd (cop_of_pow hm1 ho.1 ho.2.1) hg
  · rw [h.uniq ho]; exact ⟨rfl, hw⟩

theorem refOrder_none (a : Int) (m : Nat) (hm1 : 1 ≤ m) (hm2 : m ≤ 1048576) (hg : ¬ Nat.gcd (rs a m) m = 1) (w : World) :
    Calls Try.prog 23 #[.int .i64 a, .int .i64 (m : Int)] w fun e w' => e = .returned (.int .i64 0) ∧ w' = w := by
  refine (refOrder_any a m hm1 hm2 w).mono ?_
  rintro e w' ⟨⟨k, hk, rfl⟩, hw⟩
  rcases hk with ⟨h0, _⟩ | h
  · subst h0; exact ⟨rfl, hw⟩
  · exact absurd (cop_of_pow hm1 h.1 h.2.1) hg

end Go.Proofs.Ytpgopgmeabnnnaa.Calls23
