/-
  The document's own roads: when powers are 1 again, one by one; and of all.
-/
import Derived.Test.YtoakbobofaepiaaCalls4
import Derived.Test.YtoakbobofaepiaaCalls3
import Derived.Test.YtoakbobofaepiaaCalls11
import Derived.Test.YtoakbobofaepiaaCalls19
namespace Go.Proofs.Ytoakbobofaepiaa.Calls23
set_option linter.unusedVariables false
open Go.ChangeShapes Go.WideShapes Go.ChangeAt Go.RowKit Go.Proofs.Ytoakbobofaepiaa.Num Go.Proofs.Ytoakbobofaepiaa.Num6 Go.Proofs.Ytoakbobofaepiaa.Num8 Go.Proofs.Ytoakbobofaepiaa.Num13 Go.Proofs.Ytoakbobofaepiaa.Calls8 Go.Proofs.Ytoakbobofaepiaa.Calls9 Go.Proofs.Ytoakbobofaepiaa.Calls11 Go.Proofs.Ytoakbobofaepiaa.Calls19
open Go.Proofs.Ytoakbobofaepiaa.Math (gg gg_abs)
open Go.Proofs.Ytoakbobofaepiaa.Calls1 (refAbs_any)
open Go.Proofs.Ytoakbobofaepiaa.Calls3 (ll ll_bd)
open Go.Proofs.Ytoakbobofaepiaa.Calls4 (refGcd_any)

theorem ll_nat {a b : Nat} (ha : 1 ≤ a) : ll (a : Int) (b : Int) = (Nat.lcm a b : Int) := by
  unfold ll gg
  rw [Int.gcd_natCast_natCast, Int.natAbs_natCast, Int.natAbs_natCast]
  have hd := Nat.gcd_dvd_left a b
  have e : Nat.lcm a b = a / Nat.gcd a b * b := by
    unfold Nat.lcm
    exact Nat.div_mul_right_comm hd b |>.symm
  rw [e]; push_cast; rfl

theorem refLcm_i (a b : Int) (w : World) (h1 : a ≠ 0) (h2 : b ≠ 0) (ha1 : -2147483648 ≤ a) (ha2 : a ≤ 2147483648) (hb1 : -2147483648 ≤ b) (hb2 : b ≤ 2147483648) :
    Calls Try.prog 32 #[.int .i64 a, .int .i64 b] w fun e w' => e = .returned (.int .i64 (ll a b)) ∧ ∃ n, w' = w.drewN n := by
  have h1' : (a == 0) = false := by simpa using h1
  have h2' : (b == 0) = false := by simpa using h2
  obtain ⟨g1, q0, q1, l0, l1⟩ := ll_bd (Or.inl h1) ha1 ha2 hb1 hb2
  unfold ll at l0 l1 ⊢
  clear h1 h2
  go_enter Try.func32, Try.ntmps32
  go_wp2_with fail
  go_quiet ((first | (go_at_call 33; exact Calls.quiet_of_same (refAbs_any _ _ (by omega) (by omega))) | (go_at_call 22; exact Calls.quiet_of_same (refGcd_any _ _ _ (by omega) (by omega) (by omega) (by omega)))))
  go_wp2
  go_ret
  exact ⟨rfl, _, rfl⟩

theorem refLcm_n (a b : Nat) (w : World) (ha1 : 1 ≤ a) (ha2 : a ≤ 2147483648) (hb1 : 1 ≤ b) (hb2 : b ≤ 2147483648) :
    Calls Try.prog 32 #[.int .i64 (a : Int), .int .i64 (b : Int)] w fun e w' => e = .returned (.int .i64 (Nat.lcm a b : Int)) ∧ ∃ n, w' = w.drewN n := by
  rw [← ll_nat ha1]
  exact refLcm_i a b w (by omega) (by omega) (by omega) (by omega) (by omega) (by omega)

theorem meas6 {q M : Nat} (h : q ≤ M) : (((M : Int) + 1) - ((q : Int) + 1)).toNat < (((M : Int) + 1) - (q : Int)).toNat := by omega

/-- Found at k, or nowhere. -/
def Found (a : Int) (m k : Nat) : Prop := (k = 0 ∧ ¬ Nat.gcd (rs a m) m = 1) ∨ IsOrd (rs a m) m k

set_option maxRecDepth 100000 in
theorem refOrder_any (a : Int) (m : Nat) (hm1 : 1 ≤ m) (hm2 : m ≤ 1048576) (w : World) :
    Calls Try.prog 15 #[.int .i64 a, .int .i64 (m : Int)] w fun e w' => (∃ k, Found a m k ∧ e = .returned (.int .i64 (k : Int))) ∧ w' = w := by
  have hm0 : ¬ (m : Int) = 0 := by omega
  have cM := fun w => refMod_at a m w hm1 hm2
  have hr := rs_lt a hm1
  have e1 : Hid ((1 : Int) % (m : Int) = ((1 % m : Nat) : Int)) := by show _ = _; simp
  go_enter Try.func15, Try.ntmps15
  go_wp2
  go_loop [5, 6] (fun x k => ∃ x' k' : Nat, x = .int .i64 (x' : Int) ∧ k = .int .i64 (k' : Int) ∧ 1 ≤ k' ∧ k' ≤ m + 1 ∧ x' < m ∧ Hid (x' = pw a (k' - 1) m) ∧ Hid (NotYet a m k')) (fun x k => (((m : Int) + 1) - intOf k).toNat)
  case atStart => exact ⟨1 % m, 1, by rw [e1.out], rfl, by omega, by omega, Nat.mod_lt _ (by omega), (pw_zero a m).symm, NotYet.start a m⟩
  case round =>
    obtain ⟨x, k, rfl, rfl, hk1, hkm, hx, hX, hN⟩ := hrel
    by_cases hgo : k ≤ m
    · have hgo' : (k : Int) ≤ (m : Int) := by omega
      obtain ⟨b1, b2⟩ := mul_bd hx hr hm2
      have hP : x * rs a m % m = pw a k m := by
        rw [hX.out, pw_succ a _ hm1, Nat.sub_add_cancel hk1]
      have hPc : Hid ((x : Int) * (rs a m : Int) % (m : Int) = (pw a k m : Int)) := by
        show _ = _
        rw [← hP]; push_cast; rfl
      have hP' := hid hP
      clear hP
      have ht : ((x : Int) * (rs a m : Int) % (m : Int) == 1 % (m : Int)) = decide (pw a k m = 1 % m) := by
        rw [hPc.out, e1.out]
        by_cases h : pw a k m = 1 % m
        · rw [decide_eq_true h, h]; simp
        · rw [decide_eq_false h, beq_eq_false_iff_ne]
          intro h3; exact h (by exact_mod_cast h3)
      by_cases hone : pw a k m = 1 % m
      · have hD : Hid (Found a m k) := Or.inr (hN.out.found hk1 hone)
        rw [decide_eq_true hone] at ht
        clear hone
        go_wp2_with (go_at_call 21; refine (cM _).mono ?_; rintro e w' ⟨rfl, hw⟩; subst w')
        go_ret
        exact ⟨⟨k, hD.out, rfl⟩, rfl⟩
      · have hN2 := hid (hN.out.next hone)
        rw [decide_eq_false hone] at ht
        clear hone
        have hl := pw_lt a k hm1
        go_wp2_with (go_at_call 21; refine (cM _).mono ?_; rintro e w' ⟨rfl, hw⟩; subst w')
        go_round
        case rel => exact ⟨pw a k m, k + 1, by rw [hPc.out], by simp, by omega, by omega, hl, rfl, hN2⟩
        case measure => exact meas6 hgo
    · have hgo' : ¬ (k : Int) ≤ (m : Int) := by omega
      have hD : Hid (Found a m 0) := Or.inl ⟨rfl, NotYet.none hm1 (by rw [show m + 1 = k by omega]; exact hN.out)⟩
      go_wp2
      go_ret
      exact ⟨⟨0, hD.out, rfl⟩, rfl⟩

theorem refOrder_yes (a : Int) (m o : Nat) (hm1 : 1 ≤ m) (hm2 : m ≤ 1048576) (ho : IsOrd (rs a m) m o) (w : World) :
    Calls Try.prog 15 #[.int .i64 a, .int .i64 (m : Int)] w fun e w' => e = .returned (.int .i64 (o : Int)) ∧ w' = w := by
  refine (refOrder_any a m hm1 hm2 w).mono ?_
  rintro e w' ⟨⟨k, hk, rfl⟩, hw⟩
  rcases hk with ⟨_, hg⟩ | h
  · exact absurd (cop_of_pow hm1 ho.1 ho.2.1) hg
  · rw [h.uniq ho]; exact ⟨rfl, hw⟩

theorem refOrder_none (a : Int) (m : Nat) (hm1 : 1 ≤ m) (hm2 : m ≤ 1048576) (hg : ¬ Nat.gcd (rs a m) m = 1) (w : World) :
    Calls Try.prog 15 #[.int .i64 a, .int .i64 (m : Int)] w fun e w' => e = .returned (.int .i64 0) ∧ w' = w := by
  refine (refOrder_any a m hm1 hm2 w).mono ?_
  rintro e w' ⟨⟨k, hk, rfl⟩, hw⟩
  rcases hk with ⟨h0, _⟩ | h
  · subst h0; exact ⟨rfl, hw⟩
  · exact absurd (cop_of_pow hm1 h.1 h.2.1) hg

set_option maxRecDepth 100000 in
theorem refLambda_any (m : Nat) (hm1 : 1 ≤ m) (hm2 : m ≤ 1048576) (w : World) :
    Calls Try.prog 17 #[.int .i64 (m : Int)] w fun e w' => (∃ L, IsLam m L ∧ e = .returned (.int .i64 (L : Int))) ∧ Below w.heap.size w w' := by
  go_enter Try.func17, Try.ntmps17
  go_wp2
  go_loopw [3, 4] (fun c y wr => ∃ l y' : Nat, c = .int .i64 (l : Int) ∧ y = .int .i64 (y' : Int) ∧ 1 ≤ y' ∧ y' ≤ m + 1 ∧ Hid (Up m y' l) ∧ ∃ d, wr = w.drewN d) (fun c y wr => (((m : Int) + 1) - intOf y).toNat)
  case atStart => exact ⟨1, 1, rfl, rfl, by omega, by omega, Up.start m, 0, rfl⟩
  case round =>
    obtain ⟨l, y, rfl, rfl, hy1, hym, hU, d, rfl⟩ := hrel
    have hl1 := hU.out.1
    have hl2 := hU.out.le hm1
    by_cases hgo : y ≤ m
    · have hgo' : (y : Int) ≤ (m : Int) := by omega
      by_cases hg : Nat.gcd (rs (y : Int) m) m = 1
      · obtain ⟨k, ho, _⟩ := ord_ex hm1 hg
        have hU2 := hid (hU.out.take (by rw [← rs_nat]; exact ho))
        have hk1 := ho.1
        have hk2 := ord_le hm1 ho
        have hk3 : 0 < (k : Int) := by omega
        have cO := fun w => refOrder_yes (y : Int) m k hm1 hm2 ho w
        have cL := fun w => refLcm_n l k w hl1 (by omega) hk1 (by omega)
        clear ho hg
        go_wp2_with (first | (go_at_call 15; refine (cO _).mono ?_; rintro e w' ⟨rfl, hw⟩; subst w') | (go_at_call 32; refine (cL _).mono ?_; rintro e w' ⟨rfl, n, hw⟩; subst w'))
        go_roundw
        case rel => exact ⟨Nat.lcm l k, y + 1, rfl, by simp, by omega, by omega, hU2, _, rfl⟩
        case measure => exact meas6 hgo
      · have hU2 := hid (hU.out.skip hm1 (by rw [← rs_nat]; exact hg))
        have cO := fun w => refOrder_none (y : Int) m hm1 hm2 hg w
        clear hg
        go_wp2_with (go_at_call 15; refine (cO _).mono ?_; rintro e w' ⟨rfl, hw⟩; subst w')
        go_roundw
        case rel => exact ⟨l, y + 1, rfl, by simp, by omega, by omega, hU2, d, rfl⟩
        case measure => exact meas6 hgo
    · have hgo' : ¬ (y : Int) ≤ (m : Int) := by omega
      have hD := hid (Up.done hm1 (by rw [show m + 1 = y by omega]; exact hU.out))
      go_wp2
      go_ret
      exact ⟨⟨l, hD.out, rfl⟩, below_drewN (Below.refl _ _) _⟩

end Go.Proofs.Ytoakbobofaepiaa.Calls23
