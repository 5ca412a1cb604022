/-
  Package crt on Euclid's: the two as a join needs them, with what lies below as it lay; what is left; the limits of a rest.
-/
import Derived.Test.YtoohnfcikapmlaaCalls6
import Derived.Test.YtoohnfcikapmlaaBase
import Derived.Test.YtoohnfcikapmlaaNum27
namespace Go.Proofs.Ytoohnfcikapmlaa.Calls24
set_option linter.unusedVariables false
open Go.ChangeShapes Go.WideShapes Go.ChangeAt Go.RowKit Go.Proofs.Ytoohnfcikapmlaa.Base Go.Proofs.Ytoohnfcikapmlaa.Num14 Go.Proofs.Ytoohnfcikapmlaa.Num27
open Go.Proofs.Ytoohnfcikapmlaa.Math (gg gg_abs gg_le gg_pos)
open Go.Proofs.Ytoohnfcikapmlaa.Calls1 (abs_any tmod_bd tmod_neg_lt tmod_not_lt refMod_any)
open Go.Proofs.Ytoohnfcikapmlaa.Calls2 (extend_any)
open Go.Proofs.Ytoohnfcikapmlaa.Calls3 (two_yes ll ll_bd)

open Go.Proofs.Ytoohnfcikapmlaa.Calls6 (leastFactor_any quot_bd prod_bd quo_bd)

theorem ll_nat {a b : Nat} (ha : 1 ≤ a) : ll (a : Int) (b : Int) = (Nat.lcm a b : Int) := by
  unfold ll gg
  rw [Int.gcd_natCast_natCast, Int.natAbs_natCast, Int.natAbs_natCast]
  have hd := Nat.gcd_dvd_left a b
  have e : Nat.lcm a b = a / Nat.gcd a b * b := by
    unfold Nat.lcm
    exact Nat.div_mul_right_comm hd b |>.symm
  rw [e]; push_cast; rfl

theorem gg_nat (a b : Nat) : gg (a : Int) (b : Int) = ((Nat.gcd a b : Nat) : Int) := by
  unfold gg
  rw [Int.gcd_natCast_natCast]

theorem Lcm_i (a b : Int) (w : World) (h1 : a ≠ 0) (h2 : b ≠ 0) (ha1 : -2147483648 ≤ a) (ha2 : a ≤ 2147483648) (hb1 : -2147483648 ≤ b) (hb2 : b ≤ 2147483648) :
    Calls Try.prog 30 #[.int .i64 a, .int .i64 b] w fun e w' =>
      e = .returned (.tuple #[.int .i64 (ll a b), .int .i64 0]) ∧ Below w.heap.size w w' := by
  have h1' : (a == 0) = false := by simpa using h1
  have h2' : (b == 0) = false := by simpa using h2
  obtain ⟨g1, q0, q1, l0, l1⟩ := ll_bd (Or.inl h1) ha1 ha2 hb1 hb2
  have H := gg_abs a b
  unfold ll at l0 l1 ⊢
  rw [← H] at g1 q0 q1 l0 l1 ⊢
  clear H
  go_enter Try.func30, Try.ntmps30
  go_wp2_with (first
    | (go_at_call 41; refine (two_yes a b _ ha1 ha2 hb1 hb2).mono ?_; rintro e w' ⟨rfl, rfl⟩)
    | (go_at_call 43; refine (abs_any _ _ (by omega) (by omega)).mono ?_; rintro e w' ⟨rfl, rfl⟩)
    | (go_at_call 42; refine (extend_any _ _ _ (by omega) (by omega) (by omega) (by omega)).mono ?_; rintro e w' ⟨x, rfl, hx1, hx2, hx3, rfl⟩; clear hx3))
  go_quiet ((go_at_call 43; exact Calls.quiet_of_same (abs_any _ _ (by omega) (by omega))))
  go_wp2
  go_ret2
  exact ⟨rfl, below_drewN ((Below.refl _ _).alloc (Nat.le_refl _) _) _⟩

theorem Lcm_b (a b : Nat) (w : World) (ha1 : 1 ≤ a) (ha2 : a ≤ 2147483648) (hb1 : 1 ≤ b) (hb2 : b ≤ 2147483648) :
    Calls Try.prog 30 #[.int .i64 (a : Int), .int .i64 (b : Int)] w fun e w' =>
      e = .returned (.tuple #[.int .i64 (Nat.lcm a b : Int), .int .i64 0]) ∧ Below w.heap.size w w' := by
  rw [← ll_nat ha1]
  exact Lcm_i a b w (by omega) (by omega) (by omega) (by omega) (by omega) (by omega)

theorem Bezout_b (a b : Nat) (w : World) (ha1 : 1 ≤ a) (ha2 : a ≤ 2147483648) (hb1 : 1 ≤ b) (hb2 : b ≤ 2147483648) :
    Calls Try.prog 39 #[.int .i64 (a : Int), .int .i64 (b : Int)] w fun e w' =>
      ∃ x y g : Int, e = .returned (.tuple #[.int .i64 g, .int .i64 x, .int .i64 y, .int .i64 0]) ∧ g = ((Nat.gcd a b : Nat) : Int) ∧
        0 ≤ x ∧ x < (b : Int) / g ∧ (b : Int) ∣ x * (a : Int) - g ∧ Below w.heap.size w w' := by
  have hb : (b : Int) ≠ 0 := by omega
  obtain ⟨g1, m1, m2⟩ := quot_bd (a := (a : Int)) hb
  have gl : gg (a : Int) (b : Int) ≤ 2147483648 := by rw [← gg_abs]; exact gg_le (by omega) (by omega) (by omega) (by omega)
  have hb0 : ((b : Int) == 0) = false := by simpa using hb
  have hb' : ¬ (b : Int) = 0 := hb
  have hN := hid (gg_nat a b)
  have ha1' : -2147483648 ≤ (a : Int) := by omega
  have ha2' : (a : Int) ≤ 2147483648 := by omega
  have hb1' : -2147483648 ≤ (b : Int) := by omega
  have hb2' : (b : Int) ≤ 2147483648 := by omega
  go_enter Try.func39, Try.ntmps39
  go_wp2_with (first
    | (go_at_call 41; refine (two_yes (a : Int) (b : Int) _ ha1' ha2' hb1' hb2').mono ?_; rintro e w' ⟨rfl, rfl⟩)
    | (go_at_call 44; refine (leastFactor_any _ _ _ hb ha1' ha2' hb1' hb2').mono ?_; rintro e w' ⟨x, rfl, hx1, hx2, hx3, rfl⟩; have HX := hid hx3; clear hx3; obtain ⟨sl, su⟩ := prod_bd hx1 hx2 (by omega) ha1' ha2'; obtain ⟨ql, qu⟩ := quo_bd (z := gg (a : Int) (b : Int) - x * (a : Int)) (b := (b : Int)) (by omega) (by omega)))
  go_quiet (fail)
  go_wp2
  refine bodyPost_ret (v := .tuple #[.int .i64 (gg (a : Int) (b : Int)), .int .i64 x, .int .i64 ((gg (a : Int) (b : Int) - x * (a : Int)).tdiv (b : Int)), .int .i64 0]) (by simp [results, Try.results39, go_sem]) rfl ⟨x, _, gg (a : Int) (b : Int), rfl, hN.out, hx1, ?_, HX.out, below_drewN ((Below.refl _ _).alloc (Nat.le_refl _) _) _⟩
  rw [Int.natAbs_natCast] at hx2
  exact hx2

theorem cleft_any (n m : Int) (w : World) (h1 : 1 ≤ m) (h2 : m ≤ 2147483648) :
    Calls Try.prog 40 #[.int .i64 n, .int .i64 m] w fun e w' => e = .returned (.int .i64 (n % m)) ∧ w' = w := by
  have hb := tmod_bd (n := n) h1
  have h0 : ¬ m = 0 := by omega
  have H : Hid ((n.tmod m + m) % m = n % m) := by
    show _ = _
    by_cases h : n.tmod m < 0
    · rw [tmod_neg_lt h1 h, Int.emod_emod]
    · rw [tmod_not_lt h1 h, Int.add_emod_right, Int.emod_emod]
  have hq0 : 0 ≤ n.tmod m + m := by omega
  go_enter Try.func40, Try.ntmps40
  go_wp2
  go_ret
  exact ⟨ret_int H.out, rfl⟩

theorem isRest_yes (a m : Int) (w : World) (h : OkR (a, m)) :
    Calls Try.prog 38 #[.agg #[.int .i64 a, .int .i64 m]] w fun e w' => e = .returned (.bool true) ∧ Below w.heap.size w w' := by
  obtain ⟨h1, h2, h3, h4⟩ := h
  simp only at h1 h2 h3 h4
  go_enter Try.func38, Try.ntmps38
  go_wp2
  go_ret
  exact ⟨ret_bool (by simp), (Below.refl _ _).alloc (Nat.le_refl _) _⟩

theorem isRest_no (a m : Int) (w : World) (h : ¬ OkR (a, m)) :
    Calls Try.prog 38 #[.agg #[.int .i64 a, .int .i64 m]] w fun e w' => e = .returned (.bool false) ∧ Below w.heap.size w w' := by
  by_cases h1 : 1 ≤ m
  · by_cases h2 : m ≤ 1048576
    · by_cases h3 : -2147483648 ≤ a
      · have h4 : ¬ a ≤ 2147483648 := fun h4 => h ⟨h1, h2, h3, h4⟩
        clear h
        go_enter Try.func38, Try.ntmps38
        go_wp2
        go_ret
        exact ⟨ret_bool (by simp), (Below.refl _ _).alloc (Nat.le_refl _) _⟩
      · clear h
        go_enter Try.func38, Try.ntmps38
        go_wp2
        go_ret
        exact ⟨rfl, (Below.refl _ _).alloc (Nat.le_refl _) _⟩
    · clear h
      go_enter Try.func38, Try.ntmps38
      go_wp2
      go_ret
      exact ⟨rfl, (Below.refl _ _).alloc (Nat.le_refl _) _⟩
  · clear h
    go_enter Try.func38, Try.ntmps38
    go_wp2
    go_ret
    exact ⟨rfl, (Below.refl _ _).alloc (Nat.le_refl _) _⟩

end Go.Proofs.Ytoohnfcikapmlaa.Calls24
