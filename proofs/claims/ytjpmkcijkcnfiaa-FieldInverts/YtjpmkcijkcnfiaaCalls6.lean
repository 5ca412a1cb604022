/-
  What leastFactor, Bezout and Inverse of the program answer at every input, and two helpers of the statements.
-/
import Derived.Test.YtjpmkcijkcnfiaaCalls5
namespace Go.Proofs.Ytjpmkcijkcnfiaa.Calls6
set_option linter.unusedVariables false
open Go.ChangeShapes Go.WideShapes Go.ChangeAt Go.RowKit Go.Proofs.Ytjpmkcijkcnfiaa.Math Go.Proofs.Ytjpmkcijkcnfiaa.Calls1 Go.Proofs.Ytjpmkcijkcnfiaa.Calls2 Go.Proofs.Ytjpmkcijkcnfiaa.Calls3 Go.Proofs.Ytjpmkcijkcnfiaa.Calls4 Go.Proofs.Ytjpmkcijkcnfiaa.Calls5

theorem hid {p : Prop} (h : p) : Hid p := h

/-! ### plain arithmetic -/

theorem sg_mul (a : Int) : sg a * a = (a.natAbs : Int) := by
  unfold sg; split
  · omega
  · split <;> omega

theorem mul_sg_bd {x a : Int} (h1 : -2147483648 ≤ x) (h2 : x ≤ 2147483648) : -2147483648 ≤ x * sg a ∧ x * sg a ≤ 2147483648 := by
  unfold sg; split
  · omega
  · split <;> omega

theorem quot_bd {a b : Int} (hb : b ≠ 0) : 1 ≤ gg a b ∧ 1 ≤ (b.natAbs : Int) / gg a b ∧ (b.natAbs : Int) / gg a b ≤ b.natAbs := by
  have g := gg_pos (a := a) (Or.inr hb)
  have d : gg a b ∣ (b.natAbs : Int) := Int.dvd_natAbs.mpr (gg_right a b)
  refine ⟨g, ?_, Int.ediv_le_self _ (by omega)⟩
  have := Int.ediv_pos_of_pos_of_dvd (a := (b.natAbs : Int)) (b := gg a b) (by omega) (by omega) d
  omega

theorem least_ok {a b x0 : Int} (hb : b ≠ 0) (h : (b.natAbs : Int) ∣ x0 * a.natAbs - gg a b) :
    0 ≤ (x0 * sg a) % ((b.natAbs : Int) / gg a b) ∧ (x0 * sg a) % ((b.natAbs : Int) / gg a b) < (b.natAbs : Int) / gg a b ∧
      b ∣ (x0 * sg a) % ((b.natAbs : Int) / gg a b) * a - gg a b := by
  obtain ⟨g, m1, m2⟩ := quot_bd (a := a) hb
  have d : gg a b ∣ (b.natAbs : Int) := Int.dvd_natAbs.mpr (gg_right a b)
  have em : (b.natAbs : Int) / gg a b * gg a b = (b.natAbs : Int) := Int.ediv_mul_cancel d
  obtain ⟨a', ea⟩ := gg_left a b
  generalize hG : gg a b = G at *
  generalize hM : (b.natAbs : Int) / G = m at *
  refine ⟨Int.emod_nonneg _ (by omega), Int.emod_lt_of_pos _ (by omega), ?_⟩
  apply Int.natAbs_dvd.mp
  have e1 : x0 * sg a * a = x0 * (a.natAbs : Int) := by rw [Int.mul_assoc, sg_mul]
  have e2 : (x0 * sg a) % m * a - G = (x0 * (a.natAbs : Int) - G) - m * (x0 * sg a / m) * a := by
    rw [Int.emod_def, Int.sub_mul, e1]; omega
  rw [e2]
  refine Int.dvd_sub h ⟨x0 * sg a / m * a', ?_⟩
  rw [← em]
  generalize x0 * sg a / m = k
  conv => lhs; rw [ea]
  ac_rfl

/-! ### the program -/

theorem prod_bd {x a m : Int} (h0 : 0 ≤ x) (h1 : x < m) (h2 : m ≤ 2147483648) (ha1 : -2147483648 ≤ a) (ha2 : a ≤ 2147483648) :
    -4611686018427387904 ≤ x * a ∧ x * a ≤ 4611686018427387904 := by
  have u := Int.mul_le_mul_of_nonneg_left ha2 h0
  have l := Int.mul_le_mul_of_nonneg_left ha1 h0
  omega

theorem quo_bd {z b : Int} (h1 : -9000000000000000000 ≤ z) (h2 : z ≤ 9000000000000000000) : -9000000000000000000 ≤ z.tdiv b ∧ z.tdiv b ≤ 9000000000000000000 := by
  have h : (z.tdiv b).natAbs ≤ z.natAbs := by
    rw [Int.natAbs_tdiv]; exact Nat.div_le_self _ _
  omega

end Go.Proofs.Ytjpmkcijkcnfiaa.Calls6
