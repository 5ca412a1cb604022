/-
  What the powers of package power answer: raise, and Pow at every input; the document's power by halves.
-/
import Derived.Test.YtjfgnpgbphdalaaCalls1
import Derived.Test.YtjfgnpgbphdalaaCalls9
import Derived.Test.YtjfgnpgbphdalaaNum13
namespace Go.Proofs.Ytjfgnpgbphdalaa.Calls19
set_option linter.unusedVariables false
open Go.ChangeShapes Go.WideShapes Go.ChangeAt Go.RowKit Go.Proofs.Ytjfgnpgbphdalaa.Num Go.Proofs.Ytjfgnpgbphdalaa.Num3 Go.Proofs.Ytjfgnpgbphdalaa.Num6 Go.Proofs.Ytjfgnpgbphdalaa.Num8 Go.Proofs.Ytjfgnpgbphdalaa.Num13 Go.Proofs.Ytjfgnpgbphdalaa.Calls9
open Go.Proofs.Ytjfgnpgbphdalaa.Calls1 (refMod_any tmod_bd)

theorem and_one {k : Nat} (h : k ≤ 2147483648) : bits .and .i64 (k : Int) 1 = ((k % 2 : Nat) : Int) := by
  have h1 : (BitVec.ofInt 64 (k : Int)).toNat = k := by
    rw [BitVec.ofInt_natCast, BitVec.toNat_ofNat]; exact Nat.mod_eq_of_lt (by omega)
  have h2 : (BitVec.ofInt 64 1).toNat = 1 := by decide
  show IntKind.i64.wrap ((BitVec.ofInt 64 (k : Int) &&& BitVec.ofInt 64 1).toNat : Int) = _
  rw [BitVec.toNat_and, h1, h2, Nat.and_one_is_mod]
  rcases Nat.mod_two_eq_zero_or_one k with e | e <;> rw [e] <;> decide

theorem mul_bd {x y m : Nat} (hx : x < m) (hy : y < m) (hm : m ≤ 1048576) : 0 ≤ (x : Int) * (y : Int) ∧ (x : Int) * (y : Int) ≤ 1099511627776 := by
  have h : x * y ≤ 1048576 * 1048576 := Nat.mul_le_mul (by omega) (by omega)
  have h2 : ((x * y : Nat) : Int) = (x : Int) * (y : Int) := by simp
  omega

theorem two_mod (a : Int) {m : Nat} (hm : 1 ≤ m) : (a.tmod (m : Int) + (m : Int)) % (m : Int) = ((rs a m : Nat) : Int) := by
  rw [rs_cast a hm, Int.add_emod_right]
  by_cases h : a.tmod (m : Int) < 0
  · have := Go.Proofs.Ytjfgnpgbphdalaa.Calls1.tmod_neg_lt (n := a) (m := m) (by omega) h
    rw [show a.tmod (m : Int) = a % (m : Int) - (m : Int) by omega, Int.sub_emod_right, Int.emod_emod]
  · rw [Go.Proofs.Ytjfgnpgbphdalaa.Calls1.tmod_not_lt (n := a) (m := m) (by omega) h, Int.emod_emod]

theorem refMod_at (n : Int) (m : Nat) (w : World) (h1 : 1 ≤ m) (h2 : m ≤ 1048576) :
    Calls Try.prog 23 #[.int .i64 n, .int .i64 (m : Int)] w fun e w' => e = .returned (.int .i64 (rs n m : Int)) ∧ w' = w := by
  rw [rs_cast n h1]
  exact refMod_any n m w (by omega) (by omega)

end Go.Proofs.Ytjfgnpgbphdalaa.Calls19
