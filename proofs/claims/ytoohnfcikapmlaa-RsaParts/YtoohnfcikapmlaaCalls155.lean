/-
  Package rsa: a key in a box of the call's own.
-/
import Derived.Test.YtoohnfcikapmlaaCalls154
import Derived.Deep.RegionHeld3
namespace Go.Proofs.Ytoohnfcikapmlaa.Calls155
set_option linter.unusedVariables false
open Go.ChangeShapes Go.WideShapes Go.ChangeAt Go.RowKit Go.Deep Go.Proofs.Ytoohnfcikapmlaa.Base Go.Proofs.Ytoohnfcikapmlaa.Num Go.Proofs.Ytoohnfcikapmlaa.Num56 Go.Proofs.Ytoohnfcikapmlaa.Calls150 Go.Proofs.Ytoohnfcikapmlaa.Calls151 Go.Proofs.Ytoohnfcikapmlaa.Calls152

theorem wrap_in (x : Int) (h1 : -9223372036854775808 ≤ x) (h2 : x ≤ 9223372036854775807) : IntKind.i64.wrap x = x := by
  rw [IntKind.wrap_i64]; omega

theorem mul_bds {x y N : Nat} (hN : N ≤ 1048576) (hx : x < N) (hy : y < N) : 0 ≤ (x : Int) * (y : Int) ∧ (x : Int) * (y : Int) ≤ 1099511627776 := by
  have : x * y ≤ 1048576 * 1048576 := Nat.mul_le_mul (by omega) (by omega)
  have e : (x : Int) * (y : Int) = ((x * y : Nat) : Int) := by simp
  omega

theorem mul_tmod (x y N : Nat) : ((x : Int) * (y : Int)).tmod (N : Int) = ((x * y % N : Nat) : Int) := by
  rw [← Int.natCast_mul, ← Int.ofNat_tmod]

theorem one_pow_mod (E N : Nat) : (1 % N) ^ E % N = 1 % N := by rw [← Nat.pow_mod, Nat.one_pow]

end Go.Proofs.Ytoohnfcikapmlaa.Calls155
