/-
  Package poly: quotient and rest.
-/
import Derived.Test.YtjpmkcijkcnfiaaCalls59
import Derived.Deep.RegionWith
namespace Go.Proofs.Ytjpmkcijkcnfiaa.Calls60
set_option linter.unusedVariables false
open Go.ChangeShapes Go.WideShapes Go.ChangeAt Go.RowKit Go.Deep Go.Proofs.Ytjpmkcijkcnfiaa.Base Go.Proofs.Ytjpmkcijkcnfiaa.Base2 Go.Proofs.Ytjpmkcijkcnfiaa.Num Go.Proofs.Ytjpmkcijkcnfiaa.Num13 Go.Proofs.Ytjpmkcijkcnfiaa.Num16 Go.Proofs.Ytjpmkcijkcnfiaa.Num17 Go.Proofs.Ytjpmkcijkcnfiaa.Num34 Go.Proofs.Ytjpmkcijkcnfiaa.Base4 Go.Proofs.Ytjpmkcijkcnfiaa.Calls56 Go.Proofs.Ytjpmkcijkcnfiaa.Calls57 Go.Proofs.Ytjpmkcijkcnfiaa.Calls58 Go.Proofs.Ytjpmkcijkcnfiaa.Calls59

/-- The call has returned quotient and rest. -/
def RetD (q r : List Int) (e : Ending) (w' : World) : Prop := ∃ bo cb co' cc, e = .returned (.tuple #[.slice bo q.length cb, .slice co' r.length cc]) ∧ q.length ≤ cb ∧ IRow w' bo q ∧ r.length ≤ cc ∧ IRow w' co' r

def DivRet (p : Nat) (a b : List Int) (e : Ending) (w' : World) : Prop := ∃ q r, DivIs p a b q r ∧ RetD q r e w'

theorem wrap_in (x : Int) (h1 : -9223372036854775808 ≤ x) (h2 : x ≤ 9223372036854775807) : IntKind.i64.wrap x = x := by
  rw [IntKind.wrap_i64]; omega

theorem measK1 {j m : Nat} (h : j < m + 1) : ((m : Int) + 1 - ((j : Int) + 1)).toNat < ((m : Int) + 1 - (j : Int)).toNat := by omega

theorem measD (k : Nat) : ((k : Int) - 1 + 1).toNat < ((k : Int) + 1).toNat := by omega

theorem sub_bd {x c y : Int} {p : Nat} (hx : 0 ≤ x ∧ x < (p : Int)) (hc : 0 ≤ c ∧ c < (p : Int)) (hy : 0 ≤ y ∧ y < (p : Int)) (hp : p ≤ 251) : -63001 ≤ x - c * y ∧ x - c * y ≤ 251 := by
  have := mul_bd hc hy hp
  omega

end Go.Proofs.Ytjpmkcijkcnfiaa.Calls60
