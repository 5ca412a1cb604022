/-
  The document's sums of products, and the degree.
-/
import Derived.Test.YtpnjpkmlfbcnjabCalls114
namespace Go.Proofs.Ytpnjpkmlfbcnjab.Calls115
set_option linter.unusedVariables false
open Go.ChangeShapes Go.WideShapes Go.ChangeAt Go.RowKit Go.Deep Go.Proofs.Ytpnjpkmlfbcnjab.Base Go.Proofs.Ytpnjpkmlfbcnjab.Base2 Go.Proofs.Ytpnjpkmlfbcnjab.Num34 Go.Proofs.Ytpnjpkmlfbcnjab.Base4 Go.Proofs.Ytpnjpkmlfbcnjab.Base6 Go.Proofs.Ytpnjpkmlfbcnjab.Num41 Go.Proofs.Ytpnjpkmlfbcnjab.Num42 Go.Proofs.Ytpnjpkmlfbcnjab.Num57 Go.Proofs.Ytpnjpkmlfbcnjab.Num58 Go.Proofs.Ytpnjpkmlfbcnjab.Calls110 Go.Proofs.Ytpnjpkmlfbcnjab.Calls114

theorem bs_u32 {h : Nat → Nat} (hh : ∀ x, h x < 2) {k : Nat} (hk : k ≤ 32) : bs h k < 4294967296 := by
  have h1 := bs_lt hh k
  have h2 : 2 ^ k ≤ 2 ^ 32 := Nat.pow_le_pow_right (by omega) hk
  have h3 : 2 ^ 32 = 4294967296 := by decide
  omega

end Go.Proofs.Ytpnjpkmlfbcnjab.Calls115
