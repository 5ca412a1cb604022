/-
  The document's waves and sums of products, one by one.
-/
import Derived.Test.YtpnjpkmlfbcnjabCalls110
import Derived.Test.YtpnjpkmlfbcnjabNum58
namespace Go.Proofs.Ytpnjpkmlfbcnjab.Calls114
set_option linter.unusedVariables false
open Go.ChangeShapes Go.WideShapes Go.ChangeAt Go.RowKit Go.Deep Go.Proofs.Ytpnjpkmlfbcnjab.Base Go.Proofs.Ytpnjpkmlfbcnjab.Base2 Go.Proofs.Ytpnjpkmlfbcnjab.Num34 Go.Proofs.Ytpnjpkmlfbcnjab.Base4 Go.Proofs.Ytpnjpkmlfbcnjab.Base6 Go.Proofs.Ytpnjpkmlfbcnjab.Num41 Go.Proofs.Ytpnjpkmlfbcnjab.Num42 Go.Proofs.Ytpnjpkmlfbcnjab.Num57 Go.Proofs.Ytpnjpkmlfbcnjab.Num58 Go.Proofs.Ytpnjpkmlfbcnjab.Calls110

theorem and_32 : ∀ u : Nat, u < 32 → ∀ x : Nat, x < 32 → bits .and .i64 (u : Int) (x : Int) = ((u &&& x : Nat) : Int) ∧ u &&& x < 32 := by decide +kernel

end Go.Proofs.Ytpnjpkmlfbcnjab.Calls114
