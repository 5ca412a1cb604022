/-
  The document's Immune: by all values of all sets.
-/
import Derived.Test.YtpnjpkmlfbcnjabCalls114
namespace Go.Proofs.Ytpnjpkmlfbcnjab.Calls116
set_option linter.unusedVariables false
open Go.ChangeShapes Go.WideShapes Go.ChangeAt Go.RowKit Go.Deep Go.Proofs.Ytpnjpkmlfbcnjab.Base Go.Proofs.Ytpnjpkmlfbcnjab.Base2 Go.Proofs.Ytpnjpkmlfbcnjab.Num34 Go.Proofs.Ytpnjpkmlfbcnjab.Base4 Go.Proofs.Ytpnjpkmlfbcnjab.Base6 Go.Proofs.Ytpnjpkmlfbcnjab.Num41 Go.Proofs.Ytpnjpkmlfbcnjab.Num42 Go.Proofs.Ytpnjpkmlfbcnjab.Num57 Go.Proofs.Ytpnjpkmlfbcnjab.Num58 Go.Proofs.Ytpnjpkmlfbcnjab.Calls110 Go.Proofs.Ytpnjpkmlfbcnjab.Calls114

theorem up_bd {s : Int} {k : Nat} (h0 : 0 ≤ s) (h1 : s ≤ 32) (hk : k ≤ 5) : 0 ≤ s * 2 ^ k ∧ s * 2 ^ k ≤ 1024 := by
  rcases (show k = 0 ∨ k = 1 ∨ k = 2 ∨ k = 3 ∨ k = 4 ∨ k = 5 by omega) with rfl | rfl | rfl | rfl | rfl | rfl <;> omega

end Go.Proofs.Ytpnjpkmlfbcnjab.Calls116
