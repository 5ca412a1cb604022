/-
  What the statements' own gates answer at every input.
-/
import Derived.Test.YtpflkihagebmlaaCalls19
namespace Go.Proofs.Ytpflkihagebmlaa.Calls20
set_option linter.unusedVariables false
open Go.ChangeShapes Go.WideShapes Go.ChangeAt Go.RowKit Go.Proofs.Ytpflkihagebmlaa.Num Go.Proofs.Ytpflkihagebmlaa.Num13 Go.Proofs.Ytpflkihagebmlaa.Calls9 Go.Proofs.Ytpflkihagebmlaa.Calls19

abbrev Nr (a : Int) : Prop := -2147483648 ≤ a ∧ a ≤ 2147483648
abbrev Md (m : Int) : Prop := 1 ≤ m ∧ m ≤ 1048576

theorem far_of {a : Int} (h : ¬ Nr a) : a < -2147483648 ∨ 2147483648 < a := by unfold Nr at h; omega

end Go.Proofs.Ytpflkihagebmlaa.Calls20
