/-
  What the statements' own gates answer at every input.
-/
import Derived.Test.YtpflkihagebmlabCalls19
namespace Go.Proofs.Ytpflkihagebmlab.Calls20
set_option linter.unusedVariables false
open Go.ChangeShapes Go.WideShapes Go.ChangeAt Go.RowKit Go.Proofs.Ytpflkihagebmlab.Num Go.Proofs.Ytpflkihagebmlab.Num13 Go.Proofs.Ytpflkihagebmlab.Calls9 Go.Proofs.Ytpflkihagebmlab.Calls19

abbrev Nr (a : Int) : Prop := -2147483648 ≤ a ∧ a ≤ 2147483648
abbrev Md (m : Int) : Prop := 1 ≤ m ∧ m ≤ 1048576

theorem far_of {a : Int} (h : ¬ Nr a) : a < -2147483648 ∨ 2147483648 < a := by unfold Nr at h; omega

end Go.Proofs.Ytpflkihagebmlab.Calls20
