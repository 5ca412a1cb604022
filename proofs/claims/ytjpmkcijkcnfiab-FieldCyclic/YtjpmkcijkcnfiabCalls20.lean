/-
  What the statements' own gates answer at every input.
-/
import Derived.Test.YtjpmkcijkcnfiabCalls19
namespace Go.Proofs.Ytjpmkcijkcnfiab.Calls20
set_option linter.unusedVariables false
open Go.ChangeShapes Go.WideShapes Go.ChangeAt Go.RowKit Go.Proofs.Ytjpmkcijkcnfiab.Num Go.Proofs.Ytjpmkcijkcnfiab.Num13 Go.Proofs.Ytjpmkcijkcnfiab.Calls9 Go.Proofs.Ytjpmkcijkcnfiab.Calls19

abbrev Nr (a : Int) : Prop := -2147483648 ≤ a ∧ a ≤ 2147483648
abbrev Md (m : Int) : Prop := 1 ≤ m ∧ m ≤ 1048576

theorem far_of {a : Int} (h : ¬ Nr a) : a < -2147483648 ∨ 2147483648 < a := by unfold Nr at h; omega

end Go.Proofs.Ytjpmkcijkcnfiab.Calls20
