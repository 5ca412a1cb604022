/-
  What the statements' own gates answer at every input.
-/
import Derived.Test.YtpnmepobdnclkaaCalls19
namespace Go.Proofs.Ytpnmepobdnclkaa.Calls20
set_option linter.unusedVariables false
open Go.ChangeShapes Go.WideShapes Go.ChangeAt Go.RowKit Go.Proofs.Ytpnmepobdnclkaa.Num Go.Proofs.Ytpnmepobdnclkaa.Num13 Go.Proofs.Ytpnmepobdnclkaa.Calls9 Go.Proofs.Ytpnmepobdnclkaa.Calls19

abbrev Nr (a : Int) : Prop := -2147483648 ≤ a ∧ a ≤ 2147483648
abbrev Md (m : Int) : Prop := 1 ≤ m ∧ m ≤ 1048576

theorem far_of {a : Int} (h : ¬ Nr a) : a < -2147483648 ∨ 2147483648 < a := by unfold Nr at h; omega

end Go.Proofs.Ytpnmepobdnclkaa.Calls20
