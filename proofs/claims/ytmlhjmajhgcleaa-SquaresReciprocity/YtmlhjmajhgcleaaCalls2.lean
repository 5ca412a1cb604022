/-
  Euclid's extended loop: for any two numbers from 0 to 2^31 it answers their greatest common divisor g and some x, not beyond 2^31, for which the second number divides x times the first less g.
-/
import Derived.Test.YtmlhjmajhgcleaaCalls1
namespace Go.Proofs.Ytmlhjmajhgcleaa.Calls2
set_option linter.unusedVariables false
open Go.ChangeShapes Go.WideShapes Go.ChangeAt Go.RowKit Go.Proofs.Ytmlhjmajhgcleaa.Math Go.Proofs.Ytmlhjmajhgcleaa.Calls1

end Go.Proofs.Ytmlhjmajhgcleaa.Calls2
