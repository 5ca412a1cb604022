/-
  Euclid's extended loop: for any two numbers from 0 to 2^31 it answers their greatest common divisor g and some x, not beyond 2^31, for which the second number divides x times the first less g.
-/
import Derived.Test.YtjpmkcijkcnfiaaCalls1
namespace Go.Proofs.Ytjpmkcijkcnfiaa.Calls2
set_option linter.unusedVariables false
open Go.ChangeShapes Go.WideShapes Go.ChangeAt Go.RowKit Go.Proofs.Ytjpmkcijkcnfiaa.Math Go.Proofs.Ytjpmkcijkcnfiaa.Calls1

end Go.Proofs.Ytjpmkcijkcnfiaa.Calls2
