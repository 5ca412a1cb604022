/-
  Euclid's extended loop: for any two numbers from 0 to 2^31 it answers their greatest common divisor g and some x, not beyond 2^31, for which the second number divides x times the first less g.
-/
import Derived.Test.YtjpmkcijkcnfiabCalls1
namespace Go.Proofs.Ytjpmkcijkcnfiab.Calls2
set_option linter.unusedVariables false
open Go.ChangeShapes Go.WideShapes Go.ChangeAt Go.RowKit Go.Proofs.Ytjpmkcijkcnfiab.Math Go.Proofs.Ytjpmkcijkcnfiab.Calls1

end Go.Proofs.Ytjpmkcijkcnfiab.Calls2
