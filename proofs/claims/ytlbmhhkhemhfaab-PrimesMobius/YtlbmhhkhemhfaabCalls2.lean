/-
  Euclid's extended loop: for any two numbers from 0 to 2^31 it answers their greatest common divisor g and some x, not beyond 2^31, for which the second number divides x times the first less g.
-/
import Derived.Test.YtlbmhhkhemhfaabCalls1
namespace Go.Proofs.Ytlbmhhkhemhfaab.Calls2
set_option linter.unusedVariables false
open Go.ChangeShapes Go.WideShapes Go.ChangeAt Go.RowKit Go.Proofs.Ytlbmhhkhemhfaab.Math Go.Proofs.Ytlbmhhkhemhfaab.Calls1

end Go.Proofs.Ytlbmhhkhemhfaab.Calls2
