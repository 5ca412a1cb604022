/-
  What the statements' own helpers answer: the range tests, the least common multiple of the document's answer, the first code of two.
-/
import Derived.Test.YtokbdgikdlfneaaCalls4
namespace Go.Proofs.Ytokbdgikdlfneaa.Calls5
set_option linter.unusedVariables false
open Go.ChangeShapes Go.WideShapes Go.ChangeAt Go.RowKit Go.Proofs.Ytokbdgikdlfneaa.Math Go.Proofs.Ytokbdgikdlfneaa.Calls1 Go.Proofs.Ytokbdgikdlfneaa.Calls2 Go.Proofs.Ytokbdgikdlfneaa.Calls3 Go.Proofs.Ytokbdgikdlfneaa.Calls4

end Go.Proofs.Ytokbdgikdlfneaa.Calls5
