/-
  What the statements' own helpers answer: the range tests, the least common multiple of the document's answer, the first code of two.
-/
import Derived.Test.YtpflkihagebmlaaCalls4
namespace Go.Proofs.Ytpflkihagebmlaa.Calls5
set_option linter.unusedVariables false
open Go.ChangeShapes Go.WideShapes Go.ChangeAt Go.RowKit Go.Proofs.Ytpflkihagebmlaa.Math Go.Proofs.Ytpflkihagebmlaa.Calls1 Go.Proofs.Ytpflkihagebmlaa.Calls2 Go.Proofs.Ytpflkihagebmlaa.Calls3 Go.Proofs.Ytpflkihagebmlaa.Calls4

end Go.Proofs.Ytpflkihagebmlaa.Calls5
