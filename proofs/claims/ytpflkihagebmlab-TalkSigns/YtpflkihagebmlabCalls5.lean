/-
  What the statements' own helpers answer: the range tests, the least common multiple of the document's answer, the first code of two.
-/
import Derived.Test.YtpflkihagebmlabCalls4
namespace Go.Proofs.Ytpflkihagebmlab.Calls5
set_option linter.unusedVariables false
open Go.ChangeShapes Go.WideShapes Go.ChangeAt Go.RowKit Go.Proofs.Ytpflkihagebmlab.Math Go.Proofs.Ytpflkihagebmlab.Calls1 Go.Proofs.Ytpflkihagebmlab.Calls2 Go.Proofs.Ytpflkihagebmlab.Calls3 Go.Proofs.Ytpflkihagebmlab.Calls4

end Go.Proofs.Ytpflkihagebmlab.Calls5
