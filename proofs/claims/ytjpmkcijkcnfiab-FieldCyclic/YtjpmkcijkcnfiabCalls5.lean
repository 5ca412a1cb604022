/-
  What the statements' own helpers answer: the range tests, the least common multiple of the document's answer, the first code of two.
-/
import Derived.Test.YtjpmkcijkcnfiabCalls4
namespace Go.Proofs.Ytjpmkcijkcnfiab.Calls5
set_option linter.unusedVariables false
open Go.ChangeShapes Go.WideShapes Go.ChangeAt Go.RowKit Go.Proofs.Ytjpmkcijkcnfiab.Math Go.Proofs.Ytjpmkcijkcnfiab.Calls1 Go.Proofs.Ytjpmkcijkcnfiab.Calls2 Go.Proofs.Ytjpmkcijkcnfiab.Calls3 Go.Proofs.Ytjpmkcijkcnfiab.Calls4

end Go.Proofs.Ytjpmkcijkcnfiab.Calls5
