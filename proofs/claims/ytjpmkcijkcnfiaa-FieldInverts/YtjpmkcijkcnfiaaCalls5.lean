/-
  What the statements' own helpers answer: the range tests, the least common multiple of the document's answer, the first code of two.
-/
import Derived.Test.YtjpmkcijkcnfiaaCalls4
namespace Go.Proofs.Ytjpmkcijkcnfiaa.Calls5
set_option linter.unusedVariables false
open Go.ChangeShapes Go.WideShapes Go.ChangeAt Go.RowKit Go.Proofs.Ytjpmkcijkcnfiaa.Math Go.Proofs.Ytjpmkcijkcnfiaa.Calls1 Go.Proofs.Ytjpmkcijkcnfiaa.Calls2 Go.Proofs.Ytjpmkcijkcnfiaa.Calls3 Go.Proofs.Ytjpmkcijkcnfiaa.Calls4

end Go.Proofs.Ytjpmkcijkcnfiaa.Calls5
