/-
  What the statements' own helpers answer: the range tests, the least common multiple of the document's answer, the first code of two.
-/
import Derived.Test.YtoohnfcikapmlaaCalls4
namespace Go.Proofs.Ytoohnfcikapmlaa.Calls5
set_option linter.unusedVariables false
open Go.ChangeShapes Go.WideShapes Go.ChangeAt Go.RowKit Go.Proofs.Ytoohnfcikapmlaa.Math Go.Proofs.Ytoohnfcikapmlaa.Calls1 Go.Proofs.Ytoohnfcikapmlaa.Calls2 Go.Proofs.Ytoohnfcikapmlaa.Calls3 Go.Proofs.Ytoohnfcikapmlaa.Calls4

end Go.Proofs.Ytoohnfcikapmlaa.Calls5
