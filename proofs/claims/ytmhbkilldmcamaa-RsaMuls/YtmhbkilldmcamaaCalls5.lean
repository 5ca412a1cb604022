/-
  What the statements' own helpers answer: the range tests, the least common multiple of the document's answer, the first code of two.
-/
import Derived.Test.YtmhbkilldmcamaaCalls4
namespace Go.Proofs.Ytmhbkilldmcamaa.Calls5
set_option linter.unusedVariables false
open Go.ChangeShapes Go.WideShapes Go.ChangeAt Go.RowKit Go.Proofs.Ytmhbkilldmcamaa.Math Go.Proofs.Ytmhbkilldmcamaa.Calls1 Go.Proofs.Ytmhbkilldmcamaa.Calls2 Go.Proofs.Ytmhbkilldmcamaa.Calls3 Go.Proofs.Ytmhbkilldmcamaa.Calls4

end Go.Proofs.Ytmhbkilldmcamaa.Calls5
