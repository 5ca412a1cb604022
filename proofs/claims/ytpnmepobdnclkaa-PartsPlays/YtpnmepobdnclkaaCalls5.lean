/-
  What the statements' own helpers answer: the range tests, the least common multiple of the document's answer, the first code of two.
-/
import Derived.Test.YtpnmepobdnclkaaCalls4
namespace Go.Proofs.Ytpnmepobdnclkaa.Calls5
set_option linter.unusedVariables false
open Go.ChangeShapes Go.WideShapes Go.ChangeAt Go.RowKit Go.Proofs.Ytpnmepobdnclkaa.Math Go.Proofs.Ytpnmepobdnclkaa.Calls1 Go.Proofs.Ytpnmepobdnclkaa.Calls2 Go.Proofs.Ytpnmepobdnclkaa.Calls3 Go.Proofs.Ytpnmepobdnclkaa.Calls4

end Go.Proofs.Ytpnmepobdnclkaa.Calls5
