/-
  What the statements' own helpers answer: the range tests, the least common multiple of the document's answer, the first code of two.
-/
import Derived.Test.YtlpbohkjiddelaaCalls4
namespace Go.Proofs.Ytlpbohkjiddelaa.Calls5
set_option linter.unusedVariables false
open Go.ChangeShapes Go.WideShapes Go.ChangeAt Go.RowKit Go.Proofs.Ytlpbohkjiddelaa.Math Go.Proofs.Ytlpbohkjiddelaa.Calls1 Go.Proofs.Ytlpbohkjiddelaa.Calls2 Go.Proofs.Ytlpbohkjiddelaa.Calls3 Go.Proofs.Ytlpbohkjiddelaa.Calls4

end Go.Proofs.Ytlpbohkjiddelaa.Calls5
