/-
  MERKLE: the proof that is told leads to the root.
-/
import Derived.Test.YthjmmibfgphlhaaCalls140
import Derived.Test.YthjmmibfgphlhaaCalls144
namespace Go.Proofs.Ythjmmibfgphlhaa.Calls145
set_option linter.unusedVariables false
open Go.ChangeShapes Go.WideShapes Go.ChangeAt Go.RowKit Go.Deep Go.Proofs.Ythjmmibfgphlhaa.Base Go.Proofs.Ythjmmibfgphlhaa.Base2 Go.Proofs.Ythjmmibfgphlhaa.Base7 Go.Proofs.Ythjmmibfgphlhaa.Base8 Go.Proofs.Ythjmmibfgphlhaa.Base9 Go.Proofs.Ythjmmibfgphlhaa.Num55 Go.Proofs.Ythjmmibfgphlhaa.Num60 Go.Proofs.Ythjmmibfgphlhaa.Calls128 Go.Proofs.Ythjmmibfgphlhaa.Calls133 Go.Proofs.Ythjmmibfgphlhaa.Calls134 Go.Proofs.Ythjmmibfgphlhaa.Calls135 Go.Proofs.Ythjmmibfgphlhaa.Calls136 Go.Proofs.Ythjmmibfgphlhaa.Calls137 Go.Proofs.Ythjmmibfgphlhaa.Calls138 Go.Proofs.Ythjmmibfgphlhaa.Calls141 Go.Proofs.Ythjmmibfgphlhaa.Calls144

theorem pf_good (L : List (List Nat)) (i h : Nat) : GoodP L.length i (pf L.length i (lf L) h) h := by
  refine ⟨fun ⟨x, hx, hlt⟩ => ?_, pf_length _ _ _ _⟩
  have := pf_lt (n := L.length) (i := i) (L := lf L) (fun _ => sum_lt _) h x hx
  omega

theorem pf_root {L : List (List Nat)} {i h : Nat} (hi : i < L.length) (ht : Top L.length h) : kn L.length i (pf L.length i (lf L) h) (yr L i) h = rt L h :=
  (pf_is L.length i (lf L) h).root hi ht.1

theorem pf_few {L : List (List Nat)} {i h : Nat} (h6 : h ≤ 6) : (pf L.length i (lf L) h).length ≤ 64 := by
  have := us_le (n := L.length) (i := i) h
  rw [pf_length]
  omega

end Go.Proofs.Ythjmmibfgphlhaa.Calls145
