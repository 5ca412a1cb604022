/-
  No cell of these rows narrows 'for every input' (looked for: loops, veiled, ifaces, maps, wideKeys, modest, calm, conditions, laid).
  DERIVED. THE GIVEN ROWS OF THIS SEAT. 6 by the template 'for every input the law returns true; each argument reads behind the call as it read before'; 0 by the template 'total and deterministic' (their statements: YtmlhjmajhgcleaaTotals.lean).
  GIVEN WITH THE SEED: the statements are not yours to turn. If you find one false, say at which input.
  Laid BY PROGRAM, IN A SANDBOX (cutbox-rows.mjs): the forced cells as the released guide's own fill.sh prints them over the translation eb0df3fc1770a549… (all of the seat's roots in one cut). By AI agents, Wed Nov 11 2026. No macro, syntax, notation, axiom, sorry.
-/
import Derived.Test.YtmlhjmajhgcleaaChecked
import GoSem.Claim
import GoSem.ClaimJoined
import GoSem.ClaimMapViews
import Derived.JoinedTies
import Derived.KernelRfl
namespace Go.Proofs.Ytmlhjmajhgcleaa
/- THE CELL 'sum', in the pinned program and in every row, IS THE sha256 OF THE DUMP (.gsa) THAT YtmlhjmajhgcleaaProg.lean LOADS. Nothing in Lean hashes anything: it is a label: what it is worth is what the hold of that sum in a sandbox is worth. -/
noncomputable def Try.pinned : Pinned := { name := "ytmlhjmajhgcleaa", sum := "eb0df3fc1770a54920e6fd64bf4d3de5997d539432f20f892f0712def8ae5ed4", checked := Try.checked }
namespace Rows
def none {H : Type} : Left H := { results := [], args := [] }

/-- 'lockwrightlaw.SquaresSymbols': WHATEVER THE INPUT: true; the input reads as it did. -/
def squaresSymbolsSpec : ChangeSpec := { name := "squaresSymbols", fn := fun _ => fun
  | [d1, d2] => { results := [.lit (.bool true)], args := [d1, d2] }
  | _ => none }
def squaresSymbolsRow : OpenClaim := { program := "ytmlhjmajhgcleaa", sum := "eb0df3fc1770a54920e6fd64bf4d3de5997d539432f20f892f0712def8ae5ed4", func := "lockwright/lockwrightlaw.SquaresSymbols", spec := "squaresSymbols", apart := false }
def SquaresSymbolsSaid : Prop := squaresSymbolsRow.holds Try.pinned (OpenSpec.ofChange squaresSymbolsSpec)

/-- ITS FALSE NEIGHBOUR: 'it returns false'. Refute it at one input. -/
def squaresSymbolsWrong : ChangeSpec := { name := "squaresSymbols", fn := fun _ => fun
  | [d1, d2] => { results := [.lit (.bool false)], args := [d1, d2] }
  | _ => none }
def SquaresSymbolsWrongFalsely : Prop := squaresSymbolsRow.holds Try.pinned (OpenSpec.ofChange squaresSymbolsWrong)

/-- 'lockwrightlaw.SquaresRoots': WHATEVER THE INPUT: true; the input reads as it did. -/
def squaresRootsSpec : ChangeSpec := { name := "squaresRoots", fn := fun _ => fun
  | [d1, d2] => { results := [.lit (.bool true)], args := [d1, d2] }
  | _ => none }
def squaresRootsRow : OpenClaim := { program := "ytmlhjmajhgcleaa", sum := "eb0df3fc1770a54920e6fd64bf4d3de5997d539432f20f892f0712def8ae5ed4", func := "lockwright/lockwrightlaw.SquaresRoots", spec := "squaresRoots", unfollowed := true, recurses := true, apart := false }
def SquaresRootsSaid : Prop := squaresRootsRow.holds Try.pinned (OpenSpec.ofChange squaresRootsSpec)

/-- ITS FALSE NEIGHBOUR: 'it returns false'. Refute it at one input. -/
def squaresRootsWrong : ChangeSpec := { name := "squaresRoots", fn := fun _ => fun
  | [d1, d2] => { results := [.lit (.bool false)], args := [d1, d2] }
  | _ => none }
def SquaresRootsWrongFalsely : Prop := squaresRootsRow.holds Try.pinned (OpenSpec.ofChange squaresRootsWrong)

/-- 'lockwrightkeep.SquaresEuler': WHATEVER THE INPUT: true; the input reads as it did. -/
def squaresEulerSpec : ChangeSpec := { name := "squaresEuler", fn := fun _ => fun
  | [d1, d2] => { results := [.lit (.bool true)], args := [d1, d2] }
  | _ => none }
def squaresEulerRow : OpenClaim := { program := "ytmlhjmajhgcleaa", sum := "eb0df3fc1770a54920e6fd64bf4d3de5997d539432f20f892f0712def8ae5ed4", func := "lockwright/lockwrightkeep.SquaresEuler", spec := "squaresEuler", apart := false }
def SquaresEulerSaid : Prop := squaresEulerRow.holds Try.pinned (OpenSpec.ofChange squaresEulerSpec)

/-- ITS FALSE NEIGHBOUR: 'it returns false'. Refute it at one input. -/
def squaresEulerWrong : ChangeSpec := { name := "squaresEuler", fn := fun _ => fun
  | [d1, d2] => { results := [.lit (.bool false)], args := [d1, d2] }
  | _ => none }
def SquaresEulerWrongFalsely : Prop := squaresEulerRow.holds Try.pinned (OpenSpec.ofChange squaresEulerWrong)

/-- 'lockwrightkeep.SquaresReciprocity': WHATEVER THE INPUT: true; the input reads as it did. -/
def squaresReciprocitySpec : ChangeSpec := { name := "squaresReciprocity", fn := fun _ => fun
  | [d1, d2] => { results := [.lit (.bool true)], args := [d1, d2] }
  | _ => none }
def squaresReciprocityRow : OpenClaim := { program := "ytmlhjmajhgcleaa", sum := "eb0df3fc1770a54920e6fd64bf4d3de5997d539432f20f892f0712def8ae5ed4", func := "lockwright/lockwrightkeep.SquaresReciprocity", spec := "squaresReciprocity", apart := false }
def SquaresReciprocitySaid : Prop := squaresReciprocityRow.holds Try.pinned (OpenSpec.ofChange squaresReciprocitySpec)

/-- ITS FALSE NEIGHBOUR: 'it returns false'. Refute it at one input. -/
def squaresReciprocityWrong : ChangeSpec := { name := "squaresReciprocity", fn := fun _ => fun
  | [d1, d2] => { results := [.lit (.bool false)], args := [d1, d2] }
  | _ => none }
def SquaresReciprocityWrongFalsely : Prop := squaresReciprocityRow.holds Try.pinned (OpenSpec.ofChange squaresReciprocityWrong)

/-- 'lockwrightkeep.SquaresMul': WHATEVER THE INPUT: true; the input reads as it did. -/
def squaresMulSpec : ChangeSpec := { name := "squaresMul", fn := fun _ => fun
  | [d1, d2, d3, d4] => { results := [.lit (.bool true)], args := [d1, d2, d3, d4] }
  | _ => none }
def squaresMulRow : OpenClaim := { program := "ytmlhjmajhgcleaa", sum := "eb0df3fc1770a54920e6fd64bf4d3de5997d539432f20f892f0712def8ae5ed4", func := "lockwright/lockwrightkeep.SquaresMul", spec := "squaresMul", apart := false }
def SquaresMulSaid : Prop := squaresMulRow.holds Try.pinned (OpenSpec.ofChange squaresMulSpec)

/-- ITS FALSE NEIGHBOUR: 'it returns false'. Refute it at one input. -/
def squaresMulWrong : ChangeSpec := { name := "squaresMul", fn := fun _ => fun
  | [d1, d2, d3, d4] => { results := [.lit (.bool false)], args := [d1, d2, d3, d4] }
  | _ => none }
def SquaresMulWrongFalsely : Prop := squaresMulRow.holds Try.pinned (OpenSpec.ofChange squaresMulWrong)

/-- 'lockwrightkeep.SquaresRoot': WHATEVER THE INPUT: true; the input reads as it did. -/
def squaresRootSpec : ChangeSpec := { name := "squaresRoot", fn := fun _ => fun
  | [d1, d2, d3] => { results := [.lit (.bool true)], args := [d1, d2, d3] }
  | _ => none }
def squaresRootRow : OpenClaim := { program := "ytmlhjmajhgcleaa", sum := "eb0df3fc1770a54920e6fd64bf4d3de5997d539432f20f892f0712def8ae5ed4", func := "lockwright/lockwrightkeep.SquaresRoot", spec := "squaresRoot", unfollowed := true, recurses := true, apart := false }
def SquaresRootSaid : Prop := squaresRootRow.holds Try.pinned (OpenSpec.ofChange squaresRootSpec)

/-- ITS FALSE NEIGHBOUR: 'it returns false'. Refute it at one input. -/
def squaresRootWrong : ChangeSpec := { name := "squaresRoot", fn := fun _ => fun
  | [d1, d2, d3] => { results := [.lit (.bool false)], args := [d1, d2, d3] }
  | _ => none }
def SquaresRootWrongFalsely : Prop := squaresRootRow.holds Try.pinned (OpenSpec.ofChange squaresRootWrong)

/- THE SECOND FORM. 'bulk': how many values and letters a reading holds, each counted each time it is reached (what is shared counts as often as it is met; a slice's spare places count too). A statement '..UptoSaid' is the law's where the arguments, and the package variables that the reading takes, are together of bulk at most 1048576: NARROWER than '..Said'. Prove '..Said' where nothing that the law and all that it calls make is longer than what came in: it says more and counts as full. Else prove '..UptoSaid'. A law counts once. -/
mutual
def uptoBulk {H : Type} : DataW H → Nat
  | .lit (.string bytes) => bytes.length + 1
  | .lit _ => 1
  | .nil => 1
  | .ptr d => uptoBulk d + 1
  | .slice elems spare => uptoBulkAll elems + uptoBulkAll spare + 1
  | .agg parts => uptoBulkAll parts + 1
  | .iface _ d => uptoBulk d + 1
  | .map entries => uptoBulkEntries entries + 1
  | .held _ => 1
def uptoBulkAll {H : Type} : List (DataW H) → Nat
  | [] => 0
  | d :: r => uptoBulk d + uptoBulkAll r
def uptoBulkEntries {H : Type} : List (Lit × DataW H) → Nat
  | [] => 0
  | x :: r => uptoBulkEntry x + uptoBulkEntries r
def uptoBulkEntry {H : Type} : Lit × DataW H → Nat
  | (.string bytes, d) => bytes.length + uptoBulk d + 1
  | (_, d) => uptoBulk d + 1
 end
def uptoSmall : (H : Type) → List (DataW H) → Bool := fun _ ds => decide (uptoBulkAll ds ≤ 1048576)
def OpenSpec.upto (s : _root_.Go.ChangeSpec) : _root_.Go.OpenSpec := { _root_.Go.OpenSpec.ofChange s with cond := some uptoSmall }

/-- 'lockwrightlaw.SquaresSymbols', WHERE WHAT IT READS IS OF BULK AT MOST 1048576: true; the input reads as it did. -/
def squaresSymbolsUptoRow : OpenClaim := { program := "ytmlhjmajhgcleaa", sum := "eb0df3fc1770a54920e6fd64bf4d3de5997d539432f20f892f0712def8ae5ed4", func := "lockwright/lockwrightlaw.SquaresSymbols", spec := "squaresSymbols", apart := false, narrowed := true }
def SquaresSymbolsUptoSaid : Prop := squaresSymbolsUptoRow.holds Try.pinned (OpenSpec.upto squaresSymbolsSpec)

/-- 'lockwrightlaw.SquaresRoots', WHERE WHAT IT READS IS OF BULK AT MOST 1048576: true; the input reads as it did. -/
def squaresRootsUptoRow : OpenClaim := { program := "ytmlhjmajhgcleaa", sum := "eb0df3fc1770a54920e6fd64bf4d3de5997d539432f20f892f0712def8ae5ed4", func := "lockwright/lockwrightlaw.SquaresRoots", spec := "squaresRoots", unfollowed := true, recurses := true, apart := false, narrowed := true }
def SquaresRootsUptoSaid : Prop := squaresRootsUptoRow.holds Try.pinned (OpenSpec.upto squaresRootsSpec)

/-- 'lockwrightkeep.SquaresEuler', WHERE WHAT IT READS IS OF BULK AT MOST 1048576: true; the input reads as it did. -/
def squaresEulerUptoRow : OpenClaim := { program := "ytmlhjmajhgcleaa", sum := "eb0df3fc1770a54920e6fd64bf4d3de5997d539432f20f892f0712def8ae5ed4", func := "lockwright/lockwrightkeep.SquaresEuler", spec := "squaresEuler", apart := false, narrowed := true }
def SquaresEulerUptoSaid : Prop := squaresEulerUptoRow.holds Try.pinned (OpenSpec.upto squaresEulerSpec)

/-- 'lockwrightkeep.SquaresReciprocity', WHERE WHAT IT READS IS OF BULK AT MOST 1048576: true; the input reads as it did. -/
def squaresReciprocityUptoRow : OpenClaim := { program := "ytmlhjmajhgcleaa", sum := "eb0df3fc1770a54920e6fd64bf4d3de5997d539432f20f892f0712def8ae5ed4", func := "lockwright/lockwrightkeep.SquaresReciprocity", spec := "squaresReciprocity", apart := false, narrowed := true }
def SquaresReciprocityUptoSaid : Prop := squaresReciprocityUptoRow.holds Try.pinned (OpenSpec.upto squaresReciprocitySpec)

/-- 'lockwrightkeep.SquaresMul', WHERE WHAT IT READS IS OF BULK AT MOST 1048576: true; the input reads as it did. -/
def squaresMulUptoRow : OpenClaim := { program := "ytmlhjmajhgcleaa", sum := "eb0df3fc1770a54920e6fd64bf4d3de5997d539432f20f892f0712def8ae5ed4", func := "lockwright/lockwrightkeep.SquaresMul", spec := "squaresMul", apart := false, narrowed := true }
def SquaresMulUptoSaid : Prop := squaresMulUptoRow.holds Try.pinned (OpenSpec.upto squaresMulSpec)

/-- 'lockwrightkeep.SquaresRoot', WHERE WHAT IT READS IS OF BULK AT MOST 1048576: true; the input reads as it did. -/
def squaresRootUptoRow : OpenClaim := { program := "ytmlhjmajhgcleaa", sum := "eb0df3fc1770a54920e6fd64bf4d3de5997d539432f20f892f0712def8ae5ed4", func := "lockwright/lockwrightkeep.SquaresRoot", spec := "squaresRoot", unfollowed := true, recurses := true, apart := false, narrowed := true }
def SquaresRootUptoSaid : Prop := squaresRootUptoRow.holds Try.pinned (OpenSpec.upto squaresRootSpec)

end Rows
end Go.Proofs.Ytmlhjmajhgcleaa
