/-
  No cell of these rows narrows 'for every input' (looked for: loops, veiled, ifaces, maps, wideKeys, modest, calm, conditions, laid).
  DERIVED. THE GIVEN ROWS OF THIS SEAT. 2 by the template 'for every input the law returns true; each argument reads behind the call as it read before'; 0 by the template 'total and deterministic' (their statements: YtmhbkilldmcamaaTotals.lean).
  GIVEN WITH THE SEED: the statements are not yours to turn. If you find one false, say at which input.
  Laid BY PROGRAM, IN A SANDBOX (cutbox-rows.mjs): the forced cells as the released guide's own fill.sh prints them over the translation 403edaa5d96ca187… (all of the seat's roots in one cut). By AI agents, Wed Nov 11 2026. No macro, syntax, notation, axiom, sorry.
-/
import Derived.Test.YtmhbkilldmcamaaChecked
import GoSem.Claim
import GoSem.ClaimJoined
import GoSem.ClaimMapViews
import Derived.JoinedTies
import Derived.KernelRfl
namespace Go.Proofs.Ytmhbkilldmcamaa
/- THE CELL 'sum', in the pinned program and in every row, IS THE sha256 OF THE DUMP (.gsa) THAT YtmhbkilldmcamaaProg.lean LOADS. Nothing in Lean hashes anything: it is a label: what it is worth is what the hold of that sum in a sandbox is worth. -/
noncomputable def Try.pinned : Pinned := { name := "ytmhbkilldmcamaa", sum := "403edaa5d96ca1876caffa5aac43e685e41c197466993ff1835edc10b3b5d9cf", checked := Try.checked }
namespace Rows
def none {H : Type} : Left H := { results := [], args := [] }

/-- 'lockwrightkeep.RsaOpens': WHATEVER THE INPUT: true; the input reads as it did. -/
def rsaOpensSpec : ChangeSpec := { name := "rsaOpens", fn := fun _ => fun
  | [d1, d2, d3, d4] => { results := [.lit (.bool true)], args := [d1, d2, d3, d4] }
  | _ => none }
def rsaOpensRow : OpenClaim := { program := "ytmhbkilldmcamaa", sum := "403edaa5d96ca1876caffa5aac43e685e41c197466993ff1835edc10b3b5d9cf", func := "lockwright/lockwrightkeep.RsaOpens", spec := "rsaOpens", unfollowed := true, recurses := true, apart := false }
def RsaOpensSaid : Prop := rsaOpensRow.holds Try.pinned (OpenSpec.ofChange rsaOpensSpec)

/-- ITS FALSE NEIGHBOUR: 'it returns false'. Refute it at one input. -/
def rsaOpensWrong : ChangeSpec := { name := "rsaOpens", fn := fun _ => fun
  | [d1, d2, d3, d4] => { results := [.lit (.bool false)], args := [d1, d2, d3, d4] }
  | _ => none }
def RsaOpensWrongFalsely : Prop := rsaOpensRow.holds Try.pinned (OpenSpec.ofChange rsaOpensWrong)

/-- 'lockwrightkeep.RsaMuls': WHATEVER THE INPUT: true; the input reads as it did. -/
def rsaMulsSpec : ChangeSpec := { name := "rsaMuls", fn := fun _ => fun
  | [d1, d2, d3] => { results := [.lit (.bool true)], args := [d1, d2, d3] }
  | _ => none }
def rsaMulsRow : OpenClaim := { program := "ytmhbkilldmcamaa", sum := "403edaa5d96ca1876caffa5aac43e685e41c197466993ff1835edc10b3b5d9cf", func := "lockwright/lockwrightkeep.RsaMuls", spec := "rsaMuls", apart := false }
def RsaMulsSaid : Prop := rsaMulsRow.holds Try.pinned (OpenSpec.ofChange rsaMulsSpec)

/-- ITS FALSE NEIGHBOUR: 'it returns false'. Refute it at one input. -/
def rsaMulsWrong : ChangeSpec := { name := "rsaMuls", fn := fun _ => fun
  | [d1, d2, d3] => { results := [.lit (.bool false)], args := [d1, d2, d3] }
  | _ => none }
def RsaMulsWrongFalsely : Prop := rsaMulsRow.holds Try.pinned (OpenSpec.ofChange rsaMulsWrong)

/- THE SECOND FORM. 'bulk': how many values and letters a reading holds, each counted each time it is reached (what is shared counts as often as it is met; a slice's spare places count too). A statement '..UptoSaid' is the law's where the arguments, and the package variables that the reading takes, are together of bulk at most 1048576: NARROWER than '..Said'. Prove '..Said' where nothing that the law and all that it calls make is longer than what came in: it says more and counts as full. Else prove '..UptoSaid'. A law counts once. -/
mutual
def uptoBulk {H : Type} : DataW H → Nat
  | .lit (.string bytes) => bytes.length + 1
  | .lit _ => 1
  | .nil => 1
  | .ptr d => uptoBulk d + 1
  | .slice elems spare => uptoBulkAll elems + uptoBulkAll spare + 1
  | .agg parts => uptoBulkAll parts + 1
  | .iface _ d => uptoBulk d + 1
  | .map entries => uptoBulkEntries entries + 1
  | .held _ => 1
def uptoBulkAll {H : Type} : List (DataW H) → Nat
  | [] => 0
  | d :: r => uptoBulk d + uptoBulkAll r
def uptoBulkEntries {H : Type} : List (Lit × DataW H) → Nat
  | [] => 0
  | x :: r => uptoBulkEntry x + uptoBulkEntries r
def uptoBulkEntry {H : Type} : Lit × DataW H → Nat
  | (.string bytes, d) => bytes.length + uptoBulk d + 1
  | (_, d) => uptoBulk d + 1
 end
def uptoSmall : (H : Type) → List (DataW H) → Bool := fun _ ds => decide (uptoBulkAll ds ≤ 1048576)
def OpenSpec.upto (s : _root_.Go.ChangeSpec) : _root_.Go.OpenSpec := { _root_.Go.OpenSpec.ofChange s with cond := some uptoSmall }

/-- 'lockwrightkeep.RsaOpens', WHERE WHAT IT READS IS OF BULK AT MOST 1048576: true; the input reads as it did. -/
def rsaOpensUptoRow : OpenClaim := { program := "ytmhbkilldmcamaa", sum := "403edaa5d96ca1876caffa5aac43e685e41c197466993ff1835edc10b3b5d9cf", func := "lockwright/lockwrightkeep.RsaOpens", spec := "rsaOpens", unfollowed := true, recurses := true, apart := false, narrowed := true }
def RsaOpensUptoSaid : Prop := rsaOpensUptoRow.holds Try.pinned (OpenSpec.upto rsaOpensSpec)

/-- 'lockwrightkeep.RsaMuls', WHERE WHAT IT READS IS OF BULK AT MOST 1048576: true; the input reads as it did. -/
def rsaMulsUptoRow : OpenClaim := { program := "ytmhbkilldmcamaa", sum := "403edaa5d96ca1876caffa5aac43e685e41c197466993ff1835edc10b3b5d9cf", func := "lockwright/lockwrightkeep.RsaMuls", spec := "rsaMuls", apart := false, narrowed := true }
def RsaMulsUptoSaid : Prop := rsaMulsUptoRow.holds Try.pinned (OpenSpec.upto rsaMulsSpec)

end Rows
end Go.Proofs.Ytmhbkilldmcamaa
