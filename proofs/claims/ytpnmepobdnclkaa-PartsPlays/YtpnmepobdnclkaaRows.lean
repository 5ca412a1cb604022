/-
  No cell of these rows narrows 'for every input' (looked for: loops, veiled, ifaces, maps, wideKeys, modest, calm, conditions, laid).
  DERIVED. THE GIVEN ROWS OF THIS SEAT. 5 by the template 'for every input the law returns true; each argument reads behind the call as it read before'; 0 by the template 'total and deterministic' (their statements: YtpnmepobdnclkaaTotals.lean).
  GIVEN WITH THE SEED: the statements are not yours to turn. If you find one false, say at which input.
  Laid BY PROGRAM, IN A SANDBOX (cutbox-rows.mjs): the forced cells as the released guide's own fill.sh prints them over the translation 9a5b7828a909f617… (all of the seat's roots in one cut). By AI agents, Wed Nov 11 2026. No macro, syntax, notation, axiom, sorry.
-/
import Derived.Test.YtpnmepobdnclkaaChecked
import GoSem.Claim
import GoSem.ClaimJoined
import GoSem.ClaimMapViews
import Derived.JoinedTies
import Derived.KernelRfl
namespace Go.Proofs.Ytpnmepobdnclkaa
/- THE CELL 'sum', in the pinned program and in every row, IS THE sha256 OF THE DUMP (.gsa) THAT YtpnmepobdnclkaaProg.lean LOADS. Nothing in Lean hashes anything: it is a label: what it is worth is what the hold of that sum in a sandbox is worth. -/
noncomputable def Try.pinned : Pinned := { name := "ytpnmepobdnclkaa", sum := "9a5b7828a909f617106e7201f0a579b5992e26b6505819655ed93ea826913f7c", checked := Try.checked }
namespace Rows
def none {H : Type} : Left H := { results := [], args := [] }

/-- 'lockwrightlaw.PartsOpens': WHATEVER THE INPUT: true; the input reads as it did. -/
def partsOpensSpec : ChangeSpec := { name := "partsOpens", fn := fun _ => fun
  | [d1, d2, d3] => { results := [.lit (.bool true)], args := [d1, d2, d3] }
  | _ => none }
def partsOpensRow : OpenClaim := { program := "ytpnmepobdnclkaa", sum := "9a5b7828a909f617106e7201f0a579b5992e26b6505819655ed93ea826913f7c", func := "lockwright/lockwrightlaw.PartsOpens", spec := "partsOpens", unfollowed := true, recurses := true, apart := false }
def PartsOpensSaid : Prop := partsOpensRow.holds Try.pinned (OpenSpec.ofChange partsOpensSpec)

/-- ITS FALSE NEIGHBOUR: 'it returns false'. Refute it at one input. -/
def partsOpensWrong : ChangeSpec := { name := "partsOpens", fn := fun _ => fun
  | [d1, d2, d3] => { results := [.lit (.bool false)], args := [d1, d2, d3] }
  | _ => none }
def PartsOpensWrongFalsely : Prop := partsOpensRow.holds Try.pinned (OpenSpec.ofChange partsOpensWrong)

/-- 'lockwrightlaw.PartsClear': WHATEVER THE INPUT: true; the input reads as it did. -/
def partsClearSpec : ChangeSpec := { name := "partsClear", fn := fun _ => fun
  | [d1, d2, d3] => { results := [.lit (.bool true)], args := [d1, d2, d3] }
  | _ => none }
def partsClearRow : OpenClaim := { program := "ytpnmepobdnclkaa", sum := "9a5b7828a909f617106e7201f0a579b5992e26b6505819655ed93ea826913f7c", func := "lockwright/lockwrightlaw.PartsClear", spec := "partsClear", unfollowed := true, recurses := true, apart := false }
def PartsClearSaid : Prop := partsClearRow.holds Try.pinned (OpenSpec.ofChange partsClearSpec)

/-- ITS FALSE NEIGHBOUR: 'it returns false'. Refute it at one input. -/
def partsClearWrong : ChangeSpec := { name := "partsClear", fn := fun _ => fun
  | [d1, d2, d3] => { results := [.lit (.bool false)], args := [d1, d2, d3] }
  | _ => none }
def PartsClearWrongFalsely : Prop := partsClearRow.holds Try.pinned (OpenSpec.ofChange partsClearWrong)

/-- 'lockwrightlaw.PartsPlays': WHATEVER THE INPUT: true; the input reads as it did. -/
def partsPlaysSpec : ChangeSpec := { name := "partsPlays", fn := fun _ => fun
  | [d1, d2, d3, d4, d5] => { results := [.lit (.bool true)], args := [d1, d2, d3, d4, d5] }
  | _ => none }
def partsPlaysRow : OpenClaim := { program := "ytpnmepobdnclkaa", sum := "9a5b7828a909f617106e7201f0a579b5992e26b6505819655ed93ea826913f7c", func := "lockwright/lockwrightlaw.PartsPlays", spec := "partsPlays", unfollowed := true, recurses := true, apart := false }
def PartsPlaysSaid : Prop := partsPlaysRow.holds Try.pinned (OpenSpec.ofChange partsPlaysSpec)

/-- ITS FALSE NEIGHBOUR: 'it returns false'. Refute it at one input. -/
def partsPlaysWrong : ChangeSpec := { name := "partsPlays", fn := fun _ => fun
  | [d1, d2, d3, d4, d5] => { results := [.lit (.bool false)], args := [d1, d2, d3, d4, d5] }
  | _ => none }
def PartsPlaysWrongFalsely : Prop := partsPlaysRow.holds Try.pinned (OpenSpec.ofChange partsPlaysWrong)

/-- 'lockwrightkeep.PartsRight': WHATEVER THE INPUT: true; the input reads as it did. -/
def partsRightSpec : ChangeSpec := { name := "partsRight", fn := fun _ => fun
  | [d1, d2, d3, d4, d5] => { results := [.lit (.bool true)], args := [d1, d2, d3, d4, d5] }
  | _ => none }
def partsRightRow : OpenClaim := { program := "ytpnmepobdnclkaa", sum := "9a5b7828a909f617106e7201f0a579b5992e26b6505819655ed93ea826913f7c", func := "lockwright/lockwrightkeep.PartsRight", spec := "partsRight", unfollowed := true, recurses := true, apart := false }
def PartsRightSaid : Prop := partsRightRow.holds Try.pinned (OpenSpec.ofChange partsRightSpec)

/-- ITS FALSE NEIGHBOUR: 'it returns false'. Refute it at one input. -/
def partsRightWrong : ChangeSpec := { name := "partsRight", fn := fun _ => fun
  | [d1, d2, d3, d4, d5] => { results := [.lit (.bool false)], args := [d1, d2, d3, d4, d5] }
  | _ => none }
def PartsRightWrongFalsely : Prop := partsRightRow.holds Try.pinned (OpenSpec.ofChange partsRightWrong)

/-- 'lockwrightkeep.PartsEnough': WHATEVER THE INPUT: true; the input reads as it did. -/
def partsEnoughSpec : ChangeSpec := { name := "partsEnough", fn := fun _ => fun
  | [d1, d2, d3, d4, d5, d6] => { results := [.lit (.bool true)], args := [d1, d2, d3, d4, d5, d6] }
  | _ => none }
def partsEnoughRow : OpenClaim := { program := "ytpnmepobdnclkaa", sum := "9a5b7828a909f617106e7201f0a579b5992e26b6505819655ed93ea826913f7c", func := "lockwright/lockwrightkeep.PartsEnough", spec := "partsEnough", unfollowed := true, recurses := true, apart := false }
def PartsEnoughSaid : Prop := partsEnoughRow.holds Try.pinned (OpenSpec.ofChange partsEnoughSpec)

/-- ITS FALSE NEIGHBOUR: 'it returns false'. Refute it at one input. -/
def partsEnoughWrong : ChangeSpec := { name := "partsEnough", fn := fun _ => fun
  | [d1, d2, d3, d4, d5, d6] => { results := [.lit (.bool false)], args := [d1, d2, d3, d4, d5, d6] }
  | _ => none }
def PartsEnoughWrongFalsely : Prop := partsEnoughRow.holds Try.pinned (OpenSpec.ofChange partsEnoughWrong)

/- THE SECOND FORM. 'bulk': how many values and letters a reading holds, each counted each time it is reached (what is shared counts as often as it is met; a slice's spare places count too). A statement '..UptoSaid' is the law's where the arguments, and the package variables that the reading takes, are together of bulk at most 1048576: NARROWER than '..Said'. Prove '..Said' where nothing that the law and all that it calls make is longer than what came in: it says more and counts as full. Else prove '..UptoSaid'. A law counts once. -/
mutual
def uptoBulk {H : Type} : DataW H → Nat
  | .lit (.string bytes) => bytes.length + 1
  | .lit _ => 1
  | .nil => 1
  | .ptr d => uptoBulk d + 1
  | .slice elems spare => uptoBulkAll elems + uptoBulkAll spare + 1
  | .agg parts => uptoBulkAll parts + 1
  | .iface _ d => uptoBulk d + 1
  | .map entries => uptoBulkEntries entries + 1
  | .held _ => 1
def uptoBulkAll {H : Type} : List (DataW H) → Nat
  | [] => 0
  | d :: r => uptoBulk d + uptoBulkAll r
def uptoBulkEntries {H : Type} : List (Lit × DataW H) → Nat
  | [] => 0
  | x :: r => uptoBulkEntry x + uptoBulkEntries r
def uptoBulkEntry {H : Type} : Lit × DataW H → Nat
  | (.string bytes, d) => bytes.length + uptoBulk d + 1
  | (_, d) => uptoBulk d + 1
 end
def uptoSmall : (H : Type) → List (DataW H) → Bool := fun _ ds => decide (uptoBulkAll ds ≤ 1048576)
def OpenSpec.upto (s : _root_.Go.ChangeSpec) : _root_.Go.OpenSpec := { _root_.Go.OpenSpec.ofChange s with cond := some uptoSmall }

/-- 'lockwrightlaw.PartsOpens', WHERE WHAT IT READS IS OF BULK AT MOST 1048576: true; the input reads as it did. -/
def partsOpensUptoRow : OpenClaim := { program := "ytpnmepobdnclkaa", sum := "9a5b7828a909f617106e7201f0a579b5992e26b6505819655ed93ea826913f7c", func := "lockwright/lockwrightlaw.PartsOpens", spec := "partsOpens", unfollowed := true, recurses := true, apart := false, narrowed := true }
def PartsOpensUptoSaid : Prop := partsOpensUptoRow.holds Try.pinned (OpenSpec.upto partsOpensSpec)

/-- 'lockwrightlaw.PartsClear', WHERE WHAT IT READS IS OF BULK AT MOST 1048576: true; the input reads as it did. -/
def partsClearUptoRow : OpenClaim := { program := "ytpnmepobdnclkaa", sum := "9a5b7828a909f617106e7201f0a579b5992e26b6505819655ed93ea826913f7c", func := "lockwright/lockwrightlaw.PartsClear", spec := "partsClear", unfollowed := true, recurses := true, apart := false, narrowed := true }
def PartsClearUptoSaid : Prop := partsClearUptoRow.holds Try.pinned (OpenSpec.upto partsClearSpec)

/-- 'lockwrightlaw.PartsPlays', WHERE WHAT IT READS IS OF BULK AT MOST 1048576: true; the input reads as it did. -/
def partsPlaysUptoRow : OpenClaim := { program := "ytpnmepobdnclkaa", sum := "9a5b7828a909f617106e7201f0a579b5992e26b6505819655ed93ea826913f7c", func := "lockwright/lockwrightlaw.PartsPlays", spec := "partsPlays", unfollowed := true, recurses := true, apart := false, narrowed := true }
def PartsPlaysUptoSaid : Prop := partsPlaysUptoRow.holds Try.pinned (OpenSpec.upto partsPlaysSpec)

/-- 'lockwrightkeep.PartsRight', WHERE WHAT IT READS IS OF BULK AT MOST 1048576: true; the input reads as it did. -/
def partsRightUptoRow : OpenClaim := { program := "ytpnmepobdnclkaa", sum := "9a5b7828a909f617106e7201f0a579b5992e26b6505819655ed93ea826913f7c", func := "lockwright/lockwrightkeep.PartsRight", spec := "partsRight", unfollowed := true, recurses := true, apart := false, narrowed := true }
def PartsRightUptoSaid : Prop := partsRightUptoRow.holds Try.pinned (OpenSpec.upto partsRightSpec)

/-- 'lockwrightkeep.PartsEnough', WHERE WHAT IT READS IS OF BULK AT MOST 1048576: true; the input reads as it did. -/
def partsEnoughUptoRow : OpenClaim := { program := "ytpnmepobdnclkaa", sum := "9a5b7828a909f617106e7201f0a579b5992e26b6505819655ed93ea826913f7c", func := "lockwright/lockwrightkeep.PartsEnough", spec := "partsEnough", unfollowed := true, recurses := true, apart := false, narrowed := true }
def PartsEnoughUptoSaid : Prop := partsEnoughUptoRow.holds Try.pinned (OpenSpec.upto partsEnoughSpec)

end Rows
end Go.Proofs.Ytpnmepobdnclkaa
