/-
  No cell of these rows narrows 'for every input' (looked for: loops, veiled, ifaces, maps, wideKeys, modest, calm, conditions, laid).
  DERIVED. THE GIVEN ROWS OF THIS SEAT. 6 by the template 'for every input the law returns true; each argument reads behind the call as it read before'; 0 by the template 'total and deterministic' (their statements: YtngdhhhdnkkagaaTotals.lean).
  GIVEN WITH THE SEED: the statements are not yours to turn. If you find one false, say at which input.
  Laid BY PROGRAM, IN A SANDBOX (cutbox-rows.mjs): the forced cells as the released guide's own fill.sh prints them over the translation 18633f5b47f9264b… (all of the seat's roots in one cut). By AI agents, Wed Nov 11 2026. No macro, syntax, notation, axiom, sorry.
-/
import Derived.Test.YtngdhhhdnkkagaaChecked
import GoSem.Claim
import GoSem.ClaimJoined
import GoSem.ClaimMapViews
import Derived.JoinedTies
import Derived.KernelRfl
namespace Go.Proofs.Ytngdhhhdnkkagaa
/- THE CELL 'sum', in the pinned program and in every row, IS THE sha256 OF THE DUMP (.gsa) THAT YtngdhhhdnkkagaaProg.lean LOADS. Nothing in Lean hashes anything: it is a label: what it is worth is what the hold of that sum in a sandbox is worth. -/
noncomputable def Try.pinned : Pinned := { name := "ytngdhhhdnkkagaa", sum := "18633f5b47f9264b0ea67e8100b64421bf9742aa9ef08096a04c3a6563f12d6d", checked := Try.checked }
namespace Rows
def none {H : Type} : Left H := { results := [], args := [] }

/-- 'lockwrightlaw.FeistelSeals': WHATEVER THE INPUT: true; the input reads as it did. -/
def feistelSealsSpec : ChangeSpec := { name := "feistelSeals", fn := fun _ => fun
  | [d1, d2] => { results := [.lit (.bool true)], args := [d1, d2] }
  | _ => none }
def feistelSealsRow : OpenClaim := { program := "ytngdhhhdnkkagaa", sum := "18633f5b47f9264b0ea67e8100b64421bf9742aa9ef08096a04c3a6563f12d6d", func := "lockwright/lockwrightlaw.FeistelSeals", spec := "feistelSeals", unfollowed := true, recurses := true, apart := false }
def FeistelSealsSaid : Prop := feistelSealsRow.holds Try.pinned (OpenSpec.ofChange feistelSealsSpec)

/-- ITS FALSE NEIGHBOUR: 'it returns false'. Refute it at one input. -/
def feistelSealsWrong : ChangeSpec := { name := "feistelSeals", fn := fun _ => fun
  | [d1, d2] => { results := [.lit (.bool false)], args := [d1, d2] }
  | _ => none }
def FeistelSealsWrongFalsely : Prop := feistelSealsRow.holds Try.pinned (OpenSpec.ofChange feistelSealsWrong)

/-- 'lockwrightlaw.FeistelOpens': WHATEVER THE INPUT: true; the input reads as it did. -/
def feistelOpensSpec : ChangeSpec := { name := "feistelOpens", fn := fun _ => fun
  | [d1, d2] => { results := [.lit (.bool true)], args := [d1, d2] }
  | _ => none }
def feistelOpensRow : OpenClaim := { program := "ytngdhhhdnkkagaa", sum := "18633f5b47f9264b0ea67e8100b64421bf9742aa9ef08096a04c3a6563f12d6d", func := "lockwright/lockwrightlaw.FeistelOpens", spec := "feistelOpens", unfollowed := true, recurses := true, apart := false }
def FeistelOpensSaid : Prop := feistelOpensRow.holds Try.pinned (OpenSpec.ofChange feistelOpensSpec)

/-- ITS FALSE NEIGHBOUR: 'it returns false'. Refute it at one input. -/
def feistelOpensWrong : ChangeSpec := { name := "feistelOpens", fn := fun _ => fun
  | [d1, d2] => { results := [.lit (.bool false)], args := [d1, d2] }
  | _ => none }
def FeistelOpensWrongFalsely : Prop := feistelOpensRow.holds Try.pinned (OpenSpec.ofChange feistelOpensWrong)

/-- 'lockwrightlaw.FeistelReturns': WHATEVER THE INPUT: true; the input reads as it did. -/
def feistelReturnsSpec : ChangeSpec := { name := "feistelReturns", fn := fun _ => fun
  | [d] => { results := [.lit (.bool true)], args := [d] }
  | _ => none }
def feistelReturnsRow : OpenClaim := { program := "ytngdhhhdnkkagaa", sum := "18633f5b47f9264b0ea67e8100b64421bf9742aa9ef08096a04c3a6563f12d6d", func := "lockwright/lockwrightlaw.FeistelReturns", spec := "feistelReturns", unfollowed := true, recurses := true, apart := false }
def FeistelReturnsSaid : Prop := feistelReturnsRow.holds Try.pinned (OpenSpec.ofChange feistelReturnsSpec)

/-- ITS FALSE NEIGHBOUR: 'it returns false'. Refute it at one input. -/
def feistelReturnsWrong : ChangeSpec := { name := "feistelReturns", fn := fun _ => fun
  | [d] => { results := [.lit (.bool false)], args := [d] }
  | _ => none }
def FeistelReturnsWrongFalsely : Prop := feistelReturnsRow.holds Try.pinned (OpenSpec.ofChange feistelReturnsWrong)

/-- 'lockwrightkeep.FeistelBack': WHATEVER THE INPUT: true; the input reads as it did. -/
def feistelBackSpec : ChangeSpec := { name := "feistelBack", fn := fun _ => fun
  | [d1, d2, d3] => { results := [.lit (.bool true)], args := [d1, d2, d3] }
  | _ => none }
def feistelBackRow : OpenClaim := { program := "ytngdhhhdnkkagaa", sum := "18633f5b47f9264b0ea67e8100b64421bf9742aa9ef08096a04c3a6563f12d6d", func := "lockwright/lockwrightkeep.FeistelBack", spec := "feistelBack", unfollowed := true, recurses := true, apart := false }
def FeistelBackSaid : Prop := feistelBackRow.holds Try.pinned (OpenSpec.ofChange feistelBackSpec)

/-- ITS FALSE NEIGHBOUR: 'it returns false'. Refute it at one input. -/
def feistelBackWrong : ChangeSpec := { name := "feistelBack", fn := fun _ => fun
  | [d1, d2, d3] => { results := [.lit (.bool false)], args := [d1, d2, d3] }
  | _ => none }
def FeistelBackWrongFalsely : Prop := feistelBackRow.holds Try.pinned (OpenSpec.ofChange feistelBackWrong)

/-- 'lockwrightkeep.FeistelTurned': WHATEVER THE INPUT: true; the input reads as it did. -/
def feistelTurnedSpec : ChangeSpec := { name := "feistelTurned", fn := fun _ => fun
  | [d1, d2] => { results := [.lit (.bool true)], args := [d1, d2] }
  | _ => none }
def feistelTurnedRow : OpenClaim := { program := "ytngdhhhdnkkagaa", sum := "18633f5b47f9264b0ea67e8100b64421bf9742aa9ef08096a04c3a6563f12d6d", func := "lockwright/lockwrightkeep.FeistelTurned", spec := "feistelTurned", unfollowed := true, recurses := true, apart := false }
def FeistelTurnedSaid : Prop := feistelTurnedRow.holds Try.pinned (OpenSpec.ofChange feistelTurnedSpec)

/-- ITS FALSE NEIGHBOUR: 'it returns false'. Refute it at one input. -/
def feistelTurnedWrong : ChangeSpec := { name := "feistelTurned", fn := fun _ => fun
  | [d1, d2] => { results := [.lit (.bool false)], args := [d1, d2] }
  | _ => none }
def FeistelTurnedWrongFalsely : Prop := feistelTurnedRow.holds Try.pinned (OpenSpec.ofChange feistelTurnedWrong)

/-- 'lockwrightkeep.FeistelOrder': WHATEVER THE INPUT: true; the input reads as it did. -/
def feistelOrderSpec : ChangeSpec := { name := "feistelOrder", fn := fun _ => fun
  | [d1, d2, d3] => { results := [.lit (.bool true)], args := [d1, d2, d3] }
  | _ => none }
def feistelOrderRow : OpenClaim := { program := "ytngdhhhdnkkagaa", sum := "18633f5b47f9264b0ea67e8100b64421bf9742aa9ef08096a04c3a6563f12d6d", func := "lockwright/lockwrightkeep.FeistelOrder", spec := "feistelOrder", unfollowed := true, recurses := true, apart := false }
def FeistelOrderSaid : Prop := feistelOrderRow.holds Try.pinned (OpenSpec.ofChange feistelOrderSpec)

/-- ITS FALSE NEIGHBOUR: 'it returns false'. Refute it at one input. -/
def feistelOrderWrong : ChangeSpec := { name := "feistelOrder", fn := fun _ => fun
  | [d1, d2, d3] => { results := [.lit (.bool false)], args := [d1, d2, d3] }
  | _ => none }
def FeistelOrderWrongFalsely : Prop := feistelOrderRow.holds Try.pinned (OpenSpec.ofChange feistelOrderWrong)

/- THE SECOND FORM. 'bulk': how many values and letters a reading holds, each counted each time it is reached (what is shared counts as often as it is met; a slice's spare places count too). A statement '..UptoSaid' is the law's where the arguments, and the package variables that the reading takes, are together of bulk at most 1048576: NARROWER than '..Said'. Prove '..Said' where nothing that the law and all that it calls make is longer than what came in: it says more and counts as full. Else prove '..UptoSaid'. A law counts once. -/
mutual
def uptoBulk {H : Type} : DataW H → Nat
  | .lit (.string bytes) => bytes.length + 1
  | .lit _ => 1
  | .nil => 1
  | .ptr d => uptoBulk d + 1
  | .slice elems spare => uptoBulkAll elems + uptoBulkAll spare + 1
  | .agg parts => uptoBulkAll parts + 1
  | .iface _ d => uptoBulk d + 1
  | .map entries => uptoBulkEntries entries + 1
  | .held _ => 1
def uptoBulkAll {H : Type} : List (DataW H) → Nat
  | [] => 0
  | d :: r => uptoBulk d + uptoBulkAll r
def uptoBulkEntries {H : Type} : List (Lit × DataW H) → Nat
  | [] => 0
  | x :: r => uptoBulkEntry x + uptoBulkEntries r
def uptoBulkEntry {H : Type} : Lit × DataW H → Nat
  | (.string bytes, d) => bytes.length + uptoBulk d + 1
  | (_, d) => uptoBulk d + 1
 end
def uptoSmall : (H : Type) → List (DataW H) → Bool := fun _ ds => decide (uptoBulkAll ds ≤ 1048576)
def OpenSpec.upto (s : _root_.Go.ChangeSpec) : _root_.Go.OpenSpec := { _root_.Go.OpenSpec.ofChange s with cond := some uptoSmall }

/-- 'lockwrightlaw.FeistelSeals', WHERE WHAT IT READS IS OF BULK AT MOST 1048576: true; the input reads as it did. -/
def feistelSealsUptoRow : OpenClaim := { program := "ytngdhhhdnkkagaa", sum := "18633f5b47f9264b0ea67e8100b64421bf9742aa9ef08096a04c3a6563f12d6d", func := "lockwright/lockwrightlaw.FeistelSeals", spec := "feistelSeals", unfollowed := true, recurses := true, apart := false, narrowed := true }
def FeistelSealsUptoSaid : Prop := feistelSealsUptoRow.holds Try.pinned (OpenSpec.upto feistelSealsSpec)

/-- 'lockwrightlaw.FeistelOpens', WHERE WHAT IT READS IS OF BULK AT MOST 1048576: true; the input reads as it did. -/
def feistelOpensUptoRow : OpenClaim := { program := "ytngdhhhdnkkagaa", sum := "18633f5b47f9264b0ea67e8100b64421bf9742aa9ef08096a04c3a6563f12d6d", func := "lockwright/lockwrightlaw.FeistelOpens", spec := "feistelOpens", unfollowed := true, recurses := true, apart := false, narrowed := true }
def FeistelOpensUptoSaid : Prop := feistelOpensUptoRow.holds Try.pinned (OpenSpec.upto feistelOpensSpec)

/-- 'lockwrightlaw.FeistelReturns', WHERE WHAT IT READS IS OF BULK AT MOST 1048576: true; the input reads as it did. -/
def feistelReturnsUptoRow : OpenClaim := { program := "ytngdhhhdnkkagaa", sum := "18633f5b47f9264b0ea67e8100b64421bf9742aa9ef08096a04c3a6563f12d6d", func := "lockwright/lockwrightlaw.FeistelReturns", spec := "feistelReturns", unfollowed := true, recurses := true, apart := false, narrowed := true }
def FeistelReturnsUptoSaid : Prop := feistelReturnsUptoRow.holds Try.pinned (OpenSpec.upto feistelReturnsSpec)

/-- 'lockwrightkeep.FeistelBack', WHERE WHAT IT READS IS OF BULK AT MOST 1048576: true; the input reads as it did. -/
def feistelBackUptoRow : OpenClaim := { program := "ytngdhhhdnkkagaa", sum := "18633f5b47f9264b0ea67e8100b64421bf9742aa9ef08096a04c3a6563f12d6d", func := "lockwright/lockwrightkeep.FeistelBack", spec := "feistelBack", unfollowed := true, recurses := true, apart := false, narrowed := true }
def FeistelBackUptoSaid : Prop := feistelBackUptoRow.holds Try.pinned (OpenSpec.upto feistelBackSpec)

/-- 'lockwrightkeep.FeistelTurned', WHERE WHAT IT READS IS OF BULK AT MOST 1048576: true; the input reads as it did. -/
def feistelTurnedUptoRow : OpenClaim := { program := "ytngdhhhdnkkagaa", sum := "18633f5b47f9264b0ea67e8100b64421bf9742aa9ef08096a04c3a6563f12d6d", func := "lockwright/lockwrightkeep.FeistelTurned", spec := "feistelTurned", unfollowed := true, recurses := true, apart := false, narrowed := true }
def FeistelTurnedUptoSaid : Prop := feistelTurnedUptoRow.holds Try.pinned (OpenSpec.upto feistelTurnedSpec)

/-- 'lockwrightkeep.FeistelOrder', WHERE WHAT IT READS IS OF BULK AT MOST 1048576: true; the input reads as it did. -/
def feistelOrderUptoRow : OpenClaim := { program := "ytngdhhhdnkkagaa", sum := "18633f5b47f9264b0ea67e8100b64421bf9742aa9ef08096a04c3a6563f12d6d", func := "lockwright/lockwrightkeep.FeistelOrder", spec := "feistelOrder", unfollowed := true, recurses := true, apart := false, narrowed := true }
def FeistelOrderUptoSaid : Prop := feistelOrderUptoRow.holds Try.pinned (OpenSpec.upto feistelOrderSpec)

end Rows
end Go.Proofs.Ytngdhhhdnkkagaa
