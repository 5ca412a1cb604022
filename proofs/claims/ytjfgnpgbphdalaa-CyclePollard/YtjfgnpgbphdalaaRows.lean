/-
  No cell of these rows narrows 'for every input' (looked for: loops, veiled, ifaces, maps, wideKeys, modest, calm, conditions, laid).
  DERIVED. THE GIVEN ROWS OF THIS SEAT. 4 by the template 'for every input the law returns true; each argument reads behind the call as it read before'; 0 by the template 'total and deterministic' (their statements: YtjfgnpgbphdalaaTotals.lean).
  GIVEN WITH THE SEED: the statements are not yours to turn. If you find one false, say at which input.
  Laid BY PROGRAM, IN A SANDBOX (cutbox-rows.mjs): the forced cells as the released guide's own fill.sh prints them over the translation 075d85c47fa2cc0d… (all of the seat's roots in one cut). By AI agents, Wed Nov 11 2026. No macro, syntax, notation, axiom, sorry.
-/
import Derived.Test.YtjfgnpgbphdalaaChecked
import GoSem.Claim
import GoSem.ClaimJoined
import GoSem.ClaimMapViews
import Derived.JoinedTies
import Derived.KernelRfl
namespace Go.Proofs.Ytjfgnpgbphdalaa
/- THE CELL 'sum', in the pinned program and in every row, IS THE sha256 OF THE DUMP (.gsa) THAT YtjfgnpgbphdalaaProg.lean LOADS. Nothing in Lean hashes anything: it is a label: what it is worth is what the hold of that sum in a sandbox is worth. -/
noncomputable def Try.pinned : Pinned := { name := "ytjfgnpgbphdalaa", sum := "075d85c47fa2cc0d5fda255794f4e188e468c609dcc5dd63cf9327d113ce3a02", checked := Try.checked }
namespace Rows
def none {H : Type} : Left H := { results := [], args := [] }

/-- 'lockwrightlaw.CycleTells': WHATEVER THE INPUT: true; the input reads as it did. -/
def cycleTellsSpec : ChangeSpec := { name := "cycleTells", fn := fun _ => fun
  | [d1, d2, d3] => { results := [.lit (.bool true)], args := [d1, d2, d3] }
  | _ => none }
def cycleTellsRow : OpenClaim := { program := "ytjfgnpgbphdalaa", sum := "075d85c47fa2cc0d5fda255794f4e188e468c609dcc5dd63cf9327d113ce3a02", func := "lockwright/lockwrightlaw.CycleTells", spec := "cycleTells", apart := false }
def CycleTellsSaid : Prop := cycleTellsRow.holds Try.pinned (OpenSpec.ofChange cycleTellsSpec)

/-- ITS FALSE NEIGHBOUR: 'it returns false'. Refute it at one input. -/
def cycleTellsWrong : ChangeSpec := { name := "cycleTells", fn := fun _ => fun
  | [d1, d2, d3] => { results := [.lit (.bool false)], args := [d1, d2, d3] }
  | _ => none }
def CycleTellsWrongFalsely : Prop := cycleTellsRow.holds Try.pinned (OpenSpec.ofChange cycleTellsWrong)

/-- 'lockwrightlaw.CycleSplits': WHATEVER THE INPUT: true; the input reads as it did. -/
def cycleSplitsSpec : ChangeSpec := { name := "cycleSplits", fn := fun _ => fun
  | [d1, d2, d3] => { results := [.lit (.bool true)], args := [d1, d2, d3] }
  | _ => none }
def cycleSplitsRow : OpenClaim := { program := "ytjfgnpgbphdalaa", sum := "075d85c47fa2cc0d5fda255794f4e188e468c609dcc5dd63cf9327d113ce3a02", func := "lockwright/lockwrightlaw.CycleSplits", spec := "cycleSplits", apart := false }
def CycleSplitsSaid : Prop := cycleSplitsRow.holds Try.pinned (OpenSpec.ofChange cycleSplitsSpec)

/-- ITS FALSE NEIGHBOUR: 'it returns false'. Refute it at one input. -/
def cycleSplitsWrong : ChangeSpec := { name := "cycleSplits", fn := fun _ => fun
  | [d1, d2, d3] => { results := [.lit (.bool false)], args := [d1, d2, d3] }
  | _ => none }
def CycleSplitsWrongFalsely : Prop := cycleSplitsRow.holds Try.pinned (OpenSpec.ofChange cycleSplitsWrong)

/-- 'lockwrightkeep.CycleReturns': WHATEVER THE INPUT: true; the input reads as it did. -/
def cycleReturnsSpec : ChangeSpec := { name := "cycleReturns", fn := fun _ => fun
  | [d1, d2, d3] => { results := [.lit (.bool true)], args := [d1, d2, d3] }
  | _ => none }
def cycleReturnsRow : OpenClaim := { program := "ytjfgnpgbphdalaa", sum := "075d85c47fa2cc0d5fda255794f4e188e468c609dcc5dd63cf9327d113ce3a02", func := "lockwright/lockwrightkeep.CycleReturns", spec := "cycleReturns", apart := false }
def CycleReturnsSaid : Prop := cycleReturnsRow.holds Try.pinned (OpenSpec.ofChange cycleReturnsSpec)

/-- ITS FALSE NEIGHBOUR: 'it returns false'. Refute it at one input. -/
def cycleReturnsWrong : ChangeSpec := { name := "cycleReturns", fn := fun _ => fun
  | [d1, d2, d3] => { results := [.lit (.bool false)], args := [d1, d2, d3] }
  | _ => none }
def CycleReturnsWrongFalsely : Prop := cycleReturnsRow.holds Try.pinned (OpenSpec.ofChange cycleReturnsWrong)

/-- 'lockwrightkeep.CyclePollard': WHATEVER THE INPUT: true; the input reads as it did. -/
def cyclePollardSpec : ChangeSpec := { name := "cyclePollard", fn := fun _ => fun
  | [d1, d2, d3] => { results := [.lit (.bool true)], args := [d1, d2, d3] }
  | _ => none }
def cyclePollardRow : OpenClaim := { program := "ytjfgnpgbphdalaa", sum := "075d85c47fa2cc0d5fda255794f4e188e468c609dcc5dd63cf9327d113ce3a02", func := "lockwright/lockwrightkeep.CyclePollard", spec := "cyclePollard", apart := false }
def CyclePollardSaid : Prop := cyclePollardRow.holds Try.pinned (OpenSpec.ofChange cyclePollardSpec)

/-- ITS FALSE NEIGHBOUR: 'it returns false'. Refute it at one input. -/
def cyclePollardWrong : ChangeSpec := { name := "cyclePollard", fn := fun _ => fun
  | [d1, d2, d3] => { results := [.lit (.bool false)], args := [d1, d2, d3] }
  | _ => none }
def CyclePollardWrongFalsely : Prop := cyclePollardRow.holds Try.pinned (OpenSpec.ofChange cyclePollardWrong)

/- THE SECOND FORM. 'bulk': how many values and letters a reading holds, each counted each time it is reached (what is shared counts as often as it is met; a slice's spare places count too). A statement '..UptoSaid' is the law's where the arguments, and the package variables that the reading takes, are together of bulk at most 1048576: NARROWER than '..Said'. Prove '..Said' where nothing that the law and all that it calls make is longer than what came in: it says more and counts as full. Else prove '..UptoSaid'. A law counts once. -/
mutual
def uptoBulk {H : Type} : DataW H → Nat
  | .lit (.string bytes) => bytes.length + 1
  | .lit _ => 1
  | .nil => 1
  | .ptr d => uptoBulk d + 1
  | .slice elems spare => uptoBulkAll elems + uptoBulkAll spare + 1
  | .agg parts => uptoBulkAll parts + 1
  | .iface _ d => uptoBulk d + 1
  | .map entries => uptoBulkEntries entries + 1
  | .held _ => 1
def uptoBulkAll {H : Type} : List (DataW H) → Nat
  | [] => 0
  | d :: r => uptoBulk d + uptoBulkAll r
def uptoBulkEntries {H : Type} : List (Lit × DataW H) → Nat
  | [] => 0
  | x :: r => uptoBulkEntry x + uptoBulkEntries r
def uptoBulkEntry {H : Type} : Lit × DataW H → Nat
  | (.string bytes, d) => bytes.length + uptoBulk d + 1
  | (_, d) => uptoBulk d + 1
 end
def uptoSmall : (H : Type) → List (DataW H) → Bool := fun _ ds => decide (uptoBulkAll ds ≤ 1048576)
def OpenSpec.upto (s : _root_.Go.ChangeSpec) : _root_.Go.OpenSpec := { _root_.Go.OpenSpec.ofChange s with cond := some uptoSmall }

/-- 'lockwrightlaw.CycleTells', WHERE WHAT IT READS IS OF BULK AT MOST 1048576: true; the input reads as it did. -/
def cycleTellsUptoRow : OpenClaim := { program := "ytjfgnpgbphdalaa", sum := "075d85c47fa2cc0d5fda255794f4e188e468c609dcc5dd63cf9327d113ce3a02", func := "lockwright/lockwrightlaw.CycleTells", spec := "cycleTells", apart := false, narrowed := true }
def CycleTellsUptoSaid : Prop := cycleTellsUptoRow.holds Try.pinned (OpenSpec.upto cycleTellsSpec)

/-- 'lockwrightlaw.CycleSplits', WHERE WHAT IT READS IS OF BULK AT MOST 1048576: true; the input reads as it did. -/
def cycleSplitsUptoRow : OpenClaim := { program := "ytjfgnpgbphdalaa", sum := "075d85c47fa2cc0d5fda255794f4e188e468c609dcc5dd63cf9327d113ce3a02", func := "lockwright/lockwrightlaw.CycleSplits", spec := "cycleSplits", apart := false, narrowed := true }
def CycleSplitsUptoSaid : Prop := cycleSplitsUptoRow.holds Try.pinned (OpenSpec.upto cycleSplitsSpec)

/-- 'lockwrightkeep.CycleReturns', WHERE WHAT IT READS IS OF BULK AT MOST 1048576: true; the input reads as it did. -/
def cycleReturnsUptoRow : OpenClaim := { program := "ytjfgnpgbphdalaa", sum := "075d85c47fa2cc0d5fda255794f4e188e468c609dcc5dd63cf9327d113ce3a02", func := "lockwright/lockwrightkeep.CycleReturns", spec := "cycleReturns", apart := false, narrowed := true }
def CycleReturnsUptoSaid : Prop := cycleReturnsUptoRow.holds Try.pinned (OpenSpec.upto cycleReturnsSpec)

/-- 'lockwrightkeep.CyclePollard', WHERE WHAT IT READS IS OF BULK AT MOST 1048576: true; the input reads as it did. -/
def cyclePollardUptoRow : OpenClaim := { program := "ytjfgnpgbphdalaa", sum := "075d85c47fa2cc0d5fda255794f4e188e468c609dcc5dd63cf9327d113ce3a02", func := "lockwright/lockwrightkeep.CyclePollard", spec := "cyclePollard", apart := false, narrowed := true }
def CyclePollardUptoSaid : Prop := cyclePollardUptoRow.holds Try.pinned (OpenSpec.upto cyclePollardSpec)

end Rows
end Go.Proofs.Ytjfgnpgbphdalaa
