/-
  No cell of these rows narrows 'for every input' (looked for: loops, veiled, ifaces, maps, wideKeys, modest, calm, conditions, laid).
  DERIVED. THE GIVEN ROWS OF THIS SEAT. 5 by the template 'for every input the law returns true; each argument reads behind the call as it read before'; 0 by the template 'total and deterministic' (their statements: YtfomanpehfdnbaaTotals.lean).
  GIVEN WITH THE SEED: the statements are not yours to turn. If you find one false, say at which input.
  Laid BY PROGRAM, IN A SANDBOX (cutbox-rows.mjs): the forced cells as the released guide's own fill.sh prints them over the translation bf592cf5a5b46c72… (all of the seat's roots in one cut). By AI agents, Wed Nov 11 2026. No macro, syntax, notation, axiom, sorry.
-/
import Derived.Test.YtfomanpehfdnbaaChecked
import GoSem.Claim
import GoSem.ClaimJoined
import GoSem.ClaimMapViews
import Derived.JoinedTies
import Derived.KernelRfl
namespace Go.Proofs.Ytfomanpehfdnbaa
/- THE CELL 'sum', in the pinned program and in every row, IS THE sha256 OF THE DUMP (.gsa) THAT YtfomanpehfdnbaaProg.lean LOADS. Nothing in Lean hashes anything: it is a label: what it is worth is what the hold of that sum in a sandbox is worth. -/
noncomputable def Try.pinned : Pinned := { name := "ytfomanpehfdnbaa", sum := "bf592cf5a5b46c729d613e65043a41f47b0f29901210eccdbd301f0a501e2a3d", checked := Try.checked }
namespace Rows
def none {H : Type} : Left H := { results := [], args := [] }

/-- 'lockwrightlaw.ShiftRuns': WHATEVER THE INPUT: true; the input reads as it did. -/
def shiftRunsSpec : ChangeSpec := { name := "shiftRuns", fn := fun _ => fun
  | [d1, d2, d3] => { results := [.lit (.bool true)], args := [d1, d2, d3] }
  | _ => none }
def shiftRunsRow : OpenClaim := { program := "ytfomanpehfdnbaa", sum := "bf592cf5a5b46c729d613e65043a41f47b0f29901210eccdbd301f0a501e2a3d", func := "lockwright/lockwrightlaw.ShiftRuns", spec := "shiftRuns", apart := false }
def ShiftRunsSaid : Prop := shiftRunsRow.holds Try.pinned (OpenSpec.ofChange shiftRunsSpec)

/-- ITS FALSE NEIGHBOUR: 'it returns false'. Refute it at one input. -/
def shiftRunsWrong : ChangeSpec := { name := "shiftRuns", fn := fun _ => fun
  | [d1, d2, d3] => { results := [.lit (.bool false)], args := [d1, d2, d3] }
  | _ => none }
def ShiftRunsWrongFalsely : Prop := shiftRunsRow.holds Try.pinned (OpenSpec.ofChange shiftRunsWrong)

/-- 'lockwrightlaw.ShiftShort': WHATEVER THE INPUT: true; the input reads as it did. -/
def shiftShortSpec : ChangeSpec := { name := "shiftShort", fn := fun _ => fun
  | [d] => { results := [.lit (.bool true)], args := [d] }
  | _ => none }
def shiftShortRow : OpenClaim := { program := "ytfomanpehfdnbaa", sum := "bf592cf5a5b46c729d613e65043a41f47b0f29901210eccdbd301f0a501e2a3d", func := "lockwright/lockwrightlaw.ShiftShort", spec := "shiftShort", apart := false }
def ShiftShortSaid : Prop := shiftShortRow.holds Try.pinned (OpenSpec.ofChange shiftShortSpec)

/-- ITS FALSE NEIGHBOUR: 'it returns false'. Refute it at one input. -/
def shiftShortWrong : ChangeSpec := { name := "shiftShort", fn := fun _ => fun
  | [d] => { results := [.lit (.bool false)], args := [d] }
  | _ => none }
def ShiftShortWrongFalsely : Prop := shiftShortRow.holds Try.pinned (OpenSpec.ofChange shiftShortWrong)

/-- 'lockwrightkeep.ShiftMakes': WHATEVER THE INPUT: true; the input reads as it did. -/
def shiftMakesSpec : ChangeSpec := { name := "shiftMakes", fn := fun _ => fun
  | [d1, d2] => { results := [.lit (.bool true)], args := [d1, d2] }
  | _ => none }
def shiftMakesRow : OpenClaim := { program := "ytfomanpehfdnbaa", sum := "bf592cf5a5b46c729d613e65043a41f47b0f29901210eccdbd301f0a501e2a3d", func := "lockwright/lockwrightkeep.ShiftMakes", spec := "shiftMakes", apart := false }
def ShiftMakesSaid : Prop := shiftMakesRow.holds Try.pinned (OpenSpec.ofChange shiftMakesSpec)

/-- ITS FALSE NEIGHBOUR: 'it returns false'. Refute it at one input. -/
def shiftMakesWrong : ChangeSpec := { name := "shiftMakes", fn := fun _ => fun
  | [d1, d2] => { results := [.lit (.bool false)], args := [d1, d2] }
  | _ => none }
def ShiftMakesWrongFalsely : Prop := shiftMakesRow.holds Try.pinned (OpenSpec.ofChange shiftMakesWrong)

/-- 'lockwrightkeep.ShiftOnly': WHATEVER THE INPUT: true; the input reads as it did. -/
def shiftOnlySpec : ChangeSpec := { name := "shiftOnly", fn := fun _ => fun
  | [d1, d2] => { results := [.lit (.bool true)], args := [d1, d2] }
  | _ => none }
def shiftOnlyRow : OpenClaim := { program := "ytfomanpehfdnbaa", sum := "bf592cf5a5b46c729d613e65043a41f47b0f29901210eccdbd301f0a501e2a3d", func := "lockwright/lockwrightkeep.ShiftOnly", spec := "shiftOnly", apart := false }
def ShiftOnlySaid : Prop := shiftOnlyRow.holds Try.pinned (OpenSpec.ofChange shiftOnlySpec)

/-- ITS FALSE NEIGHBOUR: 'it returns false'. Refute it at one input. -/
def shiftOnlyWrong : ChangeSpec := { name := "shiftOnly", fn := fun _ => fun
  | [d1, d2] => { results := [.lit (.bool false)], args := [d1, d2] }
  | _ => none }
def ShiftOnlyWrongFalsely : Prop := shiftOnlyRow.holds Try.pinned (OpenSpec.ofChange shiftOnlyWrong)

/-- 'lockwrightkeep.ShiftGrows': WHATEVER THE INPUT: true; the input reads as it did. -/
def shiftGrowsSpec : ChangeSpec := { name := "shiftGrows", fn := fun _ => fun
  | [d1, d2] => { results := [.lit (.bool true)], args := [d1, d2] }
  | _ => none }
def shiftGrowsRow : OpenClaim := { program := "ytfomanpehfdnbaa", sum := "bf592cf5a5b46c729d613e65043a41f47b0f29901210eccdbd301f0a501e2a3d", func := "lockwright/lockwrightkeep.ShiftGrows", spec := "shiftGrows", apart := false }
def ShiftGrowsSaid : Prop := shiftGrowsRow.holds Try.pinned (OpenSpec.ofChange shiftGrowsSpec)

/-- ITS FALSE NEIGHBOUR: 'it returns false'. Refute it at one input. -/
def shiftGrowsWrong : ChangeSpec := { name := "shiftGrows", fn := fun _ => fun
  | [d1, d2] => { results := [.lit (.bool false)], args := [d1, d2] }
  | _ => none }
def ShiftGrowsWrongFalsely : Prop := shiftGrowsRow.holds Try.pinned (OpenSpec.ofChange shiftGrowsWrong)

/- THE SECOND FORM. 'bulk': how many values and letters a reading holds, each counted each time it is reached (what is shared counts as often as it is met; a slice's spare places count too). A statement '..UptoSaid' is the law's where the arguments, and the package variables that the reading takes, are together of bulk at most 1048576: NARROWER than '..Said'. Prove '..Said' where nothing that the law and all that it calls make is longer than what came in: it says more and counts as full. Else prove '..UptoSaid'. A law counts once. -/
mutual
def uptoBulk {H : Type} : DataW H → Nat
  | .lit (.string bytes) => bytes.length + 1
  | .lit _ => 1
  | .nil => 1
  | .ptr d => uptoBulk d + 1
  | .slice elems spare => uptoBulkAll elems + uptoBulkAll spare + 1
  | .agg parts => uptoBulkAll parts + 1
  | .iface _ d => uptoBulk d + 1
  | .map entries => uptoBulkEntries entries + 1
  | .held _ => 1
def uptoBulkAll {H : Type} : List (DataW H) → Nat
  | [] => 0
  | d :: r => uptoBulk d + uptoBulkAll r
def uptoBulkEntries {H : Type} : List (Lit × DataW H) → Nat
  | [] => 0
  | x :: r => uptoBulkEntry x + uptoBulkEntries r
def uptoBulkEntry {H : Type} : Lit × DataW H → Nat
  | (.string bytes, d) => bytes.length + uptoBulk d + 1
  | (_, d) => uptoBulk d + 1
 end
def uptoSmall : (H : Type) → List (DataW H) → Bool := fun _ ds => decide (uptoBulkAll ds ≤ 1048576)
def OpenSpec.upto (s : _root_.Go.ChangeSpec) : _root_.Go.OpenSpec := { _root_.Go.OpenSpec.ofChange s with cond := some uptoSmall }

/-- 'lockwrightlaw.ShiftRuns', WHERE WHAT IT READS IS OF BULK AT MOST 1048576: true; the input reads as it did. -/
def shiftRunsUptoRow : OpenClaim := { program := "ytfomanpehfdnbaa", sum := "bf592cf5a5b46c729d613e65043a41f47b0f29901210eccdbd301f0a501e2a3d", func := "lockwright/lockwrightlaw.ShiftRuns", spec := "shiftRuns", apart := false, narrowed := true }
def ShiftRunsUptoSaid : Prop := shiftRunsUptoRow.holds Try.pinned (OpenSpec.upto shiftRunsSpec)

/-- 'lockwrightlaw.ShiftShort', WHERE WHAT IT READS IS OF BULK AT MOST 1048576: true; the input reads as it did. -/
def shiftShortUptoRow : OpenClaim := { program := "ytfomanpehfdnbaa", sum := "bf592cf5a5b46c729d613e65043a41f47b0f29901210eccdbd301f0a501e2a3d", func := "lockwright/lockwrightlaw.ShiftShort", spec := "shiftShort", apart := false, narrowed := true }
def ShiftShortUptoSaid : Prop := shiftShortUptoRow.holds Try.pinned (OpenSpec.upto shiftShortSpec)

/-- 'lockwrightkeep.ShiftMakes', WHERE WHAT IT READS IS OF BULK AT MOST 1048576: true; the input reads as it did. -/
def shiftMakesUptoRow : OpenClaim := { program := "ytfomanpehfdnbaa", sum := "bf592cf5a5b46c729d613e65043a41f47b0f29901210eccdbd301f0a501e2a3d", func := "lockwright/lockwrightkeep.ShiftMakes", spec := "shiftMakes", apart := false, narrowed := true }
def ShiftMakesUptoSaid : Prop := shiftMakesUptoRow.holds Try.pinned (OpenSpec.upto shiftMakesSpec)

/-- 'lockwrightkeep.ShiftOnly', WHERE WHAT IT READS IS OF BULK AT MOST 1048576: true; the input reads as it did. -/
def shiftOnlyUptoRow : OpenClaim := { program := "ytfomanpehfdnbaa", sum := "bf592cf5a5b46c729d613e65043a41f47b0f29901210eccdbd301f0a501e2a3d", func := "lockwright/lockwrightkeep.ShiftOnly", spec := "shiftOnly", apart := false, narrowed := true }
def ShiftOnlyUptoSaid : Prop := shiftOnlyUptoRow.holds Try.pinned (OpenSpec.upto shiftOnlySpec)

/-- 'lockwrightkeep.ShiftGrows', WHERE WHAT IT READS IS OF BULK AT MOST 1048576: true; the input reads as it did. -/
def shiftGrowsUptoRow : OpenClaim := { program := "ytfomanpehfdnbaa", sum := "bf592cf5a5b46c729d613e65043a41f47b0f29901210eccdbd301f0a501e2a3d", func := "lockwright/lockwrightkeep.ShiftGrows", spec := "shiftGrows", apart := false, narrowed := true }
def ShiftGrowsUptoSaid : Prop := shiftGrowsUptoRow.holds Try.pinned (OpenSpec.upto shiftGrowsSpec)

end Rows
end Go.Proofs.Ytfomanpehfdnbaa
