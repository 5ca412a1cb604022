/-
  No cell of these rows narrows 'for every input' (looked for: loops, veiled, ifaces, maps, wideKeys, modest, calm, conditions, laid).
  DERIVED. THE GIVEN ROWS OF THIS SEAT. 6 by the template 'for every input the law returns true; each argument reads behind the call as it read before'; 0 by the template 'total and deterministic' (their statements: YtpnjpkmlfbcnjaaTotals.lean).
  GIVEN WITH THE SEED: the statements are not yours to turn. If you find one false, say at which input.
  Laid BY PROGRAM, IN A SANDBOX (cutbox-rows.mjs): the forced cells as the released guide's own fill.sh prints them over the translation 4498ae00044efd86… (all of the seat's roots in one cut). By AI agents, Wed Nov 11 2026. No macro, syntax, notation, axiom, sorry.
-/
import Derived.Test.YtpnjpkmlfbcnjaaChecked
import GoSem.Claim
import GoSem.ClaimJoined
import GoSem.ClaimMapViews
import Derived.JoinedTies
import Derived.KernelRfl
namespace Go.Proofs.Ytpnjpkmlfbcnjaa
/- THE CELL 'sum', in the pinned program and in every row, IS THE sha256 OF THE DUMP (.gsa) THAT YtpnjpkmlfbcnjaaProg.lean LOADS. Nothing in Lean hashes anything: it is a label: what it is worth is what the hold of that sum in a sandbox is worth. -/
noncomputable def Try.pinned : Pinned := { name := "ytpnjpkmlfbcnjaa", sum := "4498ae00044efd8661a4a090568830a99fa165b4a021f994461180dd425e42ef", checked := Try.checked }
namespace Rows
def none {H : Type} : Left H := { results := [], args := [] }

/-- 'lockwrightlaw.WalshWaves': WHATEVER THE INPUT: true; the input reads as it did. -/
def walshWavesSpec : ChangeSpec := { name := "walshWaves", fn := fun _ => fun
  | [d1, d2] => { results := [.lit (.bool true)], args := [d1, d2] }
  | _ => none }
def walshWavesRow : OpenClaim := { program := "ytpnjpkmlfbcnjaa", sum := "4498ae00044efd8661a4a090568830a99fa165b4a021f994461180dd425e42ef", func := "lockwright/lockwrightlaw.WalshWaves", spec := "walshWaves", unfollowed := true, recurses := true, apart := false }
def WalshWavesSaid : Prop := walshWavesRow.holds Try.pinned (OpenSpec.ofChange walshWavesSpec)

/-- ITS FALSE NEIGHBOUR: 'it returns false'. Refute it at one input. -/
def walshWavesWrong : ChangeSpec := { name := "walshWaves", fn := fun _ => fun
  | [d1, d2] => { results := [.lit (.bool false)], args := [d1, d2] }
  | _ => none }
def WalshWavesWrongFalsely : Prop := walshWavesRow.holds Try.pinned (OpenSpec.ofChange walshWavesWrong)

/-- 'lockwrightlaw.WalshSums': WHATEVER THE INPUT: true; the input reads as it did. -/
def walshSumsSpec : ChangeSpec := { name := "walshSums", fn := fun _ => fun
  | [d1, d2] => { results := [.lit (.bool true)], args := [d1, d2] }
  | _ => none }
def walshSumsRow : OpenClaim := { program := "ytpnjpkmlfbcnjaa", sum := "4498ae00044efd8661a4a090568830a99fa165b4a021f994461180dd425e42ef", func := "lockwright/lockwrightlaw.WalshSums", spec := "walshSums", unfollowed := true, recurses := true, apart := false }
def WalshSumsSaid : Prop := walshSumsRow.holds Try.pinned (OpenSpec.ofChange walshSumsSpec)

/-- ITS FALSE NEIGHBOUR: 'it returns false'. Refute it at one input. -/
def walshSumsWrong : ChangeSpec := { name := "walshSums", fn := fun _ => fun
  | [d1, d2] => { results := [.lit (.bool false)], args := [d1, d2] }
  | _ => none }
def WalshSumsWrongFalsely : Prop := walshSumsRow.holds Try.pinned (OpenSpec.ofChange walshSumsWrong)

/-- 'lockwrightlaw.WalshDegrees': WHATEVER THE INPUT: true; the input reads as it did. -/
def walshDegreesSpec : ChangeSpec := { name := "walshDegrees", fn := fun _ => fun
  | [d1, d2] => { results := [.lit (.bool true)], args := [d1, d2] }
  | _ => none }
def walshDegreesRow : OpenClaim := { program := "ytpnjpkmlfbcnjaa", sum := "4498ae00044efd8661a4a090568830a99fa165b4a021f994461180dd425e42ef", func := "lockwright/lockwrightlaw.WalshDegrees", spec := "walshDegrees", unfollowed := true, recurses := true, apart := false }
def WalshDegreesSaid : Prop := walshDegreesRow.holds Try.pinned (OpenSpec.ofChange walshDegreesSpec)

/-- ITS FALSE NEIGHBOUR: 'it returns false'. Refute it at one input. -/
def walshDegreesWrong : ChangeSpec := { name := "walshDegrees", fn := fun _ => fun
  | [d1, d2] => { results := [.lit (.bool false)], args := [d1, d2] }
  | _ => none }
def WalshDegreesWrongFalsely : Prop := walshDegreesRow.holds Try.pinned (OpenSpec.ofChange walshDegreesWrong)

/-- 'lockwrightlaw.WalshImmune': WHATEVER THE INPUT: true; the input reads as it did. -/
def walshImmuneSpec : ChangeSpec := { name := "walshImmune", fn := fun _ => fun
  | [d1, d2, d3] => { results := [.lit (.bool true)], args := [d1, d2, d3] }
  | _ => none }
def walshImmuneRow : OpenClaim := { program := "ytpnjpkmlfbcnjaa", sum := "4498ae00044efd8661a4a090568830a99fa165b4a021f994461180dd425e42ef", func := "lockwright/lockwrightlaw.WalshImmune", spec := "walshImmune", unfollowed := true, recurses := true, apart := false }
def WalshImmuneSaid : Prop := walshImmuneRow.holds Try.pinned (OpenSpec.ofChange walshImmuneSpec)

/-- ITS FALSE NEIGHBOUR: 'it returns false'. Refute it at one input. -/
def walshImmuneWrong : ChangeSpec := { name := "walshImmune", fn := fun _ => fun
  | [d1, d2, d3] => { results := [.lit (.bool false)], args := [d1, d2, d3] }
  | _ => none }
def WalshImmuneWrongFalsely : Prop := walshImmuneRow.holds Try.pinned (OpenSpec.ofChange walshImmuneWrong)

/-- 'lockwrightkeep.WalshParseval': WHATEVER THE INPUT: true; the input reads as it did. -/
def walshParsevalSpec : ChangeSpec := { name := "walshParseval", fn := fun _ => fun
  | [d1, d2] => { results := [.lit (.bool true)], args := [d1, d2] }
  | _ => none }
def walshParsevalRow : OpenClaim := { program := "ytpnjpkmlfbcnjaa", sum := "4498ae00044efd8661a4a090568830a99fa165b4a021f994461180dd425e42ef", func := "lockwright/lockwrightkeep.WalshParseval", spec := "walshParseval", unfollowed := true, recurses := true, apart := false }
def WalshParsevalSaid : Prop := walshParsevalRow.holds Try.pinned (OpenSpec.ofChange walshParsevalSpec)

/-- ITS FALSE NEIGHBOUR: 'it returns false'. Refute it at one input. -/
def walshParsevalWrong : ChangeSpec := { name := "walshParseval", fn := fun _ => fun
  | [d1, d2] => { results := [.lit (.bool false)], args := [d1, d2] }
  | _ => none }
def WalshParsevalWrongFalsely : Prop := walshParsevalRow.holds Try.pinned (OpenSpec.ofChange walshParsevalWrong)

/-- 'lockwrightkeep.WalshBack': WHATEVER THE INPUT: true; the input reads as it did. -/
def walshBackSpec : ChangeSpec := { name := "walshBack", fn := fun _ => fun
  | [d1, d2] => { results := [.lit (.bool true)], args := [d1, d2] }
  | _ => none }
def walshBackRow : OpenClaim := { program := "ytpnjpkmlfbcnjaa", sum := "4498ae00044efd8661a4a090568830a99fa165b4a021f994461180dd425e42ef", func := "lockwright/lockwrightkeep.WalshBack", spec := "walshBack", unfollowed := true, recurses := true, apart := false }
def WalshBackSaid : Prop := walshBackRow.holds Try.pinned (OpenSpec.ofChange walshBackSpec)

/-- ITS FALSE NEIGHBOUR: 'it returns false'. Refute it at one input. -/
def walshBackWrong : ChangeSpec := { name := "walshBack", fn := fun _ => fun
  | [d1, d2] => { results := [.lit (.bool false)], args := [d1, d2] }
  | _ => none }
def WalshBackWrongFalsely : Prop := walshBackRow.holds Try.pinned (OpenSpec.ofChange walshBackWrong)

/- THE SECOND FORM. 'bulk': how many values and letters a reading holds, each counted each time it is reached (what is shared counts as often as it is met; a slice's spare places count too). A statement '..UptoSaid' is the law's where the arguments, and the package variables that the reading takes, are together of bulk at most 1048576: NARROWER than '..Said'. Prove '..Said' where nothing that the law and all that it calls make is longer than what came in: it says more and counts as full. Else prove '..UptoSaid'. A law counts once. -/
mutual
def uptoBulk {H : Type} : DataW H → Nat
  | .lit (.string bytes) => bytes.length + 1
  | .lit _ => 1
  | .nil => 1
  | .ptr d => uptoBulk d + 1
  | .slice elems spare => uptoBulkAll elems + uptoBulkAll spare + 1
  | .agg parts => uptoBulkAll parts + 1
  | .iface _ d => uptoBulk d + 1
  | .map entries => uptoBulkEntries entries + 1
  | .held _ => 1
def uptoBulkAll {H : Type} : List (DataW H) → Nat
  | [] => 0
  | d :: r => uptoBulk d + uptoBulkAll r
def uptoBulkEntries {H : Type} : List (Lit × DataW H) → Nat
  | [] => 0
  | x :: r => uptoBulkEntry x + uptoBulkEntries r
def uptoBulkEntry {H : Type} : Lit × DataW H → Nat
  | (.string bytes, d) => bytes.length + uptoBulk d + 1
  | (_, d) => uptoBulk d + 1
 end
def uptoSmall : (H : Type) → List (DataW H) → Bool := fun _ ds => decide (uptoBulkAll ds ≤ 1048576)
def OpenSpec.upto (s : _root_.Go.ChangeSpec) : _root_.Go.OpenSpec := { _root_.Go.OpenSpec.ofChange s with cond := some uptoSmall }

/-- 'lockwrightlaw.WalshWaves', WHERE WHAT IT READS IS OF BULK AT MOST 1048576: true; the input reads as it did. -/
def walshWavesUptoRow : OpenClaim := { program := "ytpnjpkmlfbcnjaa", sum := "4498ae00044efd8661a4a090568830a99fa165b4a021f994461180dd425e42ef", func := "lockwright/lockwrightlaw.WalshWaves", spec := "walshWaves", unfollowed := true, recurses := true, apart := false, narrowed := true }
def WalshWavesUptoSaid : Prop := walshWavesUptoRow.holds Try.pinned (OpenSpec.upto walshWavesSpec)

/-- 'lockwrightlaw.WalshSums', WHERE WHAT IT READS IS OF BULK AT MOST 1048576: true; the input reads as it did. -/
def walshSumsUptoRow : OpenClaim := { program := "ytpnjpkmlfbcnjaa", sum := "4498ae00044efd8661a4a090568830a99fa165b4a021f994461180dd425e42ef", func := "lockwright/lockwrightlaw.WalshSums", spec := "walshSums", unfollowed := true, recurses := true, apart := false, narrowed := true }
def WalshSumsUptoSaid : Prop := walshSumsUptoRow.holds Try.pinned (OpenSpec.upto walshSumsSpec)

/-- 'lockwrightlaw.WalshDegrees', WHERE WHAT IT READS IS OF BULK AT MOST 1048576: true; the input reads as it did. -/
def walshDegreesUptoRow : OpenClaim := { program := "ytpnjpkmlfbcnjaa", sum := "4498ae00044efd8661a4a090568830a99fa165b4a021f994461180dd425e42ef", func := "lockwright/lockwrightlaw.WalshDegrees", spec := "walshDegrees", unfollowed := true, recurses := true, apart := false, narrowed := true }
def WalshDegreesUptoSaid : Prop := walshDegreesUptoRow.holds Try.pinned (OpenSpec.upto walshDegreesSpec)

/-- 'lockwrightlaw.WalshImmune', WHERE WHAT IT READS IS OF BULK AT MOST 1048576: true; the input reads as it did. -/
def walshImmuneUptoRow : OpenClaim := { program := "ytpnjpkmlfbcnjaa", sum := "4498ae00044efd8661a4a090568830a99fa165b4a021f994461180dd425e42ef", func := "lockwright/lockwrightlaw.WalshImmune", spec := "walshImmune", unfollowed := true, recurses := true, apart := false, narrowed := true }
def WalshImmuneUptoSaid : Prop := walshImmuneUptoRow.holds Try.pinned (OpenSpec.upto walshImmuneSpec)

/-- 'lockwrightkeep.WalshParseval', WHERE WHAT IT READS IS OF BULK AT MOST 1048576: true; the input reads as it did. -/
def walshParsevalUptoRow : OpenClaim := { program := "ytpnjpkmlfbcnjaa", sum := "4498ae00044efd8661a4a090568830a99fa165b4a021f994461180dd425e42ef", func := "lockwright/lockwrightkeep.WalshParseval", spec := "walshParseval", unfollowed := true, recurses := true, apart := false, narrowed := true }
def WalshParsevalUptoSaid : Prop := walshParsevalUptoRow.holds Try.pinned (OpenSpec.upto walshParsevalSpec)

/-- 'lockwrightkeep.WalshBack', WHERE WHAT IT READS IS OF BULK AT MOST 1048576: true; the input reads as it did. -/
def walshBackUptoRow : OpenClaim := { program := "ytpnjpkmlfbcnjaa", sum := "4498ae00044efd8661a4a090568830a99fa165b4a021f994461180dd425e42ef", func := "lockwright/lockwrightkeep.WalshBack", spec := "walshBack", unfollowed := true, recurses := true, apart := false, narrowed := true }
def WalshBackUptoSaid : Prop := walshBackUptoRow.holds Try.pinned (OpenSpec.upto walshBackSpec)

end Rows
end Go.Proofs.Ytpnjpkmlfbcnjaa
