/-
  No cell of these rows narrows 'for every input' (looked for: loops, veiled, ifaces, maps, wideKeys, modest, calm, conditions, laid).
  DERIVED. THE GIVEN ROWS OF THIS SEAT. 5 by the template 'for every input the law returns true; each argument reads behind the call as it read before'; 0 by the template 'total and deterministic' (their statements: YtoohnfcikapmlaaTotals.lean).
  GIVEN WITH THE SEED: the statements are not yours to turn. If you find one false, say at which input.
  Laid BY PROGRAM, IN A SANDBOX (cutbox-rows.mjs): the forced cells as the released guide's own fill.sh prints them over the translation a76a587a427347bb… (all of the seat's roots in one cut). By AI agents, Wed Nov 11 2026. No macro, syntax, notation, axiom, sorry.
-/
import Derived.Test.YtoohnfcikapmlaaChecked
import GoSem.Claim
import GoSem.ClaimJoined
import GoSem.ClaimMapViews
import Derived.JoinedTies
import Derived.KernelRfl
namespace Go.Proofs.Ytoohnfcikapmlaa
/- THE CELL 'sum', in the pinned program and in every row, IS THE sha256 OF THE DUMP (.gsa) THAT YtoohnfcikapmlaaProg.lean LOADS. Nothing in Lean hashes anything: it is a label: what it is worth is what the hold of that sum in a sandbox is worth. -/
noncomputable def Try.pinned : Pinned := { name := "ytoohnfcikapmlaa", sum := "a76a587a427347bbddf0d3d1017d2bb32e9dfb99856686e60e80a45ffc569913", checked := Try.checked }
namespace Rows
def none {H : Type} : Left H := { results := [], args := [] }

/-- 'lockwrightlaw.RsaLocks': WHATEVER THE INPUT: true; the input reads as it did. -/
def rsaLocksSpec : ChangeSpec := { name := "rsaLocks", fn := fun _ => fun
  | [d1, d2] => { results := [.lit (.bool true)], args := [d1, d2] }
  | _ => none }
def rsaLocksRow : OpenClaim := { program := "ytoohnfcikapmlaa", sum := "a76a587a427347bbddf0d3d1017d2bb32e9dfb99856686e60e80a45ffc569913", func := "lockwright/lockwrightlaw.RsaLocks", spec := "rsaLocks", recurses := true, apart := false }
def RsaLocksSaid : Prop := rsaLocksRow.holds Try.pinned (OpenSpec.ofChange rsaLocksSpec)

/-- ITS FALSE NEIGHBOUR: 'it returns false'. Refute it at one input. -/
def rsaLocksWrong : ChangeSpec := { name := "rsaLocks", fn := fun _ => fun
  | [d1, d2] => { results := [.lit (.bool false)], args := [d1, d2] }
  | _ => none }
def RsaLocksWrongFalsely : Prop := rsaLocksRow.holds Try.pinned (OpenSpec.ofChange rsaLocksWrong)

/-- 'lockwrightlaw.RsaUnlocks': WHATEVER THE INPUT: true; the input reads as it did. -/
def rsaUnlocksSpec : ChangeSpec := { name := "rsaUnlocks", fn := fun _ => fun
  | [d1, d2] => { results := [.lit (.bool true)], args := [d1, d2] }
  | _ => none }
def rsaUnlocksRow : OpenClaim := { program := "ytoohnfcikapmlaa", sum := "a76a587a427347bbddf0d3d1017d2bb32e9dfb99856686e60e80a45ffc569913", func := "lockwright/lockwrightlaw.RsaUnlocks", spec := "rsaUnlocks", recurses := true, apart := false }
def RsaUnlocksSaid : Prop := rsaUnlocksRow.holds Try.pinned (OpenSpec.ofChange rsaUnlocksSpec)

/-- ITS FALSE NEIGHBOUR: 'it returns false'. Refute it at one input. -/
def rsaUnlocksWrong : ChangeSpec := { name := "rsaUnlocks", fn := fun _ => fun
  | [d1, d2] => { results := [.lit (.bool false)], args := [d1, d2] }
  | _ => none }
def RsaUnlocksWrongFalsely : Prop := rsaUnlocksRow.holds Try.pinned (OpenSpec.ofChange rsaUnlocksWrong)

/-- 'lockwrightlaw.RsaParts': WHATEVER THE INPUT: true; the input reads as it did. -/
def rsaPartsSpec : ChangeSpec := { name := "rsaParts", fn := fun _ => fun
  | [d1, d2, d3, d4] => { results := [.lit (.bool true)], args := [d1, d2, d3, d4] }
  | _ => none }
def rsaPartsRow : OpenClaim := { program := "ytoohnfcikapmlaa", sum := "a76a587a427347bbddf0d3d1017d2bb32e9dfb99856686e60e80a45ffc569913", func := "lockwright/lockwrightlaw.RsaParts", spec := "rsaParts", unfollowed := true, recurses := true, apart := false }
def RsaPartsSaid : Prop := rsaPartsRow.holds Try.pinned (OpenSpec.ofChange rsaPartsSpec)

/-- ITS FALSE NEIGHBOUR: 'it returns false'. Refute it at one input. -/
def rsaPartsWrong : ChangeSpec := { name := "rsaParts", fn := fun _ => fun
  | [d1, d2, d3, d4] => { results := [.lit (.bool false)], args := [d1, d2, d3, d4] }
  | _ => none }
def RsaPartsWrongFalsely : Prop := rsaPartsRow.holds Try.pinned (OpenSpec.ofChange rsaPartsWrong)

/-- 'lockwrightkeep.RsaOpens': WHATEVER THE INPUT: true; the input reads as it did. -/
def rsaOpensSpec : ChangeSpec := { name := "rsaOpens", fn := fun _ => fun
  | [d1, d2, d3, d4] => { results := [.lit (.bool true)], args := [d1, d2, d3, d4] }
  | _ => none }
def rsaOpensRow : OpenClaim := { program := "ytoohnfcikapmlaa", sum := "a76a587a427347bbddf0d3d1017d2bb32e9dfb99856686e60e80a45ffc569913", func := "lockwright/lockwrightkeep.RsaOpens", spec := "rsaOpens", unfollowed := true, recurses := true, apart := false }
def RsaOpensSaid : Prop := rsaOpensRow.holds Try.pinned (OpenSpec.ofChange rsaOpensSpec)

/-- ITS FALSE NEIGHBOUR: 'it returns false'. Refute it at one input. -/
def rsaOpensWrong : ChangeSpec := { name := "rsaOpens", fn := fun _ => fun
  | [d1, d2, d3, d4] => { results := [.lit (.bool false)], args := [d1, d2, d3, d4] }
  | _ => none }
def RsaOpensWrongFalsely : Prop := rsaOpensRow.holds Try.pinned (OpenSpec.ofChange rsaOpensWrong)

/-- 'lockwrightkeep.RsaMuls': WHATEVER THE INPUT: true; the input reads as it did. -/
def rsaMulsSpec : ChangeSpec := { name := "rsaMuls", fn := fun _ => fun
  | [d1, d2, d3] => { results := [.lit (.bool true)], args := [d1, d2, d3] }
  | _ => none }
def rsaMulsRow : OpenClaim := { program := "ytoohnfcikapmlaa", sum := "a76a587a427347bbddf0d3d1017d2bb32e9dfb99856686e60e80a45ffc569913", func := "lockwright/lockwrightkeep.RsaMuls", spec := "rsaMuls", apart := false }
def RsaMulsSaid : Prop := rsaMulsRow.holds Try.pinned (OpenSpec.ofChange rsaMulsSpec)

/-- ITS FALSE NEIGHBOUR: 'it returns false'. Refute it at one input. -/
def rsaMulsWrong : ChangeSpec := { name := "rsaMuls", fn := fun _ => fun
  | [d1, d2, d3] => { results := [.lit (.bool false)], args := [d1, d2, d3] }
  | _ => none }
def RsaMulsWrongFalsely : Prop := rsaMulsRow.holds Try.pinned (OpenSpec.ofChange rsaMulsWrong)

/- THE SECOND FORM. 'bulk': how many values and letters a reading holds, each counted each time it is reached (what is shared counts as often as it is met; a slice's spare places count too). A statement '..UptoSaid' is the law's where the arguments, and the package variables that the reading takes, are together of bulk at most 1048576: NARROWER than '..Said'. Prove '..Said' where nothing that the law and all that it calls make is longer than what came in: it says more and counts as full. Else prove '..UptoSaid'. A law counts once. -/
mutual
def uptoBulk {H : Type} : DataW H → Nat
  | .lit (.string bytes) => bytes.length + 1
  | .lit _ => 1
  | .nil => 1
  | .ptr d => uptoBulk d + 1
  | .slice elems spare => uptoBulkAll elems + uptoBulkAll spare + 1
  | .agg parts => uptoBulkAll parts + 1
  | .iface _ d => uptoBulk d + 1
  | .map entries => uptoBulkEntries entries + 1
  | .held _ => 1
def uptoBulkAll {H : Type} : List (DataW H) → Nat
  | [] => 0
  | d :: r => uptoBulk d + uptoBulkAll r
def uptoBulkEntries {H : Type} : List (Lit × DataW H) → Nat
  | [] => 0
  | x :: r => uptoBulkEntry x + uptoBulkEntries r
def uptoBulkEntry {H : Type} : Lit × DataW H → Nat
  | (.string bytes, d) => bytes.length + uptoBulk d + 1
  | (_, d) => uptoBulk d + 1
 end
def uptoSmall : (H : Type) → List (DataW H) → Bool := fun _ ds => decide (uptoBulkAll ds ≤ 1048576)
def OpenSpec.upto (s : _root_.Go.ChangeSpec) : _root_.Go.OpenSpec := { _root_.Go.OpenSpec.ofChange s with cond := some uptoSmall }

/-- 'lockwrightlaw.RsaLocks', WHERE WHAT IT READS IS OF BULK AT MOST 1048576: true; the input reads as it did. -/
def rsaLocksUptoRow : OpenClaim := { program := "ytoohnfcikapmlaa", sum := "a76a587a427347bbddf0d3d1017d2bb32e9dfb99856686e60e80a45ffc569913", func := "lockwright/lockwrightlaw.RsaLocks", spec := "rsaLocks", recurses := true, apart := false, narrowed := true }
def RsaLocksUptoSaid : Prop := rsaLocksUptoRow.holds Try.pinned (OpenSpec.upto rsaLocksSpec)

/-- 'lockwrightlaw.RsaUnlocks', WHERE WHAT IT READS IS OF BULK AT MOST 1048576: true; the input reads as it did. -/
def rsaUnlocksUptoRow : OpenClaim := { program := "ytoohnfcikapmlaa", sum := "a76a587a427347bbddf0d3d1017d2bb32e9dfb99856686e60e80a45ffc569913", func := "lockwright/lockwrightlaw.RsaUnlocks", spec := "rsaUnlocks", recurses := true, apart := false, narrowed := true }
def RsaUnlocksUptoSaid : Prop := rsaUnlocksUptoRow.holds Try.pinned (OpenSpec.upto rsaUnlocksSpec)

/-- 'lockwrightlaw.RsaParts', WHERE WHAT IT READS IS OF BULK AT MOST 1048576: true; the input reads as it did. -/
def rsaPartsUptoRow : OpenClaim := { program := "ytoohnfcikapmlaa", sum := "a76a587a427347bbddf0d3d1017d2bb32e9dfb99856686e60e80a45ffc569913", func := "lockwright/lockwrightlaw.RsaParts", spec := "rsaParts", unfollowed := true, recurses := true, apart := false, narrowed := true }
def RsaPartsUptoSaid : Prop := rsaPartsUptoRow.holds Try.pinned (OpenSpec.upto rsaPartsSpec)

/-- 'lockwrightkeep.RsaOpens', WHERE WHAT IT READS IS OF BULK AT MOST 1048576: true; the input reads as it did. -/
def rsaOpensUptoRow : OpenClaim := { program := "ytoohnfcikapmlaa", sum := "a76a587a427347bbddf0d3d1017d2bb32e9dfb99856686e60e80a45ffc569913", func := "lockwright/lockwrightkeep.RsaOpens", spec := "rsaOpens", unfollowed := true, recurses := true, apart := false, narrowed := true }
def RsaOpensUptoSaid : Prop := rsaOpensUptoRow.holds Try.pinned (OpenSpec.upto rsaOpensSpec)

/-- 'lockwrightkeep.RsaMuls', WHERE WHAT IT READS IS OF BULK AT MOST 1048576: true; the input reads as it did. -/
def rsaMulsUptoRow : OpenClaim := { program := "ytoohnfcikapmlaa", sum := "a76a587a427347bbddf0d3d1017d2bb32e9dfb99856686e60e80a45ffc569913", func := "lockwright/lockwrightkeep.RsaMuls", spec := "rsaMuls", apart := false, narrowed := true }
def RsaMulsUptoSaid : Prop := rsaMulsUptoRow.holds Try.pinned (OpenSpec.upto rsaMulsSpec)

end Rows
end Go.Proofs.Ytoohnfcikapmlaa
