/-
  No cell of these rows narrows 'for every input' (looked for: loops, veiled, ifaces, maps, wideKeys, modest, calm, conditions, laid).
  DERIVED. THE GIVEN ROWS OF THIS SEAT. 6 by the template 'for every input the law returns true; each argument reads behind the call as it read before'; 0 by the template 'total and deterministic' (their statements: YtilpdoihgfonhaaTotals.lean).
  GIVEN WITH THE SEED: the statements are not yours to turn. If you find one false, say at which input.
  Laid BY PROGRAM, IN A SANDBOX (cutbox-rows.mjs): the forced cells as the released guide's own fill.sh prints them over the translation dc080497e5cc5fd7… (all of the seat's roots in one cut). By AI agents, Wed Nov 11 2026. No macro, syntax, notation, axiom, sorry.
-/
import Derived.Test.YtilpdoihgfonhaaChecked
import GoSem.Claim
import GoSem.ClaimJoined
import GoSem.ClaimMapViews
import Derived.JoinedTies
import Derived.KernelRfl
namespace Go.Proofs.Ytilpdoihgfonhaa
/- THE CELL 'sum', in the pinned program and in every row, IS THE sha256 OF THE DUMP (.gsa) THAT YtilpdoihgfonhaaProg.lean LOADS. Nothing in Lean hashes anything: it is a label: what it is worth is what the hold of that sum in a sandbox is worth. -/
noncomputable def Try.pinned : Pinned := { name := "ytilpdoihgfonhaa", sum := "dc080497e5cc5fd722b9d6a089e538beba824371b99e6e7ddb3f14063b55894c", checked := Try.checked }
namespace Rows
def none {H : Type} : Left H := { results := [], args := [] }

/-- 'lockwrightlaw.GroupChecks': WHATEVER THE INPUT: true; the input reads as it did. -/
def groupChecksSpec : ChangeSpec := { name := "groupChecks", fn := fun _ => fun
  | [d] => { results := [.lit (.bool true)], args := [d] }
  | _ => none }
def groupChecksRow : OpenClaim := { program := "ytilpdoihgfonhaa", sum := "dc080497e5cc5fd722b9d6a089e538beba824371b99e6e7ddb3f14063b55894c", func := "lockwright/lockwrightlaw.GroupChecks", spec := "groupChecks", unfollowed := true, recurses := true, apart := false }
def GroupChecksSaid : Prop := groupChecksRow.holds Try.pinned (OpenSpec.ofChange groupChecksSpec)

/-- ITS FALSE NEIGHBOUR: 'it returns false'. Refute it at one input. -/
def groupChecksWrong : ChangeSpec := { name := "groupChecks", fn := fun _ => fun
  | [d] => { results := [.lit (.bool false)], args := [d] }
  | _ => none }
def GroupChecksWrongFalsely : Prop := groupChecksRow.holds Try.pinned (OpenSpec.ofChange groupChecksWrong)

/-- 'lockwrightlaw.GroupPublics': WHATEVER THE INPUT: true; the input reads as it did. -/
def groupPublicsSpec : ChangeSpec := { name := "groupPublics", fn := fun _ => fun
  | [d1, d2] => { results := [.lit (.bool true)], args := [d1, d2] }
  | _ => none }
def groupPublicsRow : OpenClaim := { program := "ytilpdoihgfonhaa", sum := "dc080497e5cc5fd722b9d6a089e538beba824371b99e6e7ddb3f14063b55894c", func := "lockwright/lockwrightlaw.GroupPublics", spec := "groupPublics", unfollowed := true, recurses := true, apart := false }
def GroupPublicsSaid : Prop := groupPublicsRow.holds Try.pinned (OpenSpec.ofChange groupPublicsSpec)

/-- ITS FALSE NEIGHBOUR: 'it returns false'. Refute it at one input. -/
def groupPublicsWrong : ChangeSpec := { name := "groupPublics", fn := fun _ => fun
  | [d1, d2] => { results := [.lit (.bool false)], args := [d1, d2] }
  | _ => none }
def GroupPublicsWrongFalsely : Prop := groupPublicsRow.holds Try.pinned (OpenSpec.ofChange groupPublicsWrong)

/-- 'lockwrightlaw.GroupShared': WHATEVER THE INPUT: true; the input reads as it did. -/
def groupSharedSpec : ChangeSpec := { name := "groupShared", fn := fun _ => fun
  | [d1, d2, d3] => { results := [.lit (.bool true)], args := [d1, d2, d3] }
  | _ => none }
def groupSharedRow : OpenClaim := { program := "ytilpdoihgfonhaa", sum := "dc080497e5cc5fd722b9d6a089e538beba824371b99e6e7ddb3f14063b55894c", func := "lockwright/lockwrightlaw.GroupShared", spec := "groupShared", unfollowed := true, recurses := true, apart := false }
def GroupSharedSaid : Prop := groupSharedRow.holds Try.pinned (OpenSpec.ofChange groupSharedSpec)

/-- ITS FALSE NEIGHBOUR: 'it returns false'. Refute it at one input. -/
def groupSharedWrong : ChangeSpec := { name := "groupShared", fn := fun _ => fun
  | [d1, d2, d3] => { results := [.lit (.bool false)], args := [d1, d2, d3] }
  | _ => none }
def GroupSharedWrongFalsely : Prop := groupSharedRow.holds Try.pinned (OpenSpec.ofChange groupSharedWrong)

/-- 'lockwrightlaw.GroupLocks': WHATEVER THE INPUT: true; the input reads as it did. -/
def groupLocksSpec : ChangeSpec := { name := "groupLocks", fn := fun _ => fun
  | [d1, d2, d3, d4] => { results := [.lit (.bool true)], args := [d1, d2, d3, d4] }
  | _ => none }
def groupLocksRow : OpenClaim := { program := "ytilpdoihgfonhaa", sum := "dc080497e5cc5fd722b9d6a089e538beba824371b99e6e7ddb3f14063b55894c", func := "lockwright/lockwrightlaw.GroupLocks", spec := "groupLocks", unfollowed := true, recurses := true, apart := false }
def GroupLocksSaid : Prop := groupLocksRow.holds Try.pinned (OpenSpec.ofChange groupLocksSpec)

/-- ITS FALSE NEIGHBOUR: 'it returns false'. Refute it at one input. -/
def groupLocksWrong : ChangeSpec := { name := "groupLocks", fn := fun _ => fun
  | [d1, d2, d3, d4] => { results := [.lit (.bool false)], args := [d1, d2, d3, d4] }
  | _ => none }
def GroupLocksWrongFalsely : Prop := groupLocksRow.holds Try.pinned (OpenSpec.ofChange groupLocksWrong)

/-- 'lockwrightlaw.GroupUnlocks': WHATEVER THE INPUT: true; the input reads as it did. -/
def groupUnlocksSpec : ChangeSpec := { name := "groupUnlocks", fn := fun _ => fun
  | [d1, d2, d3] => { results := [.lit (.bool true)], args := [d1, d2, d3] }
  | _ => none }
def groupUnlocksRow : OpenClaim := { program := "ytilpdoihgfonhaa", sum := "dc080497e5cc5fd722b9d6a089e538beba824371b99e6e7ddb3f14063b55894c", func := "lockwright/lockwrightlaw.GroupUnlocks", spec := "groupUnlocks", unfollowed := true, recurses := true, apart := false }
def GroupUnlocksSaid : Prop := groupUnlocksRow.holds Try.pinned (OpenSpec.ofChange groupUnlocksSpec)

/-- ITS FALSE NEIGHBOUR: 'it returns false'. Refute it at one input. -/
def groupUnlocksWrong : ChangeSpec := { name := "groupUnlocks", fn := fun _ => fun
  | [d1, d2, d3] => { results := [.lit (.bool false)], args := [d1, d2, d3] }
  | _ => none }
def GroupUnlocksWrongFalsely : Prop := groupUnlocksRow.holds Try.pinned (OpenSpec.ofChange groupUnlocksWrong)

/-- 'lockwrightlaw.GroupProducts': WHATEVER THE INPUT: true; the input reads as it did. -/
def groupProductsSpec : ChangeSpec := { name := "groupProducts", fn := fun _ => fun
  | [d1, d2, d3] => { results := [.lit (.bool true)], args := [d1, d2, d3] }
  | _ => none }
def groupProductsRow : OpenClaim := { program := "ytilpdoihgfonhaa", sum := "dc080497e5cc5fd722b9d6a089e538beba824371b99e6e7ddb3f14063b55894c", func := "lockwright/lockwrightlaw.GroupProducts", spec := "groupProducts", unfollowed := true, recurses := true, apart := false }
def GroupProductsSaid : Prop := groupProductsRow.holds Try.pinned (OpenSpec.ofChange groupProductsSpec)

/-- ITS FALSE NEIGHBOUR: 'it returns false'. Refute it at one input. -/
def groupProductsWrong : ChangeSpec := { name := "groupProducts", fn := fun _ => fun
  | [d1, d2, d3] => { results := [.lit (.bool false)], args := [d1, d2, d3] }
  | _ => none }
def GroupProductsWrongFalsely : Prop := groupProductsRow.holds Try.pinned (OpenSpec.ofChange groupProductsWrong)

/- THE SECOND FORM. 'bulk': how many values and letters a reading holds, each counted each time it is reached (what is shared counts as often as it is met; a slice's spare places count too). A statement '..UptoSaid' is the law's where the arguments, and the package variables that the reading takes, are together of bulk at most 1048576: NARROWER than '..Said'. Prove '..Said' where nothing that the law and all that it calls make is longer than what came in: it says more and counts as full. Else prove '..UptoSaid'. A law counts once. -/
mutual
def uptoBulk {H : Type} : DataW H → Nat
  | .lit (.string bytes) => bytes.length + 1
  | .lit _ => 1
  | .nil => 1
  | .ptr d => uptoBulk d + 1
  | .slice elems spare => uptoBulkAll elems + uptoBulkAll spare + 1
  | .agg parts => uptoBulkAll parts + 1
  | .iface _ d => uptoBulk d + 1
  | .map entries => uptoBulkEntries entries + 1
  | .held _ => 1
def uptoBulkAll {H : Type} : List (DataW H) → Nat
  | [] => 0
  | d :: r => uptoBulk d + uptoBulkAll r
def uptoBulkEntries {H : Type} : List (Lit × DataW H) → Nat
  | [] => 0
  | x :: r => uptoBulkEntry x + uptoBulkEntries r
def uptoBulkEntry {H : Type} : Lit × DataW H → Nat
  | (.string bytes, d) => bytes.length + uptoBulk d + 1
  | (_, d) => uptoBulk d + 1
 end
def uptoSmall : (H : Type) → List (DataW H) → Bool := fun _ ds => decide (uptoBulkAll ds ≤ 1048576)
def OpenSpec.upto (s : _root_.Go.ChangeSpec) : _root_.Go.OpenSpec := { _root_.Go.OpenSpec.ofChange s with cond := some uptoSmall }

/-- 'lockwrightlaw.GroupChecks', WHERE WHAT IT READS IS OF BULK AT MOST 1048576: true; the input reads as it did. -/
def groupChecksUptoRow : OpenClaim := { program := "ytilpdoihgfonhaa", sum := "dc080497e5cc5fd722b9d6a089e538beba824371b99e6e7ddb3f14063b55894c", func := "lockwright/lockwrightlaw.GroupChecks", spec := "groupChecks", unfollowed := true, recurses := true, apart := false, narrowed := true }
def GroupChecksUptoSaid : Prop := groupChecksUptoRow.holds Try.pinned (OpenSpec.upto groupChecksSpec)

/-- 'lockwrightlaw.GroupPublics', WHERE WHAT IT READS IS OF BULK AT MOST 1048576: true; the input reads as it did. -/
def groupPublicsUptoRow : OpenClaim := { program := "ytilpdoihgfonhaa", sum := "dc080497e5cc5fd722b9d6a089e538beba824371b99e6e7ddb3f14063b55894c", func := "lockwright/lockwrightlaw.GroupPublics", spec := "groupPublics", unfollowed := true, recurses := true, apart := false, narrowed := true }
def GroupPublicsUptoSaid : Prop := groupPublicsUptoRow.holds Try.pinned (OpenSpec.upto groupPublicsSpec)

/-- 'lockwrightlaw.GroupShared', WHERE WHAT IT READS IS OF BULK AT MOST 1048576: true; the input reads as it did. -/
def groupSharedUptoRow : OpenClaim := { program := "ytilpdoihgfonhaa", sum := "dc080497e5cc5fd722b9d6a089e538beba824371b99e6e7ddb3f14063b55894c", func := "lockwright/lockwrightlaw.GroupShared", spec := "groupShared", unfollowed := true, recurses := true, apart := false, narrowed := true }
def GroupSharedUptoSaid : Prop := groupSharedUptoRow.holds Try.pinned (OpenSpec.upto groupSharedSpec)

/-- 'lockwrightlaw.GroupLocks', WHERE WHAT IT READS IS OF BULK AT MOST 1048576: true; the input reads as it did. -/
def groupLocksUptoRow : OpenClaim := { program := "ytilpdoihgfonhaa", sum := "dc080497e5cc5fd722b9d6a089e538beba824371b99e6e7ddb3f14063b55894c", func := "lockwright/lockwrightlaw.GroupLocks", spec := "groupLocks", unfollowed := true, recurses := true, apart := false, narrowed := true }
def GroupLocksUptoSaid : Prop := groupLocksUptoRow.holds Try.pinned (OpenSpec.upto groupLocksSpec)

/-- 'lockwrightlaw.GroupUnlocks', WHERE WHAT IT READS IS OF BULK AT MOST 1048576: true; the input reads as it did. -/
def groupUnlocksUptoRow : OpenClaim := { program := "ytilpdoihgfonhaa", sum := "dc080497e5cc5fd722b9d6a089e538beba824371b99e6e7ddb3f14063b55894c", func := "lockwright/lockwrightlaw.GroupUnlocks", spec := "groupUnlocks", unfollowed := true, recurses := true, apart := false, narrowed := true }
def GroupUnlocksUptoSaid : Prop := groupUnlocksUptoRow.holds Try.pinned (OpenSpec.upto groupUnlocksSpec)

/-- 'lockwrightlaw.GroupProducts', WHERE WHAT IT READS IS OF BULK AT MOST 1048576: true; the input reads as it did. -/
def groupProductsUptoRow : OpenClaim := { program := "ytilpdoihgfonhaa", sum := "dc080497e5cc5fd722b9d6a089e538beba824371b99e6e7ddb3f14063b55894c", func := "lockwright/lockwrightlaw.GroupProducts", spec := "groupProducts", unfollowed := true, recurses := true, apart := false, narrowed := true }
def GroupProductsUptoSaid : Prop := groupProductsUptoRow.holds Try.pinned (OpenSpec.upto groupProductsSpec)

end Rows
end Go.Proofs.Ytilpdoihgfonhaa
