/-
  No cell of these rows narrows 'for every input' (looked for: loops, veiled, ifaces, maps, wideKeys, modest, calm, conditions, laid).
  DERIVED. THE GIVEN ROWS OF THIS SEAT. 6 by the template 'for every input the law returns true; each argument reads behind the call as it read before'; 0 by the template 'total and deterministic' (their statements: YtlpbohkjiddelaaTotals.lean).
  GIVEN WITH THE SEED: the statements are not yours to turn. If you find one false, say at which input.
  Laid BY PROGRAM, IN A SANDBOX (cutbox-rows.mjs): the forced cells as the released guide's own fill.sh prints them over the translation 79cf63031a4ce7dd… (all of the seat's roots in one cut). By AI agents, Wed Nov 11 2026. No macro, syntax, notation, axiom, sorry.
-/
import Derived.Test.YtlpbohkjiddelaaChecked
import GoSem.Claim
import GoSem.ClaimJoined
import GoSem.ClaimMapViews
import Derived.JoinedTies
import Derived.KernelRfl
namespace Go.Proofs.Ytlpbohkjiddelaa
/- THE CELL 'sum', in the pinned program and in every row, IS THE sha256 OF THE DUMP (.gsa) THAT YtlpbohkjiddelaaProg.lean LOADS. Nothing in Lean hashes anything: it is a label: what it is worth is what the hold of that sum in a sandbox is worth. -/
noncomputable def Try.pinned : Pinned := { name := "ytlpbohkjiddelaa", sum := "79cf63031a4ce7dd6886dd465bed3b39483eaec6bfcacedb371014c39f3afe53", checked := Try.checked }
namespace Rows
def none {H : Type} : Left H := { results := [], args := [] }

/-- 'lockwrightlaw.CommitTells': WHATEVER THE INPUT: true; the input reads as it did. -/
def commitTellsSpec : ChangeSpec := { name := "commitTells", fn := fun _ => fun
  | [d1, d2, d3] => { results := [.lit (.bool true)], args := [d1, d2, d3] }
  | _ => none }
def commitTellsRow : OpenClaim := { program := "ytlpbohkjiddelaa", sum := "79cf63031a4ce7dd6886dd465bed3b39483eaec6bfcacedb371014c39f3afe53", func := "lockwright/lockwrightlaw.CommitTells", spec := "commitTells", unfollowed := true, recurses := true, apart := false }
def CommitTellsSaid : Prop := commitTellsRow.holds Try.pinned (OpenSpec.ofChange commitTellsSpec)

/-- ITS FALSE NEIGHBOUR: 'it returns false'. Refute it at one input. -/
def commitTellsWrong : ChangeSpec := { name := "commitTells", fn := fun _ => fun
  | [d1, d2, d3] => { results := [.lit (.bool false)], args := [d1, d2, d3] }
  | _ => none }
def CommitTellsWrongFalsely : Prop := commitTellsRow.holds Try.pinned (OpenSpec.ofChange commitTellsWrong)

/-- 'lockwrightlaw.CommitOthers': WHATEVER THE INPUT: true; the input reads as it did. -/
def commitOthersSpec : ChangeSpec := { name := "commitOthers", fn := fun _ => fun
  | [d1, d2, d3, d4] => { results := [.lit (.bool true)], args := [d1, d2, d3, d4] }
  | _ => none }
def commitOthersRow : OpenClaim := { program := "ytlpbohkjiddelaa", sum := "79cf63031a4ce7dd6886dd465bed3b39483eaec6bfcacedb371014c39f3afe53", func := "lockwright/lockwrightlaw.CommitOthers", spec := "commitOthers", unfollowed := true, recurses := true, apart := false }
def CommitOthersSaid : Prop := commitOthersRow.holds Try.pinned (OpenSpec.ofChange commitOthersSpec)

/-- ITS FALSE NEIGHBOUR: 'it returns false'. Refute it at one input. -/
def commitOthersWrong : ChangeSpec := { name := "commitOthers", fn := fun _ => fun
  | [d1, d2, d3, d4] => { results := [.lit (.bool false)], args := [d1, d2, d3, d4] }
  | _ => none }
def CommitOthersWrongFalsely : Prop := commitOthersRow.holds Try.pinned (OpenSpec.ofChange commitOthersWrong)

/-- 'lockwrightlaw.CommitBreaks': WHATEVER THE INPUT: true; the input reads as it did. -/
def commitBreaksSpec : ChangeSpec := { name := "commitBreaks", fn := fun _ => fun
  | [d1, d2, d3, d4, d5] => { results := [.lit (.bool true)], args := [d1, d2, d3, d4, d5] }
  | _ => none }
def commitBreaksRow : OpenClaim := { program := "ytlpbohkjiddelaa", sum := "79cf63031a4ce7dd6886dd465bed3b39483eaec6bfcacedb371014c39f3afe53", func := "lockwright/lockwrightlaw.CommitBreaks", spec := "commitBreaks", unfollowed := true, recurses := true, apart := false }
def CommitBreaksSaid : Prop := commitBreaksRow.holds Try.pinned (OpenSpec.ofChange commitBreaksSpec)

/-- ITS FALSE NEIGHBOUR: 'it returns false'. Refute it at one input. -/
def commitBreaksWrong : ChangeSpec := { name := "commitBreaks", fn := fun _ => fun
  | [d1, d2, d3, d4, d5] => { results := [.lit (.bool false)], args := [d1, d2, d3, d4, d5] }
  | _ => none }
def CommitBreaksWrongFalsely : Prop := commitBreaksRow.holds Try.pinned (OpenSpec.ofChange commitBreaksWrong)

/-- 'lockwrightkeep.CommitHides': WHATEVER THE INPUT: true; the input reads as it did. -/
def commitHidesSpec : ChangeSpec := { name := "commitHides", fn := fun _ => fun
  | [d1, d2, d3, d4, d5, d6] => { results := [.lit (.bool true)], args := [d1, d2, d3, d4, d5, d6] }
  | _ => none }
def commitHidesRow : OpenClaim := { program := "ytlpbohkjiddelaa", sum := "79cf63031a4ce7dd6886dd465bed3b39483eaec6bfcacedb371014c39f3afe53", func := "lockwright/lockwrightkeep.CommitHides", spec := "commitHides", unfollowed := true, recurses := true, apart := false }
def CommitHidesSaid : Prop := commitHidesRow.holds Try.pinned (OpenSpec.ofChange commitHidesSpec)

/-- ITS FALSE NEIGHBOUR: 'it returns false'. Refute it at one input. -/
def commitHidesWrong : ChangeSpec := { name := "commitHides", fn := fun _ => fun
  | [d1, d2, d3, d4, d5, d6] => { results := [.lit (.bool false)], args := [d1, d2, d3, d4, d5, d6] }
  | _ => none }
def CommitHidesWrongFalsely : Prop := commitHidesRow.holds Try.pinned (OpenSpec.ofChange commitHidesWrong)

/-- 'lockwrightkeep.CommitBinds': WHATEVER THE INPUT: true; the input reads as it did. -/
def commitBindsSpec : ChangeSpec := { name := "commitBinds", fn := fun _ => fun
  | [d1, d2, d3, d4, d5] => { results := [.lit (.bool true)], args := [d1, d2, d3, d4, d5] }
  | _ => none }
def commitBindsRow : OpenClaim := { program := "ytlpbohkjiddelaa", sum := "79cf63031a4ce7dd6886dd465bed3b39483eaec6bfcacedb371014c39f3afe53", func := "lockwright/lockwrightkeep.CommitBinds", spec := "commitBinds", unfollowed := true, recurses := true, apart := false }
def CommitBindsSaid : Prop := commitBindsRow.holds Try.pinned (OpenSpec.ofChange commitBindsSpec)

/-- ITS FALSE NEIGHBOUR: 'it returns false'. Refute it at one input. -/
def commitBindsWrong : ChangeSpec := { name := "commitBinds", fn := fun _ => fun
  | [d1, d2, d3, d4, d5] => { results := [.lit (.bool false)], args := [d1, d2, d3, d4, d5] }
  | _ => none }
def CommitBindsWrongFalsely : Prop := commitBindsRow.holds Try.pinned (OpenSpec.ofChange commitBindsWrong)

/-- 'lockwrightkeep.CommitAdds': WHATEVER THE INPUT: true; the input reads as it did. -/
def commitAddsSpec : ChangeSpec := { name := "commitAdds", fn := fun _ => fun
  | [d1, d2, d3, d4, d5] => { results := [.lit (.bool true)], args := [d1, d2, d3, d4, d5] }
  | _ => none }
def commitAddsRow : OpenClaim := { program := "ytlpbohkjiddelaa", sum := "79cf63031a4ce7dd6886dd465bed3b39483eaec6bfcacedb371014c39f3afe53", func := "lockwright/lockwrightkeep.CommitAdds", spec := "commitAdds", unfollowed := true, recurses := true, apart := false }
def CommitAddsSaid : Prop := commitAddsRow.holds Try.pinned (OpenSpec.ofChange commitAddsSpec)

/-- ITS FALSE NEIGHBOUR: 'it returns false'. Refute it at one input. -/
def commitAddsWrong : ChangeSpec := { name := "commitAdds", fn := fun _ => fun
  | [d1, d2, d3, d4, d5] => { results := [.lit (.bool false)], args := [d1, d2, d3, d4, d5] }
  | _ => none }
def CommitAddsWrongFalsely : Prop := commitAddsRow.holds Try.pinned (OpenSpec.ofChange commitAddsWrong)

/- THE SECOND FORM. 'bulk': how many values and letters a reading holds, each counted each time it is reached (what is shared counts as often as it is met; a slice's spare places count too). A statement '..UptoSaid' is the law's where the arguments, and the package variables that the reading takes, are together of bulk at most 1048576: NARROWER than '..Said'. Prove '..Said' where nothing that the law and all that it calls make is longer than what came in: it says more and counts as full. Else prove '..UptoSaid'. A law counts once. -/
mutual
def uptoBulk {H : Type} : DataW H → Nat
  | .lit (.string bytes) => bytes.length + 1
  | .lit _ => 1
  | .nil => 1
  | .ptr d => uptoBulk d + 1
  | .slice elems spare => uptoBulkAll elems + uptoBulkAll spare + 1
  | .agg parts => uptoBulkAll parts + 1
  | .iface _ d => uptoBulk d + 1
  | .map entries => uptoBulkEntries entries + 1
  | .held _ => 1
def uptoBulkAll {H : Type} : List (DataW H) → Nat
  | [] => 0
  | d :: r => uptoBulk d + uptoBulkAll r
def uptoBulkEntries {H : Type} : List (Lit × DataW H) → Nat
  | [] => 0
  | x :: r => uptoBulkEntry x + uptoBulkEntries r
def uptoBulkEntry {H : Type} : Lit × DataW H → Nat
  | (.string bytes, d) => bytes.length + uptoBulk d + 1
  | (_, d) => uptoBulk d + 1
 end
def uptoSmall : (H : Type) → List (DataW H) → Bool := fun _ ds => decide (uptoBulkAll ds ≤ 1048576)
def OpenSpec.upto (s : _root_.Go.ChangeSpec) : _root_.Go.OpenSpec := { _root_.Go.OpenSpec.ofChange s with cond := some uptoSmall }

/-- 'lockwrightlaw.CommitTells', WHERE WHAT IT READS IS OF BULK AT MOST 1048576: true; the input reads as it did. -/
def commitTellsUptoRow : OpenClaim := { program := "ytlpbohkjiddelaa", sum := "79cf63031a4ce7dd6886dd465bed3b39483eaec6bfcacedb371014c39f3afe53", func := "lockwright/lockwrightlaw.CommitTells", spec := "commitTells", unfollowed := true, recurses := true, apart := false, narrowed := true }
def CommitTellsUptoSaid : Prop := commitTellsUptoRow.holds Try.pinned (OpenSpec.upto commitTellsSpec)

/-- 'lockwrightlaw.CommitOthers', WHERE WHAT IT READS IS OF BULK AT MOST 1048576: true; the input reads as it did. -/
def commitOthersUptoRow : OpenClaim := { program := "ytlpbohkjiddelaa", sum := "79cf63031a4ce7dd6886dd465bed3b39483eaec6bfcacedb371014c39f3afe53", func := "lockwright/lockwrightlaw.CommitOthers", spec := "commitOthers", unfollowed := true, recurses := true, apart := false, narrowed := true }
def CommitOthersUptoSaid : Prop := commitOthersUptoRow.holds Try.pinned (OpenSpec.upto commitOthersSpec)

/-- 'lockwrightlaw.CommitBreaks', WHERE WHAT IT READS IS OF BULK AT MOST 1048576: true; the input reads as it did. -/
def commitBreaksUptoRow : OpenClaim := { program := "ytlpbohkjiddelaa", sum := "79cf63031a4ce7dd6886dd465bed3b39483eaec6bfcacedb371014c39f3afe53", func := "lockwright/lockwrightlaw.CommitBreaks", spec := "commitBreaks", unfollowed := true, recurses := true, apart := false, narrowed := true }
def CommitBreaksUptoSaid : Prop := commitBreaksUptoRow.holds Try.pinned (OpenSpec.upto commitBreaksSpec)

/-- 'lockwrightkeep.CommitHides', WHERE WHAT IT READS IS OF BULK AT MOST 1048576: true; the input reads as it did. -/
def commitHidesUptoRow : OpenClaim := { program := "ytlpbohkjiddelaa", sum := "79cf63031a4ce7dd6886dd465bed3b39483eaec6bfcacedb371014c39f3afe53", func := "lockwright/lockwrightkeep.CommitHides", spec := "commitHides", unfollowed := true, recurses := true, apart := false, narrowed := true }
def CommitHidesUptoSaid : Prop := commitHidesUptoRow.holds Try.pinned (OpenSpec.upto commitHidesSpec)

/-- 'lockwrightkeep.CommitBinds', WHERE WHAT IT READS IS OF BULK AT MOST 1048576: true; the input reads as it did. -/
def commitBindsUptoRow : OpenClaim := { program := "ytlpbohkjiddelaa", sum := "79cf63031a4ce7dd6886dd465bed3b39483eaec6bfcacedb371014c39f3afe53", func := "lockwright/lockwrightkeep.CommitBinds", spec := "commitBinds", unfollowed := true, recurses := true, apart := false, narrowed := true }
def CommitBindsUptoSaid : Prop := commitBindsUptoRow.holds Try.pinned (OpenSpec.upto commitBindsSpec)

/-- 'lockwrightkeep.CommitAdds', WHERE WHAT IT READS IS OF BULK AT MOST 1048576: true; the input reads as it did. -/
def commitAddsUptoRow : OpenClaim := { program := "ytlpbohkjiddelaa", sum := "79cf63031a4ce7dd6886dd465bed3b39483eaec6bfcacedb371014c39f3afe53", func := "lockwright/lockwrightkeep.CommitAdds", spec := "commitAdds", unfollowed := true, recurses := true, apart := false, narrowed := true }
def CommitAddsUptoSaid : Prop := commitAddsUptoRow.holds Try.pinned (OpenSpec.upto commitAddsSpec)

end Rows
end Go.Proofs.Ytlpbohkjiddelaa
