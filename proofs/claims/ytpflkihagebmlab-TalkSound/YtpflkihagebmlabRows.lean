/-
  No cell of these rows narrows 'for every input' (looked for: loops, veiled, ifaces, maps, wideKeys, modest, calm, conditions, laid).
  DERIVED. THE GIVEN ROWS OF THIS SEAT. 4 by the template 'for every input the law returns true; each argument reads behind the call as it read before'; 0 by the template 'total and deterministic' (their statements: YtpflkihagebmlabTotals.lean).
  GIVEN WITH THE SEED: the statements are not yours to turn. If you find one false, say at which input.
  Laid BY PROGRAM, IN A SANDBOX (cutbox-rows.mjs): the forced cells as the released guide's own fill.sh prints them over the translation b58ad153670bba06… (all of the seat's roots in one cut). By AI agents, Wed Nov 11 2026. No macro, syntax, notation, axiom, sorry.
-/
import Derived.Test.YtpflkihagebmlabChecked
import GoSem.Claim
import GoSem.ClaimJoined
import GoSem.ClaimMapViews
import Derived.JoinedTies
import Derived.KernelRfl
namespace Go.Proofs.Ytpflkihagebmlab
/- THE CELL 'sum', in the pinned program and in every row, IS THE sha256 OF THE DUMP (.gsa) THAT YtpflkihagebmlabProg.lean LOADS. Nothing in Lean hashes anything: it is a label: what it is worth is what the hold of that sum in a sandbox is worth. -/
noncomputable def Try.pinned : Pinned := { name := "ytpflkihagebmlab", sum := "b58ad153670bba060b21529655dd61590acb135193e9290c5ec83a5315f48f37", checked := Try.checked }
namespace Rows
def none {H : Type} : Left H := { results := [], args := [] }

/-- 'lockwrightkeep.TalkWhole': WHATEVER THE INPUT: true; the input reads as it did. -/
def talkWholeSpec : ChangeSpec := { name := "talkWhole", fn := fun _ => fun
  | [d1, d2, d3, d4] => { results := [.lit (.bool true)], args := [d1, d2, d3, d4] }
  | _ => none }
def talkWholeRow : OpenClaim := { program := "ytpflkihagebmlab", sum := "b58ad153670bba060b21529655dd61590acb135193e9290c5ec83a5315f48f37", func := "lockwright/lockwrightkeep.TalkWhole", spec := "talkWhole", unfollowed := true, recurses := true, apart := false }
def TalkWholeSaid : Prop := talkWholeRow.holds Try.pinned (OpenSpec.ofChange talkWholeSpec)

/-- ITS FALSE NEIGHBOUR: 'it returns false'. Refute it at one input. -/
def talkWholeWrong : ChangeSpec := { name := "talkWhole", fn := fun _ => fun
  | [d1, d2, d3, d4] => { results := [.lit (.bool false)], args := [d1, d2, d3, d4] }
  | _ => none }
def TalkWholeWrongFalsely : Prop := talkWholeRow.holds Try.pinned (OpenSpec.ofChange talkWholeWrong)

/-- 'lockwrightkeep.TalkSound': WHATEVER THE INPUT: true; the input reads as it did. -/
def talkSoundSpec : ChangeSpec := { name := "talkSound", fn := fun _ => fun
  | [d1, d2, d3, d4] => { results := [.lit (.bool true)], args := [d1, d2, d3, d4] }
  | _ => none }
def talkSoundRow : OpenClaim := { program := "ytpflkihagebmlab", sum := "b58ad153670bba060b21529655dd61590acb135193e9290c5ec83a5315f48f37", func := "lockwright/lockwrightkeep.TalkSound", spec := "talkSound", unfollowed := true, recurses := true, apart := false }
def TalkSoundSaid : Prop := talkSoundRow.holds Try.pinned (OpenSpec.ofChange talkSoundSpec)

/-- ITS FALSE NEIGHBOUR: 'it returns false'. Refute it at one input. -/
def talkSoundWrong : ChangeSpec := { name := "talkSound", fn := fun _ => fun
  | [d1, d2, d3, d4] => { results := [.lit (.bool false)], args := [d1, d2, d3, d4] }
  | _ => none }
def TalkSoundWrongFalsely : Prop := talkSoundRow.holds Try.pinned (OpenSpec.ofChange talkSoundWrong)

/-- 'lockwrightkeep.TalkFeigns': WHATEVER THE INPUT: true; the input reads as it did. -/
def talkFeignsSpec : ChangeSpec := { name := "talkFeigns", fn := fun _ => fun
  | [d1, d2, d3, d4] => { results := [.lit (.bool true)], args := [d1, d2, d3, d4] }
  | _ => none }
def talkFeignsRow : OpenClaim := { program := "ytpflkihagebmlab", sum := "b58ad153670bba060b21529655dd61590acb135193e9290c5ec83a5315f48f37", func := "lockwright/lockwrightkeep.TalkFeigns", spec := "talkFeigns", unfollowed := true, recurses := true, apart := false }
def TalkFeignsSaid : Prop := talkFeignsRow.holds Try.pinned (OpenSpec.ofChange talkFeignsSpec)

/-- ITS FALSE NEIGHBOUR: 'it returns false'. Refute it at one input. -/
def talkFeignsWrong : ChangeSpec := { name := "talkFeigns", fn := fun _ => fun
  | [d1, d2, d3, d4] => { results := [.lit (.bool false)], args := [d1, d2, d3, d4] }
  | _ => none }
def TalkFeignsWrongFalsely : Prop := talkFeignsRow.holds Try.pinned (OpenSpec.ofChange talkFeignsWrong)

/-- 'lockwrightkeep.TalkSigns': WHATEVER THE INPUT: true; the input reads as it did. -/
def talkSignsSpec : ChangeSpec := { name := "talkSigns", fn := fun _ => fun
  | [d1, d2, d3, d4, d5, d6] => { results := [.lit (.bool true)], args := [d1, d2, d3, d4, d5, d6] }
  | _ => none }
def talkSignsRow : OpenClaim := { program := "ytpflkihagebmlab", sum := "b58ad153670bba060b21529655dd61590acb135193e9290c5ec83a5315f48f37", func := "lockwright/lockwrightkeep.TalkSigns", spec := "talkSigns", unfollowed := true, recurses := true, apart := false }
def TalkSignsSaid : Prop := talkSignsRow.holds Try.pinned (OpenSpec.ofChange talkSignsSpec)

/-- ITS FALSE NEIGHBOUR: 'it returns false'. Refute it at one input. -/
def talkSignsWrong : ChangeSpec := { name := "talkSigns", fn := fun _ => fun
  | [d1, d2, d3, d4, d5, d6] => { results := [.lit (.bool false)], args := [d1, d2, d3, d4, d5, d6] }
  | _ => none }
def TalkSignsWrongFalsely : Prop := talkSignsRow.holds Try.pinned (OpenSpec.ofChange talkSignsWrong)

/- THE SECOND FORM. 'bulk': how many values and letters a reading holds, each counted each time it is reached (what is shared counts as often as it is met; a slice's spare places count too). A statement '..UptoSaid' is the law's where the arguments, and the package variables that the reading takes, are together of bulk at most 1048576: NARROWER than '..Said'. Prove '..Said' where nothing that the law and all that it calls make is longer than what came in: it says more and counts as full. Else prove '..UptoSaid'. A law counts once. -/
mutual
def uptoBulk {H : Type} : DataW H → Nat
  | .lit (.string bytes) => bytes.length + 1
  | .lit _ => 1
  | .nil => 1
  | .ptr d => uptoBulk d + 1
  | .slice elems spare => uptoBulkAll elems + uptoBulkAll spare + 1
  | .agg parts => uptoBulkAll parts + 1
  | .iface _ d => uptoBulk d + 1
  | .map entries => uptoBulkEntries entries + 1
  | .held _ => 1
def uptoBulkAll {H : Type} : List (DataW H) → Nat
  | [] => 0
  | d :: r => uptoBulk d + uptoBulkAll r
def uptoBulkEntries {H : Type} : List (Lit × DataW H) → Nat
  | [] => 0
  | x :: r => uptoBulkEntry x + uptoBulkEntries r
def uptoBulkEntry {H : Type} : Lit × DataW H → Nat
  | (.string bytes, d) => bytes.length + uptoBulk d + 1
  | (_, d) => uptoBulk d + 1
 end
def uptoSmall : (H : Type) → List (DataW H) → Bool := fun _ ds => decide (uptoBulkAll ds ≤ 1048576)
def OpenSpec.upto (s : _root_.Go.ChangeSpec) : _root_.Go.OpenSpec := { _root_.Go.OpenSpec.ofChange s with cond := some uptoSmall }

/-- 'lockwrightkeep.TalkWhole', WHERE WHAT IT READS IS OF BULK AT MOST 1048576: true; the input reads as it did. -/
def talkWholeUptoRow : OpenClaim := { program := "ytpflkihagebmlab", sum := "b58ad153670bba060b21529655dd61590acb135193e9290c5ec83a5315f48f37", func := "lockwright/lockwrightkeep.TalkWhole", spec := "talkWhole", unfollowed := true, recurses := true, apart := false, narrowed := true }
def TalkWholeUptoSaid : Prop := talkWholeUptoRow.holds Try.pinned (OpenSpec.upto talkWholeSpec)

/-- 'lockwrightkeep.TalkSound', WHERE WHAT IT READS IS OF BULK AT MOST 1048576: true; the input reads as it did. -/
def talkSoundUptoRow : OpenClaim := { program := "ytpflkihagebmlab", sum := "b58ad153670bba060b21529655dd61590acb135193e9290c5ec83a5315f48f37", func := "lockwright/lockwrightkeep.TalkSound", spec := "talkSound", unfollowed := true, recurses := true, apart := false, narrowed := true }
def TalkSoundUptoSaid : Prop := talkSoundUptoRow.holds Try.pinned (OpenSpec.upto talkSoundSpec)

/-- 'lockwrightkeep.TalkFeigns', WHERE WHAT IT READS IS OF BULK AT MOST 1048576: true; the input reads as it did. -/
def talkFeignsUptoRow : OpenClaim := { program := "ytpflkihagebmlab", sum := "b58ad153670bba060b21529655dd61590acb135193e9290c5ec83a5315f48f37", func := "lockwright/lockwrightkeep.TalkFeigns", spec := "talkFeigns", unfollowed := true, recurses := true, apart := false, narrowed := true }
def TalkFeignsUptoSaid : Prop := talkFeignsUptoRow.holds Try.pinned (OpenSpec.upto talkFeignsSpec)

/-- 'lockwrightkeep.TalkSigns', WHERE WHAT IT READS IS OF BULK AT MOST 1048576: true; the input reads as it did. -/
def talkSignsUptoRow : OpenClaim := { program := "ytpflkihagebmlab", sum := "b58ad153670bba060b21529655dd61590acb135193e9290c5ec83a5315f48f37", func := "lockwright/lockwrightkeep.TalkSigns", spec := "talkSigns", unfollowed := true, recurses := true, apart := false, narrowed := true }
def TalkSignsUptoSaid : Prop := talkSignsUptoRow.holds Try.pinned (OpenSpec.upto talkSignsSpec)

end Rows
end Go.Proofs.Ytpflkihagebmlab
