/-
  No cell of these rows narrows 'for every input' (looked for: loops, veiled, ifaces, maps, wideKeys, modest, calm, conditions, laid).
  DERIVED. THE GIVEN ROWS OF THIS SEAT. 4 by the template 'for every input the law returns true; each argument reads behind the call as it read before'; 0 by the template 'total and deterministic' (their statements: YtpgopgmeabnnnaaTotals.lean).
  GIVEN WITH THE SEED: the statements are not yours to turn. If you find one false, say at which input.
  Laid BY PROGRAM, IN A SANDBOX (cutbox-rows.mjs): the forced cells as the released guide's own fill.sh prints them over the translation 2a36622eccab2fe1… (all of the seat's roots in one cut). By AI agents, Wed Nov 11 2026. No macro, syntax, notation, axiom, sorry.
-/
import Derived.Test.YtpgopgmeabnnnaaChecked
import GoSem.Claim
import GoSem.ClaimJoined
import GoSem.ClaimMapViews
import Derived.JoinedTies
import Derived.KernelRfl
namespace Go.Proofs.Ytpgopgmeabnnnaa
/- THE CELL 'sum', in the pinned program and in every row, IS THE sha256 OF THE DUMP (.gsa) THAT YtpgopgmeabnnnaaProg.lean LOADS. Nothing in Lean hashes anything: it is a label: what it is worth is what the hold of that sum in a sandbox is worth. -/
noncomputable def Try.pinned : Pinned := { name := "ytpgopgmeabnnnaa", sum := "2a36622eccab2fe15ebb425bea37962874469e682595c59a2a37bfe7232bee5f", checked := Try.checked }
namespace Rows
def none {H : Type} : Left H := { results := [], args := [] }

/-- 'lockwrightlaw.LogBases': WHATEVER THE INPUT: true; the input reads as it did. -/
def logBasesSpec : ChangeSpec := { name := "logBases", fn := fun _ => fun
  | [d] => { results := [.lit (.bool true)], args := [d] }
  | _ => none }
def logBasesRow : OpenClaim := { program := "ytpgopgmeabnnnaa", sum := "2a36622eccab2fe15ebb425bea37962874469e682595c59a2a37bfe7232bee5f", func := "lockwright/lockwrightlaw.LogBases", spec := "logBases", unfollowed := true, recurses := true, apart := false }
def LogBasesSaid : Prop := logBasesRow.holds Try.pinned (OpenSpec.ofChange logBasesSpec)

/-- ITS FALSE NEIGHBOUR: 'it returns false'. Refute it at one input. -/
def logBasesWrong : ChangeSpec := { name := "logBases", fn := fun _ => fun
  | [d] => { results := [.lit (.bool false)], args := [d] }
  | _ => none }
def LogBasesWrongFalsely : Prop := logBasesRow.holds Try.pinned (OpenSpec.ofChange logBasesWrong)

/-- 'lockwrightlaw.LogPowers': WHATEVER THE INPUT: true; the input reads as it did. -/
def logPowersSpec : ChangeSpec := { name := "logPowers", fn := fun _ => fun
  | [d1, d2, d3] => { results := [.lit (.bool true)], args := [d1, d2, d3] }
  | _ => none }
def logPowersRow : OpenClaim := { program := "ytpgopgmeabnnnaa", sum := "2a36622eccab2fe15ebb425bea37962874469e682595c59a2a37bfe7232bee5f", func := "lockwright/lockwrightlaw.LogPowers", spec := "logPowers", unfollowed := true, recurses := true, apart := false }
def LogPowersSaid : Prop := logPowersRow.holds Try.pinned (OpenSpec.ofChange logPowersSpec)

/-- ITS FALSE NEIGHBOUR: 'it returns false'. Refute it at one input. -/
def logPowersWrong : ChangeSpec := { name := "logPowers", fn := fun _ => fun
  | [d1, d2, d3] => { results := [.lit (.bool false)], args := [d1, d2, d3] }
  | _ => none }
def LogPowersWrongFalsely : Prop := logPowersRow.holds Try.pinned (OpenSpec.ofChange logPowersWrong)

/-- 'lockwrightkeep.LogBase': WHATEVER THE INPUT: true; the input reads as it did. -/
def logBaseSpec : ChangeSpec := { name := "logBase", fn := fun _ => fun
  | [d1, d2] => { results := [.lit (.bool true)], args := [d1, d2] }
  | _ => none }
def logBaseRow : OpenClaim := { program := "ytpgopgmeabnnnaa", sum := "2a36622eccab2fe15ebb425bea37962874469e682595c59a2a37bfe7232bee5f", func := "lockwright/lockwrightkeep.LogBase", spec := "logBase", unfollowed := true, recurses := true, apart := false }
def LogBaseSaid : Prop := logBaseRow.holds Try.pinned (OpenSpec.ofChange logBaseSpec)

/-- ITS FALSE NEIGHBOUR: 'it returns false'. Refute it at one input. -/
def logBaseWrong : ChangeSpec := { name := "logBase", fn := fun _ => fun
  | [d1, d2] => { results := [.lit (.bool false)], args := [d1, d2] }
  | _ => none }
def LogBaseWrongFalsely : Prop := logBaseRow.holds Try.pinned (OpenSpec.ofChange logBaseWrong)

/-- 'lockwrightkeep.LogAdds': WHATEVER THE INPUT: true; the input reads as it did. -/
def logAddsSpec : ChangeSpec := { name := "logAdds", fn := fun _ => fun
  | [d1, d2, d3, d4] => { results := [.lit (.bool true)], args := [d1, d2, d3, d4] }
  | _ => none }
def logAddsRow : OpenClaim := { program := "ytpgopgmeabnnnaa", sum := "2a36622eccab2fe15ebb425bea37962874469e682595c59a2a37bfe7232bee5f", func := "lockwright/lockwrightkeep.LogAdds", spec := "logAdds", unfollowed := true, recurses := true, apart := false }
def LogAddsSaid : Prop := logAddsRow.holds Try.pinned (OpenSpec.ofChange logAddsSpec)

/-- ITS FALSE NEIGHBOUR: 'it returns false'. Refute it at one input. -/
def logAddsWrong : ChangeSpec := { name := "logAdds", fn := fun _ => fun
  | [d1, d2, d3, d4] => { results := [.lit (.bool false)], args := [d1, d2, d3, d4] }
  | _ => none }
def LogAddsWrongFalsely : Prop := logAddsRow.holds Try.pinned (OpenSpec.ofChange logAddsWrong)

/- THE SECOND FORM. 'bulk': how many values and letters a reading holds, each counted each time it is reached (what is shared counts as often as it is met; a slice's spare places count too). A statement '..UptoSaid' is the law's where the arguments, and the package variables that the reading takes, are together of bulk at most 1048576: NARROWER than '..Said'. Prove '..Said' where nothing that the law and all that it calls make is longer than what came in: it says more and counts as full. Else prove '..UptoSaid'. A law counts once. -/
mutual
def uptoBulk {H : Type} : DataW H → Nat
  | .lit (.string bytes) => bytes.length + 1
  | .lit _ => 1
  | .nil => 1
  | .ptr d => uptoBulk d + 1
  | .slice elems spare => uptoBulkAll elems + uptoBulkAll spare + 1
  | .agg parts => uptoBulkAll parts + 1
  | .iface _ d => uptoBulk d + 1
  | .map entries => uptoBulkEntries entries + 1
  | .held _ => 1
def uptoBulkAll {H : Type} : List (DataW H) → Nat
  | [] => 0
  | d :: r => uptoBulk d + uptoBulkAll r
def uptoBulkEntries {H : Type} : List (Lit × DataW H) → Nat
  | [] => 0
  | x :: r => uptoBulkEntry x + uptoBulkEntries r
def uptoBulkEntry {H : Type} : Lit × DataW H → Nat
  | (.string bytes, d) => bytes.length + uptoBulk d + 1
  | (_, d) => uptoBulk d + 1
 end
def uptoSmall : (H : Type) → List (DataW H) → Bool := fun _ ds => decide (uptoBulkAll ds ≤ 1048576)
def OpenSpec.upto (s : _root_.Go.ChangeSpec) : _root_.Go.OpenSpec := { _root_.Go.OpenSpec.ofChange s with cond := some uptoSmall }

/-- 'lockwrightlaw.LogBases', WHERE WHAT IT READS IS OF BULK AT MOST 1048576: true; the input reads as it did. -/
def logBasesUptoRow : OpenClaim := { program := "ytpgopgmeabnnnaa", sum := "2a36622eccab2fe15ebb425bea37962874469e682595c59a2a37bfe7232bee5f", func := "lockwright/lockwrightlaw.LogBases", spec := "logBases", unfollowed := true, recurses := true, apart := false, narrowed := true }
def LogBasesUptoSaid : Prop := logBasesUptoRow.holds Try.pinned (OpenSpec.upto logBasesSpec)

/-- 'lockwrightlaw.LogPowers', WHERE WHAT IT READS IS OF BULK AT MOST 1048576: true; the input reads as it did. -/
def logPowersUptoRow : OpenClaim := { program := "ytpgopgmeabnnnaa", sum := "2a36622eccab2fe15ebb425bea37962874469e682595c59a2a37bfe7232bee5f", func := "lockwright/lockwrightlaw.LogPowers", spec := "logPowers", unfollowed := true, recurses := true, apart := false, narrowed := true }
def LogPowersUptoSaid : Prop := logPowersUptoRow.holds Try.pinned (OpenSpec.upto logPowersSpec)

/-- 'lockwrightkeep.LogBase', WHERE WHAT IT READS IS OF BULK AT MOST 1048576: true; the input reads as it did. -/
def logBaseUptoRow : OpenClaim := { program := "ytpgopgmeabnnnaa", sum := "2a36622eccab2fe15ebb425bea37962874469e682595c59a2a37bfe7232bee5f", func := "lockwright/lockwrightkeep.LogBase", spec := "logBase", unfollowed := true, recurses := true, apart := false, narrowed := true }
def LogBaseUptoSaid : Prop := logBaseUptoRow.holds Try.pinned (OpenSpec.upto logBaseSpec)

/-- 'lockwrightkeep.LogAdds', WHERE WHAT IT READS IS OF BULK AT MOST 1048576: true; the input reads as it did. -/
def logAddsUptoRow : OpenClaim := { program := "ytpgopgmeabnnnaa", sum := "2a36622eccab2fe15ebb425bea37962874469e682595c59a2a37bfe7232bee5f", func := "lockwright/lockwrightkeep.LogAdds", spec := "logAdds", unfollowed := true, recurses := true, apart := false, narrowed := true }
def LogAddsUptoSaid : Prop := logAddsUptoRow.holds Try.pinned (OpenSpec.upto logAddsSpec)

end Rows
end Go.Proofs.Ytpgopgmeabnnnaa
