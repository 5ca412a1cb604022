/-
  No cell of these rows narrows 'for every input' (looked for: loops, veiled, ifaces, maps, wideKeys, modest, calm, conditions, laid).
  DERIVED. THE GIVEN ROWS OF THIS SEAT. 6 by the template 'for every input the law returns true; each argument reads behind the call as it read before'; 0 by the template 'total and deterministic' (their statements: YtnciahbpmajhdaaTotals.lean).
  GIVEN WITH THE SEED: the statements are not yours to turn. If you find one false, say at which input.
  Laid BY PROGRAM, IN A SANDBOX (cutbox-rows.mjs): the forced cells as the released guide's own fill.sh prints them over the translation 31ddd512395688a9… (all of the seat's roots in one cut). By AI agents, Wed Nov 11 2026. No macro, syntax, notation, axiom, sorry.
-/
import Derived.Test.YtnciahbpmajhdaaChecked
import GoSem.Claim
import GoSem.ClaimJoined
import GoSem.ClaimMapViews
import Derived.JoinedTies
import Derived.KernelRfl
namespace Go.Proofs.Ytnciahbpmajhdaa
/- THE CELL 'sum', in the pinned program and in every row, IS THE sha256 OF THE DUMP (.gsa) THAT YtnciahbpmajhdaaProg.lean LOADS. Nothing in Lean hashes anything: it is a label: what it is worth is what the hold of that sum in a sandbox is worth. -/
noncomputable def Try.pinned : Pinned := { name := "ytnciahbpmajhdaa", sum := "31ddd512395688a9b16ea49991a3ac418b240977aee236cce324e0fe5f538ea3", checked := Try.checked }
namespace Rows
def none {H : Type} : Left H := { results := [], args := [] }

/-- 'lockwrightlaw.LiarsFermats': WHATEVER THE INPUT: true; the input reads as it did. -/
def liarsFermatsSpec : ChangeSpec := { name := "liarsFermats", fn := fun _ => fun
  | [d1, d2] => { results := [.lit (.bool true)], args := [d1, d2] }
  | _ => none }
def liarsFermatsRow : OpenClaim := { program := "ytnciahbpmajhdaa", sum := "31ddd512395688a9b16ea49991a3ac418b240977aee236cce324e0fe5f538ea3", func := "lockwright/lockwrightlaw.LiarsFermats", spec := "liarsFermats", unfollowed := true, recurses := true, apart := false }
def LiarsFermatsSaid : Prop := liarsFermatsRow.holds Try.pinned (OpenSpec.ofChange liarsFermatsSpec)

/-- ITS FALSE NEIGHBOUR: 'it returns false'. Refute it at one input. -/
def liarsFermatsWrong : ChangeSpec := { name := "liarsFermats", fn := fun _ => fun
  | [d1, d2] => { results := [.lit (.bool false)], args := [d1, d2] }
  | _ => none }
def LiarsFermatsWrongFalsely : Prop := liarsFermatsRow.holds Try.pinned (OpenSpec.ofChange liarsFermatsWrong)

/-- 'lockwrightlaw.LiarsEulers': WHATEVER THE INPUT: true; the input reads as it did. -/
def liarsEulersSpec : ChangeSpec := { name := "liarsEulers", fn := fun _ => fun
  | [d1, d2] => { results := [.lit (.bool true)], args := [d1, d2] }
  | _ => none }
def liarsEulersRow : OpenClaim := { program := "ytnciahbpmajhdaa", sum := "31ddd512395688a9b16ea49991a3ac418b240977aee236cce324e0fe5f538ea3", func := "lockwright/lockwrightlaw.LiarsEulers", spec := "liarsEulers", unfollowed := true, recurses := true, apart := false }
def LiarsEulersSaid : Prop := liarsEulersRow.holds Try.pinned (OpenSpec.ofChange liarsEulersSpec)

/-- ITS FALSE NEIGHBOUR: 'it returns false'. Refute it at one input. -/
def liarsEulersWrong : ChangeSpec := { name := "liarsEulers", fn := fun _ => fun
  | [d1, d2] => { results := [.lit (.bool false)], args := [d1, d2] }
  | _ => none }
def LiarsEulersWrongFalsely : Prop := liarsEulersRow.holds Try.pinned (OpenSpec.ofChange liarsEulersWrong)

/-- 'lockwrightlaw.LiarsStrong': WHATEVER THE INPUT: true; the input reads as it did. -/
def liarsStrongSpec : ChangeSpec := { name := "liarsStrong", fn := fun _ => fun
  | [d1, d2] => { results := [.lit (.bool true)], args := [d1, d2] }
  | _ => none }
def liarsStrongRow : OpenClaim := { program := "ytnciahbpmajhdaa", sum := "31ddd512395688a9b16ea49991a3ac418b240977aee236cce324e0fe5f538ea3", func := "lockwright/lockwrightlaw.LiarsStrong", spec := "liarsStrong", unfollowed := true, recurses := true, apart := false }
def LiarsStrongSaid : Prop := liarsStrongRow.holds Try.pinned (OpenSpec.ofChange liarsStrongSpec)

/-- ITS FALSE NEIGHBOUR: 'it returns false'. Refute it at one input. -/
def liarsStrongWrong : ChangeSpec := { name := "liarsStrong", fn := fun _ => fun
  | [d1, d2] => { results := [.lit (.bool false)], args := [d1, d2] }
  | _ => none }
def LiarsStrongWrongFalsely : Prop := liarsStrongRow.holds Try.pinned (OpenSpec.ofChange liarsStrongWrong)

/-- 'lockwrightlaw.LiarsCounts': WHATEVER THE INPUT: true; the input reads as it did. -/
def liarsCountsSpec : ChangeSpec := { name := "liarsCounts", fn := fun _ => fun
  | [d] => { results := [.lit (.bool true)], args := [d] }
  | _ => none }
def liarsCountsRow : OpenClaim := { program := "ytnciahbpmajhdaa", sum := "31ddd512395688a9b16ea49991a3ac418b240977aee236cce324e0fe5f538ea3", func := "lockwright/lockwrightlaw.LiarsCounts", spec := "liarsCounts", recurses := true, apart := false }
def LiarsCountsSaid : Prop := liarsCountsRow.holds Try.pinned (OpenSpec.ofChange liarsCountsSpec)

/-- ITS FALSE NEIGHBOUR: 'it returns false'. Refute it at one input. -/
def liarsCountsWrong : ChangeSpec := { name := "liarsCounts", fn := fun _ => fun
  | [d] => { results := [.lit (.bool false)], args := [d] }
  | _ => none }
def LiarsCountsWrongFalsely : Prop := liarsCountsRow.holds Try.pinned (OpenSpec.ofChange liarsCountsWrong)

/-- 'lockwrightkeep.LiarsPrime': WHATEVER THE INPUT: true; the input reads as it did. -/
def liarsPrimeSpec : ChangeSpec := { name := "liarsPrime", fn := fun _ => fun
  | [d1, d2] => { results := [.lit (.bool true)], args := [d1, d2] }
  | _ => none }
def liarsPrimeRow : OpenClaim := { program := "ytnciahbpmajhdaa", sum := "31ddd512395688a9b16ea49991a3ac418b240977aee236cce324e0fe5f538ea3", func := "lockwright/lockwrightkeep.LiarsPrime", spec := "liarsPrime", unfollowed := true, recurses := true, apart := false }
def LiarsPrimeSaid : Prop := liarsPrimeRow.holds Try.pinned (OpenSpec.ofChange liarsPrimeSpec)

/-- ITS FALSE NEIGHBOUR: 'it returns false'. Refute it at one input. -/
def liarsPrimeWrong : ChangeSpec := { name := "liarsPrime", fn := fun _ => fun
  | [d1, d2] => { results := [.lit (.bool false)], args := [d1, d2] }
  | _ => none }
def LiarsPrimeWrongFalsely : Prop := liarsPrimeRow.holds Try.pinned (OpenSpec.ofChange liarsPrimeWrong)

/-- 'lockwrightkeep.LiarsChain': WHATEVER THE INPUT: true; the input reads as it did. -/
def liarsChainSpec : ChangeSpec := { name := "liarsChain", fn := fun _ => fun
  | [d1, d2] => { results := [.lit (.bool true)], args := [d1, d2] }
  | _ => none }
def liarsChainRow : OpenClaim := { program := "ytnciahbpmajhdaa", sum := "31ddd512395688a9b16ea49991a3ac418b240977aee236cce324e0fe5f538ea3", func := "lockwright/lockwrightkeep.LiarsChain", spec := "liarsChain", unfollowed := true, recurses := true, apart := false }
def LiarsChainSaid : Prop := liarsChainRow.holds Try.pinned (OpenSpec.ofChange liarsChainSpec)

/-- ITS FALSE NEIGHBOUR: 'it returns false'. Refute it at one input. -/
def liarsChainWrong : ChangeSpec := { name := "liarsChain", fn := fun _ => fun
  | [d1, d2] => { results := [.lit (.bool false)], args := [d1, d2] }
  | _ => none }
def LiarsChainWrongFalsely : Prop := liarsChainRow.holds Try.pinned (OpenSpec.ofChange liarsChainWrong)

/- THE SECOND FORM. 'bulk': how many values and letters a reading holds, each counted each time it is reached (what is shared counts as often as it is met; a slice's spare places count too). A statement '..UptoSaid' is the law's where the arguments, and the package variables that the reading takes, are together of bulk at most 1048576: NARROWER than '..Said'. Prove '..Said' where nothing that the law and all that it calls make is longer than what came in: it says more and counts as full. Else prove '..UptoSaid'. A law counts once. -/
mutual
def uptoBulk {H : Type} : DataW H → Nat
  | .lit (.string bytes) => bytes.length + 1
  | .lit _ => 1
  | .nil => 1
  | .ptr d => uptoBulk d + 1
  | .slice elems spare => uptoBulkAll elems + uptoBulkAll spare + 1
  | .agg parts => uptoBulkAll parts + 1
  | .iface _ d => uptoBulk d + 1
  | .map entries => uptoBulkEntries entries + 1
  | .held _ => 1
def uptoBulkAll {H : Type} : List (DataW H) → Nat
  | [] => 0
  | d :: r => uptoBulk d + uptoBulkAll r
def uptoBulkEntries {H : Type} : List (Lit × DataW H) → Nat
  | [] => 0
  | x :: r => uptoBulkEntry x + uptoBulkEntries r
def uptoBulkEntry {H : Type} : Lit × DataW H → Nat
  | (.string bytes, d) => bytes.length + uptoBulk d + 1
  | (_, d) => uptoBulk d + 1
 end
def uptoSmall : (H : Type) → List (DataW H) → Bool := fun _ ds => decide (uptoBulkAll ds ≤ 1048576)
def OpenSpec.upto (s : _root_.Go.ChangeSpec) : _root_.Go.OpenSpec := { _root_.Go.OpenSpec.ofChange s with cond := some uptoSmall }

/-- 'lockwrightlaw.LiarsFermats', WHERE WHAT IT READS IS OF BULK AT MOST 1048576: true; the input reads as it did. -/
def liarsFermatsUptoRow : OpenClaim := { program := "ytnciahbpmajhdaa", sum := "31ddd512395688a9b16ea49991a3ac418b240977aee236cce324e0fe5f538ea3", func := "lockwright/lockwrightlaw.LiarsFermats", spec := "liarsFermats", unfollowed := true, recurses := true, apart := false, narrowed := true }
def LiarsFermatsUptoSaid : Prop := liarsFermatsUptoRow.holds Try.pinned (OpenSpec.upto liarsFermatsSpec)

/-- 'lockwrightlaw.LiarsEulers', WHERE WHAT IT READS IS OF BULK AT MOST 1048576: true; the input reads as it did. -/
def liarsEulersUptoRow : OpenClaim := { program := "ytnciahbpmajhdaa", sum := "31ddd512395688a9b16ea49991a3ac418b240977aee236cce324e0fe5f538ea3", func := "lockwright/lockwrightlaw.LiarsEulers", spec := "liarsEulers", unfollowed := true, recurses := true, apart := false, narrowed := true }
def LiarsEulersUptoSaid : Prop := liarsEulersUptoRow.holds Try.pinned (OpenSpec.upto liarsEulersSpec)

/-- 'lockwrightlaw.LiarsStrong', WHERE WHAT IT READS IS OF BULK AT MOST 1048576: true; the input reads as it did. -/
def liarsStrongUptoRow : OpenClaim := { program := "ytnciahbpmajhdaa", sum := "31ddd512395688a9b16ea49991a3ac418b240977aee236cce324e0fe5f538ea3", func := "lockwright/lockwrightlaw.LiarsStrong", spec := "liarsStrong", unfollowed := true, recurses := true, apart := false, narrowed := true }
def LiarsStrongUptoSaid : Prop := liarsStrongUptoRow.holds Try.pinned (OpenSpec.upto liarsStrongSpec)

/-- 'lockwrightlaw.LiarsCounts', WHERE WHAT IT READS IS OF BULK AT MOST 1048576: true; the input reads as it did. -/
def liarsCountsUptoRow : OpenClaim := { program := "ytnciahbpmajhdaa", sum := "31ddd512395688a9b16ea49991a3ac418b240977aee236cce324e0fe5f538ea3", func := "lockwright/lockwrightlaw.LiarsCounts", spec := "liarsCounts", recurses := true, apart := false, narrowed := true }
def LiarsCountsUptoSaid : Prop := liarsCountsUptoRow.holds Try.pinned (OpenSpec.upto liarsCountsSpec)

/-- 'lockwrightkeep.LiarsPrime', WHERE WHAT IT READS IS OF BULK AT MOST 1048576: true; the input reads as it did. -/
def liarsPrimeUptoRow : OpenClaim := { program := "ytnciahbpmajhdaa", sum := "31ddd512395688a9b16ea49991a3ac418b240977aee236cce324e0fe5f538ea3", func := "lockwright/lockwrightkeep.LiarsPrime", spec := "liarsPrime", unfollowed := true, recurses := true, apart := false, narrowed := true }
def LiarsPrimeUptoSaid : Prop := liarsPrimeUptoRow.holds Try.pinned (OpenSpec.upto liarsPrimeSpec)

/-- 'lockwrightkeep.LiarsChain', WHERE WHAT IT READS IS OF BULK AT MOST 1048576: true; the input reads as it did. -/
def liarsChainUptoRow : OpenClaim := { program := "ytnciahbpmajhdaa", sum := "31ddd512395688a9b16ea49991a3ac418b240977aee236cce324e0fe5f538ea3", func := "lockwright/lockwrightkeep.LiarsChain", spec := "liarsChain", unfollowed := true, recurses := true, apart := false, narrowed := true }
def LiarsChainUptoSaid : Prop := liarsChainUptoRow.holds Try.pinned (OpenSpec.upto liarsChainSpec)

end Rows
end Go.Proofs.Ytnciahbpmajhdaa
