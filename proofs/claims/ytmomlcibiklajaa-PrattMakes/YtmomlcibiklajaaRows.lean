/-
  No cell of these rows narrows 'for every input' (looked for: loops, veiled, ifaces, maps, wideKeys, modest, calm, conditions, laid).
  DERIVED. THE GIVEN ROWS OF THIS SEAT. 4 by the template 'for every input the law returns true; each argument reads behind the call as it read before'; 0 by the template 'total and deterministic' (their statements: YtmomlcibiklajaaTotals.lean).
  GIVEN WITH THE SEED: the statements are not yours to turn. If you find one false, say at which input.
  Laid BY PROGRAM, IN A SANDBOX (cutbox-rows.mjs): the forced cells as the released guide's own fill.sh prints them over the translation a7bd850ad5fcc891… (all of the seat's roots in one cut). By AI agents, Wed Nov 11 2026. No macro, syntax, notation, axiom, sorry.
-/
import Derived.Test.YtmomlcibiklajaaChecked
import GoSem.Claim
import GoSem.ClaimJoined
import GoSem.ClaimMapViews
import Derived.JoinedTies
import Derived.KernelRfl
namespace Go.Proofs.Ytmomlcibiklajaa
/- THE CELL 'sum', in the pinned program and in every row, IS THE sha256 OF THE DUMP (.gsa) THAT YtmomlcibiklajaaProg.lean LOADS. Nothing in Lean hashes anything: it is a label: what it is worth is what the hold of that sum in a sandbox is worth. -/
noncomputable def Try.pinned : Pinned := { name := "ytmomlcibiklajaa", sum := "a7bd850ad5fcc891d30615eee6b817a4dad9a49c205f9bf907b865267589eded", checked := Try.checked }
namespace Rows
def none {H : Type} : Left H := { results := [], args := [] }

/-- 'lockwrightlaw.PrattChecks': WHATEVER THE INPUT: true; the input reads as it did. -/
def prattChecksSpec : ChangeSpec := { name := "prattChecks", fn := fun _ => fun
  | [d] => { results := [.lit (.bool true)], args := [d] }
  | _ => none }
def prattChecksRow : OpenClaim := { program := "ytmomlcibiklajaa", sum := "a7bd850ad5fcc891d30615eee6b817a4dad9a49c205f9bf907b865267589eded", func := "lockwright/lockwrightlaw.PrattChecks", spec := "prattChecks", unfollowed := true, recurses := true, apart := false }
def PrattChecksSaid : Prop := prattChecksRow.holds Try.pinned (OpenSpec.ofChange prattChecksSpec)

/-- ITS FALSE NEIGHBOUR: 'it returns false'. Refute it at one input. -/
def prattChecksWrong : ChangeSpec := { name := "prattChecks", fn := fun _ => fun
  | [d] => { results := [.lit (.bool false)], args := [d] }
  | _ => none }
def PrattChecksWrongFalsely : Prop := prattChecksRow.holds Try.pinned (OpenSpec.ofChange prattChecksWrong)

/-- 'lockwrightlaw.PrattMakes': WHATEVER THE INPUT: true; the input reads as it did. -/
def prattMakesSpec : ChangeSpec := { name := "prattMakes", fn := fun _ => fun
  | [d] => { results := [.lit (.bool true)], args := [d] }
  | _ => none }
def prattMakesRow : OpenClaim := { program := "ytmomlcibiklajaa", sum := "a7bd850ad5fcc891d30615eee6b817a4dad9a49c205f9bf907b865267589eded", func := "lockwright/lockwrightlaw.PrattMakes", spec := "prattMakes", unfollowed := true, recurses := true, apart := false }
def PrattMakesSaid : Prop := prattMakesRow.holds Try.pinned (OpenSpec.ofChange prattMakesSpec)

/-- ITS FALSE NEIGHBOUR: 'it returns false'. Refute it at one input. -/
def prattMakesWrong : ChangeSpec := { name := "prattMakes", fn := fun _ => fun
  | [d] => { results := [.lit (.bool false)], args := [d] }
  | _ => none }
def PrattMakesWrongFalsely : Prop := prattMakesRow.holds Try.pinned (OpenSpec.ofChange prattMakesWrong)

/-- 'lockwrightkeep.PrattProves': WHATEVER THE INPUT: true; the input reads as it did. -/
def prattProvesSpec : ChangeSpec := { name := "prattProves", fn := fun _ => fun
  | [d] => { results := [.lit (.bool true)], args := [d] }
  | _ => none }
def prattProvesRow : OpenClaim := { program := "ytmomlcibiklajaa", sum := "a7bd850ad5fcc891d30615eee6b817a4dad9a49c205f9bf907b865267589eded", func := "lockwright/lockwrightkeep.PrattProves", spec := "prattProves", unfollowed := true, recurses := true, apart := false }
def PrattProvesSaid : Prop := prattProvesRow.holds Try.pinned (OpenSpec.ofChange prattProvesSpec)

/-- ITS FALSE NEIGHBOUR: 'it returns false'. Refute it at one input. -/
def prattProvesWrong : ChangeSpec := { name := "prattProves", fn := fun _ => fun
  | [d] => { results := [.lit (.bool false)], args := [d] }
  | _ => none }
def PrattProvesWrongFalsely : Prop := prattProvesRow.holds Try.pinned (OpenSpec.ofChange prattProvesWrong)

/-- 'lockwrightkeep.PrattEach': WHATEVER THE INPUT: true; the input reads as it did. -/
def prattEachSpec : ChangeSpec := { name := "prattEach", fn := fun _ => fun
  | [d] => { results := [.lit (.bool true)], args := [d] }
  | _ => none }
def prattEachRow : OpenClaim := { program := "ytmomlcibiklajaa", sum := "a7bd850ad5fcc891d30615eee6b817a4dad9a49c205f9bf907b865267589eded", func := "lockwright/lockwrightkeep.PrattEach", spec := "prattEach", unfollowed := true, recurses := true, apart := false }
def PrattEachSaid : Prop := prattEachRow.holds Try.pinned (OpenSpec.ofChange prattEachSpec)

/-- ITS FALSE NEIGHBOUR: 'it returns false'. Refute it at one input. -/
def prattEachWrong : ChangeSpec := { name := "prattEach", fn := fun _ => fun
  | [d] => { results := [.lit (.bool false)], args := [d] }
  | _ => none }
def PrattEachWrongFalsely : Prop := prattEachRow.holds Try.pinned (OpenSpec.ofChange prattEachWrong)

/- THE SECOND FORM. 'bulk': how many values and letters a reading holds, each counted each time it is reached (what is shared counts as often as it is met; a slice's spare places count too). A statement '..UptoSaid' is the law's where the arguments, and the package variables that the reading takes, are together of bulk at most 1048576: NARROWER than '..Said'. Prove '..Said' where nothing that the law and all that it calls make is longer than what came in: it says more and counts as full. Else prove '..UptoSaid'. A law counts once. -/
mutual
def uptoBulk {H : Type} : DataW H → Nat
  | .lit (.string bytes) => bytes.length + 1
  | .lit _ => 1
  | .nil => 1
  | .ptr d => uptoBulk d + 1
  | .slice elems spare => uptoBulkAll elems + uptoBulkAll spare + 1
  | .agg parts => uptoBulkAll parts + 1
  | .iface _ d => uptoBulk d + 1
  | .map entries => uptoBulkEntries entries + 1
  | .held _ => 1
def uptoBulkAll {H : Type} : List (DataW H) → Nat
  | [] => 0
  | d :: r => uptoBulk d + uptoBulkAll r
def uptoBulkEntries {H : Type} : List (Lit × DataW H) → Nat
  | [] => 0
  | x :: r => uptoBulkEntry x + uptoBulkEntries r
def uptoBulkEntry {H : Type} : Lit × DataW H → Nat
  | (.string bytes, d) => bytes.length + uptoBulk d + 1
  | (_, d) => uptoBulk d + 1
 end
def uptoSmall : (H : Type) → List (DataW H) → Bool := fun _ ds => decide (uptoBulkAll ds ≤ 1048576)
def OpenSpec.upto (s : _root_.Go.ChangeSpec) : _root_.Go.OpenSpec := { _root_.Go.OpenSpec.ofChange s with cond := some uptoSmall }

/-- 'lockwrightlaw.PrattChecks', WHERE WHAT IT READS IS OF BULK AT MOST 1048576: true; the input reads as it did. -/
def prattChecksUptoRow : OpenClaim := { program := "ytmomlcibiklajaa", sum := "a7bd850ad5fcc891d30615eee6b817a4dad9a49c205f9bf907b865267589eded", func := "lockwright/lockwrightlaw.PrattChecks", spec := "prattChecks", unfollowed := true, recurses := true, apart := false, narrowed := true }
def PrattChecksUptoSaid : Prop := prattChecksUptoRow.holds Try.pinned (OpenSpec.upto prattChecksSpec)

/-- 'lockwrightlaw.PrattMakes', WHERE WHAT IT READS IS OF BULK AT MOST 1048576: true; the input reads as it did. -/
def prattMakesUptoRow : OpenClaim := { program := "ytmomlcibiklajaa", sum := "a7bd850ad5fcc891d30615eee6b817a4dad9a49c205f9bf907b865267589eded", func := "lockwright/lockwrightlaw.PrattMakes", spec := "prattMakes", unfollowed := true, recurses := true, apart := false, narrowed := true }
def PrattMakesUptoSaid : Prop := prattMakesUptoRow.holds Try.pinned (OpenSpec.upto prattMakesSpec)

/-- 'lockwrightkeep.PrattProves', WHERE WHAT IT READS IS OF BULK AT MOST 1048576: true; the input reads as it did. -/
def prattProvesUptoRow : OpenClaim := { program := "ytmomlcibiklajaa", sum := "a7bd850ad5fcc891d30615eee6b817a4dad9a49c205f9bf907b865267589eded", func := "lockwright/lockwrightkeep.PrattProves", spec := "prattProves", unfollowed := true, recurses := true, apart := false, narrowed := true }
def PrattProvesUptoSaid : Prop := prattProvesUptoRow.holds Try.pinned (OpenSpec.upto prattProvesSpec)

/-- 'lockwrightkeep.PrattEach', WHERE WHAT IT READS IS OF BULK AT MOST 1048576: true; the input reads as it did. -/
def prattEachUptoRow : OpenClaim := { program := "ytmomlcibiklajaa", sum := "a7bd850ad5fcc891d30615eee6b817a4dad9a49c205f9bf907b865267589eded", func := "lockwright/lockwrightkeep.PrattEach", spec := "prattEach", unfollowed := true, recurses := true, apart := false, narrowed := true }
def PrattEachUptoSaid : Prop := prattEachUptoRow.holds Try.pinned (OpenSpec.upto prattEachSpec)

end Rows
end Go.Proofs.Ytmomlcibiklajaa
