/-
  No cell of these rows narrows 'for every input' (looked for: loops, veiled, ifaces, maps, wideKeys, modest, calm, conditions, laid).
  DERIVED. THE GIVEN ROWS OF THIS SEAT. 6 by the template 'for every input the law returns true; each argument reads behind the call as it read before'; 0 by the template 'total and deterministic' (their statements: YtmfcfjjcgkfblaaTotals.lean).
  GIVEN WITH THE SEED: the statements are not yours to turn. If you find one false, say at which input.
  Laid BY PROGRAM, IN A SANDBOX (cutbox-rows.mjs): the forced cells as the released guide's own fill.sh prints them over the translation a24aa18ab3f11c57… (all of the seat's roots in one cut). By AI agents, Wed Nov 11 2026. No macro, syntax, notation, axiom, sorry.
-/
import Derived.Test.YtmfcfjjcgkfblaaChecked
import GoSem.Claim
import GoSem.ClaimJoined
import GoSem.ClaimMapViews
import Derived.JoinedTies
import Derived.KernelRfl
namespace Go.Proofs.Ytmfcfjjcgkfblaa
/- THE CELL 'sum', in the pinned program and in every row, IS THE sha256 OF THE DUMP (.gsa) THAT YtmfcfjjcgkfblaaProg.lean LOADS. Nothing in Lean hashes anything: it is a label: what it is worth is what the hold of that sum in a sandbox is worth. -/
noncomputable def Try.pinned : Pinned := { name := "ytmfcfjjcgkfblaa", sum := "a24aa18ab3f11c57f93b1e2c859aed3f5fb6d20d5c51782367c7c2b4cf30a0a7", checked := Try.checked }
namespace Rows
def none {H : Type} : Left H := { results := [], args := [] }

/-- 'lockwrightlaw.EuclidGcds': WHATEVER THE INPUT: true; the input reads as it did. -/
def euclidGcdsSpec : ChangeSpec := { name := "euclidGcds", fn := fun _ => fun
  | [d1, d2] => { results := [.lit (.bool true)], args := [d1, d2] }
  | _ => none }
def euclidGcdsRow : OpenClaim := { program := "ytmfcfjjcgkfblaa", sum := "a24aa18ab3f11c57f93b1e2c859aed3f5fb6d20d5c51782367c7c2b4cf30a0a7", func := "lockwright/lockwrightlaw.EuclidGcds", spec := "euclidGcds", apart := false }
def EuclidGcdsSaid : Prop := euclidGcdsRow.holds Try.pinned (OpenSpec.ofChange euclidGcdsSpec)

/-- ITS FALSE NEIGHBOUR: 'it returns false'. Refute it at one input. -/
def euclidGcdsWrong : ChangeSpec := { name := "euclidGcds", fn := fun _ => fun
  | [d1, d2] => { results := [.lit (.bool false)], args := [d1, d2] }
  | _ => none }
def EuclidGcdsWrongFalsely : Prop := euclidGcdsRow.holds Try.pinned (OpenSpec.ofChange euclidGcdsWrong)

/-- 'lockwrightlaw.EuclidLcms': WHATEVER THE INPUT: true; the input reads as it did. -/
def euclidLcmsSpec : ChangeSpec := { name := "euclidLcms", fn := fun _ => fun
  | [d1, d2] => { results := [.lit (.bool true)], args := [d1, d2] }
  | _ => none }
def euclidLcmsRow : OpenClaim := { program := "ytmfcfjjcgkfblaa", sum := "a24aa18ab3f11c57f93b1e2c859aed3f5fb6d20d5c51782367c7c2b4cf30a0a7", func := "lockwright/lockwrightlaw.EuclidLcms", spec := "euclidLcms", apart := false }
def EuclidLcmsSaid : Prop := euclidLcmsRow.holds Try.pinned (OpenSpec.ofChange euclidLcmsSpec)

/-- ITS FALSE NEIGHBOUR: 'it returns false'. Refute it at one input. -/
def euclidLcmsWrong : ChangeSpec := { name := "euclidLcms", fn := fun _ => fun
  | [d1, d2] => { results := [.lit (.bool false)], args := [d1, d2] }
  | _ => none }
def EuclidLcmsWrongFalsely : Prop := euclidLcmsRow.holds Try.pinned (OpenSpec.ofChange euclidLcmsWrong)

/-- 'lockwrightlaw.EuclidMakes': WHATEVER THE INPUT: true; the input reads as it did. -/
def euclidMakesSpec : ChangeSpec := { name := "euclidMakes", fn := fun _ => fun
  | [d1, d2] => { results := [.lit (.bool true)], args := [d1, d2] }
  | _ => none }
def euclidMakesRow : OpenClaim := { program := "ytmfcfjjcgkfblaa", sum := "a24aa18ab3f11c57f93b1e2c859aed3f5fb6d20d5c51782367c7c2b4cf30a0a7", func := "lockwright/lockwrightlaw.EuclidMakes", spec := "euclidMakes", apart := false }
def EuclidMakesSaid : Prop := euclidMakesRow.holds Try.pinned (OpenSpec.ofChange euclidMakesSpec)

/-- ITS FALSE NEIGHBOUR: 'it returns false'. Refute it at one input. -/
def euclidMakesWrong : ChangeSpec := { name := "euclidMakes", fn := fun _ => fun
  | [d1, d2] => { results := [.lit (.bool false)], args := [d1, d2] }
  | _ => none }
def EuclidMakesWrongFalsely : Prop := euclidMakesRow.holds Try.pinned (OpenSpec.ofChange euclidMakesWrong)

/-- 'lockwrightlaw.EuclidInverts': WHATEVER THE INPUT: true; the input reads as it did. -/
def euclidInvertsSpec : ChangeSpec := { name := "euclidInverts", fn := fun _ => fun
  | [d1, d2] => { results := [.lit (.bool true)], args := [d1, d2] }
  | _ => none }
def euclidInvertsRow : OpenClaim := { program := "ytmfcfjjcgkfblaa", sum := "a24aa18ab3f11c57f93b1e2c859aed3f5fb6d20d5c51782367c7c2b4cf30a0a7", func := "lockwright/lockwrightlaw.EuclidInverts", spec := "euclidInverts", apart := false }
def EuclidInvertsSaid : Prop := euclidInvertsRow.holds Try.pinned (OpenSpec.ofChange euclidInvertsSpec)

/-- ITS FALSE NEIGHBOUR: 'it returns false'. Refute it at one input. -/
def euclidInvertsWrong : ChangeSpec := { name := "euclidInverts", fn := fun _ => fun
  | [d1, d2] => { results := [.lit (.bool false)], args := [d1, d2] }
  | _ => none }
def EuclidInvertsWrongFalsely : Prop := euclidInvertsRow.holds Try.pinned (OpenSpec.ofChange euclidInvertsWrong)

/-- 'lockwrightkeep.EuclidDivides': WHATEVER THE INPUT: true; the input reads as it did. -/
def euclidDividesSpec : ChangeSpec := { name := "euclidDivides", fn := fun _ => fun
  | [d1, d2, d3] => { results := [.lit (.bool true)], args := [d1, d2, d3] }
  | _ => none }
def euclidDividesRow : OpenClaim := { program := "ytmfcfjjcgkfblaa", sum := "a24aa18ab3f11c57f93b1e2c859aed3f5fb6d20d5c51782367c7c2b4cf30a0a7", func := "lockwright/lockwrightkeep.EuclidDivides", spec := "euclidDivides", apart := false }
def EuclidDividesSaid : Prop := euclidDividesRow.holds Try.pinned (OpenSpec.ofChange euclidDividesSpec)

/-- ITS FALSE NEIGHBOUR: 'it returns false'. Refute it at one input. -/
def euclidDividesWrong : ChangeSpec := { name := "euclidDivides", fn := fun _ => fun
  | [d1, d2, d3] => { results := [.lit (.bool false)], args := [d1, d2, d3] }
  | _ => none }
def EuclidDividesWrongFalsely : Prop := euclidDividesRow.holds Try.pinned (OpenSpec.ofChange euclidDividesWrong)

/-- 'lockwrightkeep.EuclidLcm': WHATEVER THE INPUT: true; the input reads as it did. -/
def euclidLcmSpec : ChangeSpec := { name := "euclidLcm", fn := fun _ => fun
  | [d1, d2] => { results := [.lit (.bool true)], args := [d1, d2] }
  | _ => none }
def euclidLcmRow : OpenClaim := { program := "ytmfcfjjcgkfblaa", sum := "a24aa18ab3f11c57f93b1e2c859aed3f5fb6d20d5c51782367c7c2b4cf30a0a7", func := "lockwright/lockwrightkeep.EuclidLcm", spec := "euclidLcm", apart := false }
def EuclidLcmSaid : Prop := euclidLcmRow.holds Try.pinned (OpenSpec.ofChange euclidLcmSpec)

/-- ITS FALSE NEIGHBOUR: 'it returns false'. Refute it at one input. -/
def euclidLcmWrong : ChangeSpec := { name := "euclidLcm", fn := fun _ => fun
  | [d1, d2] => { results := [.lit (.bool false)], args := [d1, d2] }
  | _ => none }
def EuclidLcmWrongFalsely : Prop := euclidLcmRow.holds Try.pinned (OpenSpec.ofChange euclidLcmWrong)

/- THE SECOND FORM. 'bulk': how many values and letters a reading holds, each counted each time it is reached (what is shared counts as often as it is met; a slice's spare places count too). A statement '..UptoSaid' is the law's where the arguments, and the package variables that the reading takes, are together of bulk at most 1048576: NARROWER than '..Said'. Prove '..Said' where nothing that the law and all that it calls make is longer than what came in: it says more and counts as full. Else prove '..UptoSaid'. A law counts once. -/
mutual
def uptoBulk {H : Type} : DataW H → Nat
  | .lit (.string bytes) => bytes.length + 1
  | .lit _ => 1
  | .nil => 1
  | .ptr d => uptoBulk d + 1
  | .slice elems spare => uptoBulkAll elems + uptoBulkAll spare + 1
  | .agg parts => uptoBulkAll parts + 1
  | .iface _ d => uptoBulk d + 1
  | .map entries => uptoBulkEntries entries + 1
  | .held _ => 1
def uptoBulkAll {H : Type} : List (DataW H) → Nat
  | [] => 0
  | d :: r => uptoBulk d + uptoBulkAll r
def uptoBulkEntries {H : Type} : List (Lit × DataW H) → Nat
  | [] => 0
  | x :: r => uptoBulkEntry x + uptoBulkEntries r
def uptoBulkEntry {H : Type} : Lit × DataW H → Nat
  | (.string bytes, d) => bytes.length + uptoBulk d + 1
  | (_, d) => uptoBulk d + 1
 end
def uptoSmall : (H : Type) → List (DataW H) → Bool := fun _ ds => decide (uptoBulkAll ds ≤ 1048576)
def OpenSpec.upto (s : _root_.Go.ChangeSpec) : _root_.Go.OpenSpec := { _root_.Go.OpenSpec.ofChange s with cond := some uptoSmall }

/-- 'lockwrightlaw.EuclidGcds', WHERE WHAT IT READS IS OF BULK AT MOST 1048576: true; the input reads as it did. -/
def euclidGcdsUptoRow : OpenClaim := { program := "ytmfcfjjcgkfblaa", sum := "a24aa18ab3f11c57f93b1e2c859aed3f5fb6d20d5c51782367c7c2b4cf30a0a7", func := "lockwright/lockwrightlaw.EuclidGcds", spec := "euclidGcds", apart := false, narrowed := true }
def EuclidGcdsUptoSaid : Prop := euclidGcdsUptoRow.holds Try.pinned (OpenSpec.upto euclidGcdsSpec)

/-- 'lockwrightlaw.EuclidLcms', WHERE WHAT IT READS IS OF BULK AT MOST 1048576: true; the input reads as it did. -/
def euclidLcmsUptoRow : OpenClaim := { program := "ytmfcfjjcgkfblaa", sum := "a24aa18ab3f11c57f93b1e2c859aed3f5fb6d20d5c51782367c7c2b4cf30a0a7", func := "lockwright/lockwrightlaw.EuclidLcms", spec := "euclidLcms", apart := false, narrowed := true }
def EuclidLcmsUptoSaid : Prop := euclidLcmsUptoRow.holds Try.pinned (OpenSpec.upto euclidLcmsSpec)

/-- 'lockwrightlaw.EuclidMakes', WHERE WHAT IT READS IS OF BULK AT MOST 1048576: true; the input reads as it did. -/
def euclidMakesUptoRow : OpenClaim := { program := "ytmfcfjjcgkfblaa", sum := "a24aa18ab3f11c57f93b1e2c859aed3f5fb6d20d5c51782367c7c2b4cf30a0a7", func := "lockwright/lockwrightlaw.EuclidMakes", spec := "euclidMakes", apart := false, narrowed := true }
def EuclidMakesUptoSaid : Prop := euclidMakesUptoRow.holds Try.pinned (OpenSpec.upto euclidMakesSpec)

/-- 'lockwrightlaw.EuclidInverts', WHERE WHAT IT READS IS OF BULK AT MOST 1048576: true; the input reads as it did. -/
def euclidInvertsUptoRow : OpenClaim := { program := "ytmfcfjjcgkfblaa", sum := "a24aa18ab3f11c57f93b1e2c859aed3f5fb6d20d5c51782367c7c2b4cf30a0a7", func := "lockwright/lockwrightlaw.EuclidInverts", spec := "euclidInverts", apart := false, narrowed := true }
def EuclidInvertsUptoSaid : Prop := euclidInvertsUptoRow.holds Try.pinned (OpenSpec.upto euclidInvertsSpec)

/-- 'lockwrightkeep.EuclidDivides', WHERE WHAT IT READS IS OF BULK AT MOST 1048576: true; the input reads as it did. -/
def euclidDividesUptoRow : OpenClaim := { program := "ytmfcfjjcgkfblaa", sum := "a24aa18ab3f11c57f93b1e2c859aed3f5fb6d20d5c51782367c7c2b4cf30a0a7", func := "lockwright/lockwrightkeep.EuclidDivides", spec := "euclidDivides", apart := false, narrowed := true }
def EuclidDividesUptoSaid : Prop := euclidDividesUptoRow.holds Try.pinned (OpenSpec.upto euclidDividesSpec)

/-- 'lockwrightkeep.EuclidLcm', WHERE WHAT IT READS IS OF BULK AT MOST 1048576: true; the input reads as it did. -/
def euclidLcmUptoRow : OpenClaim := { program := "ytmfcfjjcgkfblaa", sum := "a24aa18ab3f11c57f93b1e2c859aed3f5fb6d20d5c51782367c7c2b4cf30a0a7", func := "lockwright/lockwrightkeep.EuclidLcm", spec := "euclidLcm", apart := false, narrowed := true }
def EuclidLcmUptoSaid : Prop := euclidLcmUptoRow.holds Try.pinned (OpenSpec.upto euclidLcmSpec)

end Rows
end Go.Proofs.Ytmfcfjjcgkfblaa
