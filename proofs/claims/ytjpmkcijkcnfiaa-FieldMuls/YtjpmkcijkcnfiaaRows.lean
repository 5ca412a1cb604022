/-
  No cell of these rows narrows 'for every input' (looked for: loops, veiled, ifaces, maps, wideKeys, modest, calm, conditions, laid).
  DERIVED. THE GIVEN ROWS OF THIS SEAT. 6 by the template 'for every input the law returns true; each argument reads behind the call as it read before'; 0 by the template 'total and deterministic' (their statements: YtjpmkcijkcnfiaaTotals.lean).
  GIVEN WITH THE SEED: the statements are not yours to turn. If you find one false, say at which input.
  Laid BY PROGRAM, IN A SANDBOX (cutbox-rows.mjs): the forced cells as the released guide's own fill.sh prints them over the translation 4e4c30fdbfa85c53… (all of the seat's roots in one cut). By AI agents, Wed Nov 11 2026. No macro, syntax, notation, axiom, sorry.
-/
import Derived.Test.YtjpmkcijkcnfiaaChecked
import GoSem.Claim
import GoSem.ClaimJoined
import GoSem.ClaimMapViews
import Derived.JoinedTies
import Derived.KernelRfl
namespace Go.Proofs.Ytjpmkcijkcnfiaa
/- THE CELL 'sum', in the pinned program and in every row, IS THE sha256 OF THE DUMP (.gsa) THAT YtjpmkcijkcnfiaaProg.lean LOADS. Nothing in Lean hashes anything: it is a label: what it is worth is what the hold of that sum in a sandbox is worth. -/
noncomputable def Try.pinned : Pinned := { name := "ytjpmkcijkcnfiaa", sum := "4e4c30fdbfa85c53412e48492b3ddf2b37cf0186d5031cd5de477f474e246e53", checked := Try.checked }
namespace Rows
def none {H : Type} : Left H := { results := [], args := [] }

/-- 'lockwrightlaw.FieldChecks': WHATEVER THE INPUT: true; the input reads as it did. -/
def fieldChecksSpec : ChangeSpec := { name := "fieldChecks", fn := fun _ => fun
  | [d1, d2] => { results := [.lit (.bool true)], args := [d1, d2] }
  | _ => none }
def fieldChecksRow : OpenClaim := { program := "ytjpmkcijkcnfiaa", sum := "4e4c30fdbfa85c53412e48492b3ddf2b37cf0186d5031cd5de477f474e246e53", func := "lockwright/lockwrightlaw.FieldChecks", spec := "fieldChecks", unfollowed := true, recurses := true, apart := false }
def FieldChecksSaid : Prop := fieldChecksRow.holds Try.pinned (OpenSpec.ofChange fieldChecksSpec)

/-- ITS FALSE NEIGHBOUR: 'it returns false'. Refute it at one input. -/
def fieldChecksWrong : ChangeSpec := { name := "fieldChecks", fn := fun _ => fun
  | [d1, d2] => { results := [.lit (.bool false)], args := [d1, d2] }
  | _ => none }
def FieldChecksWrongFalsely : Prop := fieldChecksRow.holds Try.pinned (OpenSpec.ofChange fieldChecksWrong)

/-- 'lockwrightlaw.FieldAdds': WHATEVER THE INPUT: true; the input reads as it did. -/
def fieldAddsSpec : ChangeSpec := { name := "fieldAdds", fn := fun _ => fun
  | [d1, d2, d3, d4] => { results := [.lit (.bool true)], args := [d1, d2, d3, d4] }
  | _ => none }
def fieldAddsRow : OpenClaim := { program := "ytjpmkcijkcnfiaa", sum := "4e4c30fdbfa85c53412e48492b3ddf2b37cf0186d5031cd5de477f474e246e53", func := "lockwright/lockwrightlaw.FieldAdds", spec := "fieldAdds", unfollowed := true, recurses := true, apart := false }
def FieldAddsSaid : Prop := fieldAddsRow.holds Try.pinned (OpenSpec.ofChange fieldAddsSpec)

/-- ITS FALSE NEIGHBOUR: 'it returns false'. Refute it at one input. -/
def fieldAddsWrong : ChangeSpec := { name := "fieldAdds", fn := fun _ => fun
  | [d1, d2, d3, d4] => { results := [.lit (.bool false)], args := [d1, d2, d3, d4] }
  | _ => none }
def FieldAddsWrongFalsely : Prop := fieldAddsRow.holds Try.pinned (OpenSpec.ofChange fieldAddsWrong)

/-- 'lockwrightlaw.FieldMuls': WHATEVER THE INPUT: true; the input reads as it did. -/
def fieldMulsSpec : ChangeSpec := { name := "fieldMuls", fn := fun _ => fun
  | [d1, d2, d3, d4] => { results := [.lit (.bool true)], args := [d1, d2, d3, d4] }
  | _ => none }
def fieldMulsRow : OpenClaim := { program := "ytjpmkcijkcnfiaa", sum := "4e4c30fdbfa85c53412e48492b3ddf2b37cf0186d5031cd5de477f474e246e53", func := "lockwright/lockwrightlaw.FieldMuls", spec := "fieldMuls", unfollowed := true, recurses := true, apart := false }
def FieldMulsSaid : Prop := fieldMulsRow.holds Try.pinned (OpenSpec.ofChange fieldMulsSpec)

/-- ITS FALSE NEIGHBOUR: 'it returns false'. Refute it at one input. -/
def fieldMulsWrong : ChangeSpec := { name := "fieldMuls", fn := fun _ => fun
  | [d1, d2, d3, d4] => { results := [.lit (.bool false)], args := [d1, d2, d3, d4] }
  | _ => none }
def FieldMulsWrongFalsely : Prop := fieldMulsRow.holds Try.pinned (OpenSpec.ofChange fieldMulsWrong)

/-- 'lockwrightlaw.FieldInverts': WHATEVER THE INPUT: true; the input reads as it did. -/
def fieldInvertsSpec : ChangeSpec := { name := "fieldInverts", fn := fun _ => fun
  | [d1, d2, d3] => { results := [.lit (.bool true)], args := [d1, d2, d3] }
  | _ => none }
def fieldInvertsRow : OpenClaim := { program := "ytjpmkcijkcnfiaa", sum := "4e4c30fdbfa85c53412e48492b3ddf2b37cf0186d5031cd5de477f474e246e53", func := "lockwright/lockwrightlaw.FieldInverts", spec := "fieldInverts", unfollowed := true, recurses := true, apart := false }
def FieldInvertsSaid : Prop := fieldInvertsRow.holds Try.pinned (OpenSpec.ofChange fieldInvertsSpec)

/-- ITS FALSE NEIGHBOUR: 'it returns false'. Refute it at one input. -/
def fieldInvertsWrong : ChangeSpec := { name := "fieldInverts", fn := fun _ => fun
  | [d1, d2, d3] => { results := [.lit (.bool false)], args := [d1, d2, d3] }
  | _ => none }
def FieldInvertsWrongFalsely : Prop := fieldInvertsRow.holds Try.pinned (OpenSpec.ofChange fieldInvertsWrong)

/-- 'lockwrightlaw.FieldBases': WHATEVER THE INPUT: true; the input reads as it did. -/
def fieldBasesSpec : ChangeSpec := { name := "fieldBases", fn := fun _ => fun
  | [d1, d2] => { results := [.lit (.bool true)], args := [d1, d2] }
  | _ => none }
def fieldBasesRow : OpenClaim := { program := "ytjpmkcijkcnfiaa", sum := "4e4c30fdbfa85c53412e48492b3ddf2b37cf0186d5031cd5de477f474e246e53", func := "lockwright/lockwrightlaw.FieldBases", spec := "fieldBases", unfollowed := true, recurses := true, apart := false }
def FieldBasesSaid : Prop := fieldBasesRow.holds Try.pinned (OpenSpec.ofChange fieldBasesSpec)

/-- ITS FALSE NEIGHBOUR: 'it returns false'. Refute it at one input. -/
def fieldBasesWrong : ChangeSpec := { name := "fieldBases", fn := fun _ => fun
  | [d1, d2] => { results := [.lit (.bool false)], args := [d1, d2] }
  | _ => none }
def FieldBasesWrongFalsely : Prop := fieldBasesRow.holds Try.pinned (OpenSpec.ofChange fieldBasesWrong)

/-- 'lockwrightkeep.FieldAlgebra': WHATEVER THE INPUT: true; the input reads as it did. -/
def fieldAlgebraSpec : ChangeSpec := { name := "fieldAlgebra", fn := fun _ => fun
  | [d1, d2, d3, d4, d5] => { results := [.lit (.bool true)], args := [d1, d2, d3, d4, d5] }
  | _ => none }
def fieldAlgebraRow : OpenClaim := { program := "ytjpmkcijkcnfiaa", sum := "4e4c30fdbfa85c53412e48492b3ddf2b37cf0186d5031cd5de477f474e246e53", func := "lockwright/lockwrightkeep.FieldAlgebra", spec := "fieldAlgebra", unfollowed := true, recurses := true, apart := false }
def FieldAlgebraSaid : Prop := fieldAlgebraRow.holds Try.pinned (OpenSpec.ofChange fieldAlgebraSpec)

/-- ITS FALSE NEIGHBOUR: 'it returns false'. Refute it at one input. -/
def fieldAlgebraWrong : ChangeSpec := { name := "fieldAlgebra", fn := fun _ => fun
  | [d1, d2, d3, d4, d5] => { results := [.lit (.bool false)], args := [d1, d2, d3, d4, d5] }
  | _ => none }
def FieldAlgebraWrongFalsely : Prop := fieldAlgebraRow.holds Try.pinned (OpenSpec.ofChange fieldAlgebraWrong)

/- THE SECOND FORM. 'bulk': how many values and letters a reading holds, each counted each time it is reached (what is shared counts as often as it is met; a slice's spare places count too). A statement '..UptoSaid' is the law's where the arguments, and the package variables that the reading takes, are together of bulk at most 1048576: NARROWER than '..Said'. Prove '..Said' where nothing that the law and all that it calls make is longer than what came in: it says more and counts as full. Else prove '..UptoSaid'. A law counts once. -/
mutual
def uptoBulk {H : Type} : DataW H → Nat
  | .lit (.string bytes) => bytes.length + 1
  | .lit _ => 1
  | .nil => 1
  | .ptr d => uptoBulk d + 1
  | .slice elems spare => uptoBulkAll elems + uptoBulkAll spare + 1
  | .agg parts => uptoBulkAll parts + 1
  | .iface _ d => uptoBulk d + 1
  | .map entries => uptoBulkEntries entries + 1
  | .held _ => 1
def uptoBulkAll {H : Type} : List (DataW H) → Nat
  | [] => 0
  | d :: r => uptoBulk d + uptoBulkAll r
def uptoBulkEntries {H : Type} : List (Lit × DataW H) → Nat
  | [] => 0
  | x :: r => uptoBulkEntry x + uptoBulkEntries r
def uptoBulkEntry {H : Type} : Lit × DataW H → Nat
  | (.string bytes, d) => bytes.length + uptoBulk d + 1
  | (_, d) => uptoBulk d + 1
 end
def uptoSmall : (H : Type) → List (DataW H) → Bool := fun _ ds => decide (uptoBulkAll ds ≤ 1048576)
def OpenSpec.upto (s : _root_.Go.ChangeSpec) : _root_.Go.OpenSpec := { _root_.Go.OpenSpec.ofChange s with cond := some uptoSmall }

/-- 'lockwrightlaw.FieldChecks', WHERE WHAT IT READS IS OF BULK AT MOST 1048576: true; the input reads as it did. -/
def fieldChecksUptoRow : OpenClaim := { program := "ytjpmkcijkcnfiaa", sum := "4e4c30fdbfa85c53412e48492b3ddf2b37cf0186d5031cd5de477f474e246e53", func := "lockwright/lockwrightlaw.FieldChecks", spec := "fieldChecks", unfollowed := true, recurses := true, apart := false, narrowed := true }
def FieldChecksUptoSaid : Prop := fieldChecksUptoRow.holds Try.pinned (OpenSpec.upto fieldChecksSpec)

/-- 'lockwrightlaw.FieldAdds', WHERE WHAT IT READS IS OF BULK AT MOST 1048576: true; the input reads as it did. -/
def fieldAddsUptoRow : OpenClaim := { program := "ytjpmkcijkcnfiaa", sum := "4e4c30fdbfa85c53412e48492b3ddf2b37cf0186d5031cd5de477f474e246e53", func := "lockwright/lockwrightlaw.FieldAdds", spec := "fieldAdds", unfollowed := true, recurses := true, apart := false, narrowed := true }
def FieldAddsUptoSaid : Prop := fieldAddsUptoRow.holds Try.pinned (OpenSpec.upto fieldAddsSpec)

/-- 'lockwrightlaw.FieldMuls', WHERE WHAT IT READS IS OF BULK AT MOST 1048576: true; the input reads as it did. -/
def fieldMulsUptoRow : OpenClaim := { program := "ytjpmkcijkcnfiaa", sum := "4e4c30fdbfa85c53412e48492b3ddf2b37cf0186d5031cd5de477f474e246e53", func := "lockwright/lockwrightlaw.FieldMuls", spec := "fieldMuls", unfollowed := true, recurses := true, apart := false, narrowed := true }
def FieldMulsUptoSaid : Prop := fieldMulsUptoRow.holds Try.pinned (OpenSpec.upto fieldMulsSpec)

/-- 'lockwrightlaw.FieldInverts', WHERE WHAT IT READS IS OF BULK AT MOST 1048576: true; the input reads as it did. -/
def fieldInvertsUptoRow : OpenClaim := { program := "ytjpmkcijkcnfiaa", sum := "4e4c30fdbfa85c53412e48492b3ddf2b37cf0186d5031cd5de477f474e246e53", func := "lockwright/lockwrightlaw.FieldInverts", spec := "fieldInverts", unfollowed := true, recurses := true, apart := false, narrowed := true }
def FieldInvertsUptoSaid : Prop := fieldInvertsUptoRow.holds Try.pinned (OpenSpec.upto fieldInvertsSpec)

/-- 'lockwrightlaw.FieldBases', WHERE WHAT IT READS IS OF BULK AT MOST 1048576: true; the input reads as it did. -/
def fieldBasesUptoRow : OpenClaim := { program := "ytjpmkcijkcnfiaa", sum := "4e4c30fdbfa85c53412e48492b3ddf2b37cf0186d5031cd5de477f474e246e53", func := "lockwright/lockwrightlaw.FieldBases", spec := "fieldBases", unfollowed := true, recurses := true, apart := false, narrowed := true }
def FieldBasesUptoSaid : Prop := fieldBasesUptoRow.holds Try.pinned (OpenSpec.upto fieldBasesSpec)

/-- 'lockwrightkeep.FieldAlgebra', WHERE WHAT IT READS IS OF BULK AT MOST 1048576: true; the input reads as it did. -/
def fieldAlgebraUptoRow : OpenClaim := { program := "ytjpmkcijkcnfiaa", sum := "4e4c30fdbfa85c53412e48492b3ddf2b37cf0186d5031cd5de477f474e246e53", func := "lockwright/lockwrightkeep.FieldAlgebra", spec := "fieldAlgebra", unfollowed := true, recurses := true, apart := false, narrowed := true }
def FieldAlgebraUptoSaid : Prop := fieldAlgebraUptoRow.holds Try.pinned (OpenSpec.upto fieldAlgebraSpec)

end Rows
end Go.Proofs.Ytjpmkcijkcnfiaa
