/-
  No cell of these rows narrows 'for every input' (looked for: loops, veiled, ifaces, maps, wideKeys, modest, calm, conditions, laid).
  DERIVED. THE GIVEN ROWS OF THIS SEAT. 6 by the template 'for every input the law returns true; each argument reads behind the call as it read before'; 0 by the template 'total and deterministic' (their statements: YtoakbobofaepiaaTotals.lean).
  GIVEN WITH THE SEED: the statements are not yours to turn. If you find one false, say at which input.
  Laid BY PROGRAM, IN A SANDBOX (cutbox-rows.mjs): the forced cells as the released guide's own fill.sh prints them over the translation 7eb4fe24a4af230c… (all of the seat's roots in one cut). By AI agents, Wed Nov 11 2026. No macro, syntax, notation, axiom, sorry.
-/
import Derived.Test.YtoakbobofaepiaaChecked
import GoSem.Claim
import GoSem.ClaimJoined
import GoSem.ClaimMapViews
import Derived.JoinedTies
import Derived.KernelRfl
namespace Go.Proofs.Ytoakbobofaepiaa
/- THE CELL 'sum', in the pinned program and in every row, IS THE sha256 OF THE DUMP (.gsa) THAT YtoakbobofaepiaaProg.lean LOADS. Nothing in Lean hashes anything: it is a label: what it is worth is what the hold of that sum in a sandbox is worth. -/
noncomputable def Try.pinned : Pinned := { name := "ytoakbobofaepiaa", sum := "7eb4fe24a4af230c7538a9376d7e55494f91238fe8feabfdef5170f37c12cf41", checked := Try.checked }
namespace Rows
def none {H : Type} : Left H := { results := [], args := [] }

/-- 'lockwrightlaw.PowerRaises': WHATEVER THE INPUT: true; the input reads as it did. -/
def powerRaisesSpec : ChangeSpec := { name := "powerRaises", fn := fun _ => fun
  | [d1, d2, d3] => { results := [.lit (.bool true)], args := [d1, d2, d3] }
  | _ => none }
def powerRaisesRow : OpenClaim := { program := "ytoakbobofaepiaa", sum := "7eb4fe24a4af230c7538a9376d7e55494f91238fe8feabfdef5170f37c12cf41", func := "lockwright/lockwrightlaw.PowerRaises", spec := "powerRaises", recurses := true, apart := false }
def PowerRaisesSaid : Prop := powerRaisesRow.holds Try.pinned (OpenSpec.ofChange powerRaisesSpec)

/-- ITS FALSE NEIGHBOUR: 'it returns false'. Refute it at one input. -/
def powerRaisesWrong : ChangeSpec := { name := "powerRaises", fn := fun _ => fun
  | [d1, d2, d3] => { results := [.lit (.bool false)], args := [d1, d2, d3] }
  | _ => none }
def PowerRaisesWrongFalsely : Prop := powerRaisesRow.holds Try.pinned (OpenSpec.ofChange powerRaisesWrong)

/-- 'lockwrightlaw.PowerOrders': WHATEVER THE INPUT: true; the input reads as it did. -/
def powerOrdersSpec : ChangeSpec := { name := "powerOrders", fn := fun _ => fun
  | [d1, d2] => { results := [.lit (.bool true)], args := [d1, d2] }
  | _ => none }
def powerOrdersRow : OpenClaim := { program := "ytoakbobofaepiaa", sum := "7eb4fe24a4af230c7538a9376d7e55494f91238fe8feabfdef5170f37c12cf41", func := "lockwright/lockwrightlaw.PowerOrders", spec := "powerOrders", unfollowed := true, recurses := true, apart := false }
def PowerOrdersSaid : Prop := powerOrdersRow.holds Try.pinned (OpenSpec.ofChange powerOrdersSpec)

/-- ITS FALSE NEIGHBOUR: 'it returns false'. Refute it at one input. -/
def powerOrdersWrong : ChangeSpec := { name := "powerOrders", fn := fun _ => fun
  | [d1, d2] => { results := [.lit (.bool false)], args := [d1, d2] }
  | _ => none }
def PowerOrdersWrongFalsely : Prop := powerOrdersRow.holds Try.pinned (OpenSpec.ofChange powerOrdersWrong)

/-- 'lockwrightlaw.PowerLambdas': WHATEVER THE INPUT: true; the input reads as it did. -/
def powerLambdasSpec : ChangeSpec := { name := "powerLambdas", fn := fun _ => fun
  | [d] => { results := [.lit (.bool true)], args := [d] }
  | _ => none }
def powerLambdasRow : OpenClaim := { program := "ytoakbobofaepiaa", sum := "7eb4fe24a4af230c7538a9376d7e55494f91238fe8feabfdef5170f37c12cf41", func := "lockwright/lockwrightlaw.PowerLambdas", spec := "powerLambdas", unfollowed := true, recurses := true, apart := false }
def PowerLambdasSaid : Prop := powerLambdasRow.holds Try.pinned (OpenSpec.ofChange powerLambdasSpec)

/-- ITS FALSE NEIGHBOUR: 'it returns false'. Refute it at one input. -/
def powerLambdasWrong : ChangeSpec := { name := "powerLambdas", fn := fun _ => fun
  | [d] => { results := [.lit (.bool false)], args := [d] }
  | _ => none }
def PowerLambdasWrongFalsely : Prop := powerLambdasRow.holds Try.pinned (OpenSpec.ofChange powerLambdasWrong)

/-- 'lockwrightkeep.PowerFermat': WHATEVER THE INPUT: true; the input reads as it did. -/
def powerFermatSpec : ChangeSpec := { name := "powerFermat", fn := fun _ => fun
  | [d1, d2] => { results := [.lit (.bool true)], args := [d1, d2] }
  | _ => none }
def powerFermatRow : OpenClaim := { program := "ytoakbobofaepiaa", sum := "7eb4fe24a4af230c7538a9376d7e55494f91238fe8feabfdef5170f37c12cf41", func := "lockwright/lockwrightkeep.PowerFermat", spec := "powerFermat", apart := false }
def PowerFermatSaid : Prop := powerFermatRow.holds Try.pinned (OpenSpec.ofChange powerFermatSpec)

/-- ITS FALSE NEIGHBOUR: 'it returns false'. Refute it at one input. -/
def powerFermatWrong : ChangeSpec := { name := "powerFermat", fn := fun _ => fun
  | [d1, d2] => { results := [.lit (.bool false)], args := [d1, d2] }
  | _ => none }
def PowerFermatWrongFalsely : Prop := powerFermatRow.holds Try.pinned (OpenSpec.ofChange powerFermatWrong)

/-- 'lockwrightkeep.PowerEuler': WHATEVER THE INPUT: true; the input reads as it did. -/
def powerEulerSpec : ChangeSpec := { name := "powerEuler", fn := fun _ => fun
  | [d1, d2, d3] => { results := [.lit (.bool true)], args := [d1, d2, d3] }
  | _ => none }
def powerEulerRow : OpenClaim := { program := "ytoakbobofaepiaa", sum := "7eb4fe24a4af230c7538a9376d7e55494f91238fe8feabfdef5170f37c12cf41", func := "lockwright/lockwrightkeep.PowerEuler", spec := "powerEuler", unfollowed := true, recurses := true, apart := false }
def PowerEulerSaid : Prop := powerEulerRow.holds Try.pinned (OpenSpec.ofChange powerEulerSpec)

/-- ITS FALSE NEIGHBOUR: 'it returns false'. Refute it at one input. -/
def powerEulerWrong : ChangeSpec := { name := "powerEuler", fn := fun _ => fun
  | [d1, d2, d3] => { results := [.lit (.bool false)], args := [d1, d2, d3] }
  | _ => none }
def PowerEulerWrongFalsely : Prop := powerEulerRow.holds Try.pinned (OpenSpec.ofChange powerEulerWrong)

/-- 'lockwrightkeep.PowerCarmichael': WHATEVER THE INPUT: true; the input reads as it did. -/
def powerCarmichaelSpec : ChangeSpec := { name := "powerCarmichael", fn := fun _ => fun
  | [d] => { results := [.lit (.bool true)], args := [d] }
  | _ => none }
def powerCarmichaelRow : OpenClaim := { program := "ytoakbobofaepiaa", sum := "7eb4fe24a4af230c7538a9376d7e55494f91238fe8feabfdef5170f37c12cf41", func := "lockwright/lockwrightkeep.PowerCarmichael", spec := "powerCarmichael", unfollowed := true, recurses := true, apart := false }
def PowerCarmichaelSaid : Prop := powerCarmichaelRow.holds Try.pinned (OpenSpec.ofChange powerCarmichaelSpec)

/-- ITS FALSE NEIGHBOUR: 'it returns false'. Refute it at one input. -/
def powerCarmichaelWrong : ChangeSpec := { name := "powerCarmichael", fn := fun _ => fun
  | [d] => { results := [.lit (.bool false)], args := [d] }
  | _ => none }
def PowerCarmichaelWrongFalsely : Prop := powerCarmichaelRow.holds Try.pinned (OpenSpec.ofChange powerCarmichaelWrong)

/- THE SECOND FORM. 'bulk': how many values and letters a reading holds, each counted each time it is reached (what is shared counts as often as it is met; a slice's spare places count too). A statement '..UptoSaid' is the law's where the arguments, and the package variables that the reading takes, are together of bulk at most 1048576: NARROWER than '..Said'. Prove '..Said' where nothing that the law and all that it calls make is longer than what came in: it says more and counts as full. Else prove '..UptoSaid'. A law counts once. -/
mutual
def uptoBulk {H : Type} : DataW H → Nat
  | .lit (.string bytes) => bytes.length + 1
  | .lit _ => 1
  | .nil => 1
  | .ptr d => uptoBulk d + 1
  | .slice elems spare => uptoBulkAll elems + uptoBulkAll spare + 1
  | .agg parts => uptoBulkAll parts + 1
  | .iface _ d => uptoBulk d + 1
  | .map entries => uptoBulkEntries entries + 1
  | .held _ => 1
def uptoBulkAll {H : Type} : List (DataW H) → Nat
  | [] => 0
  | d :: r => uptoBulk d + uptoBulkAll r
def uptoBulkEntries {H : Type} : List (Lit × DataW H) → Nat
  | [] => 0
  | x :: r => uptoBulkEntry x + uptoBulkEntries r
def uptoBulkEntry {H : Type} : Lit × DataW H → Nat
  | (.string bytes, d) => bytes.length + uptoBulk d + 1
  | (_, d) => uptoBulk d + 1
 end
def uptoSmall : (H : Type) → List (DataW H) → Bool := fun _ ds => decide (uptoBulkAll ds ≤ 1048576)
def OpenSpec.upto (s : _root_.Go.ChangeSpec) : _root_.Go.OpenSpec := { _root_.Go.OpenSpec.ofChange s with cond := some uptoSmall }

/-- 'lockwrightlaw.PowerRaises', WHERE WHAT IT READS IS OF BULK AT MOST 1048576: true; the input reads as it did. -/
def powerRaisesUptoRow : OpenClaim := { program := "ytoakbobofaepiaa", sum := "7eb4fe24a4af230c7538a9376d7e55494f91238fe8feabfdef5170f37c12cf41", func := "lockwright/lockwrightlaw.PowerRaises", spec := "powerRaises", recurses := true, apart := false, narrowed := true }
def PowerRaisesUptoSaid : Prop := powerRaisesUptoRow.holds Try.pinned (OpenSpec.upto powerRaisesSpec)

/-- 'lockwrightlaw.PowerOrders', WHERE WHAT IT READS IS OF BULK AT MOST 1048576: true; the input reads as it did. -/
def powerOrdersUptoRow : OpenClaim := { program := "ytoakbobofaepiaa", sum := "7eb4fe24a4af230c7538a9376d7e55494f91238fe8feabfdef5170f37c12cf41", func := "lockwright/lockwrightlaw.PowerOrders", spec := "powerOrders", unfollowed := true, recurses := true, apart := false, narrowed := true }
def PowerOrdersUptoSaid : Prop := powerOrdersUptoRow.holds Try.pinned (OpenSpec.upto powerOrdersSpec)

/-- 'lockwrightlaw.PowerLambdas', WHERE WHAT IT READS IS OF BULK AT MOST 1048576: true; the input reads as it did. -/
def powerLambdasUptoRow : OpenClaim := { program := "ytoakbobofaepiaa", sum := "7eb4fe24a4af230c7538a9376d7e55494f91238fe8feabfdef5170f37c12cf41", func := "lockwright/lockwrightlaw.PowerLambdas", spec := "powerLambdas", unfollowed := true, recurses := true, apart := false, narrowed := true }
def PowerLambdasUptoSaid : Prop := powerLambdasUptoRow.holds Try.pinned (OpenSpec.upto powerLambdasSpec)

/-- 'lockwrightkeep.PowerFermat', WHERE WHAT IT READS IS OF BULK AT MOST 1048576: true; the input reads as it did. -/
def powerFermatUptoRow : OpenClaim := { program := "ytoakbobofaepiaa", sum := "7eb4fe24a4af230c7538a9376d7e55494f91238fe8feabfdef5170f37c12cf41", func := "lockwright/lockwrightkeep.PowerFermat", spec := "powerFermat", apart := false, narrowed := true }
def PowerFermatUptoSaid : Prop := powerFermatUptoRow.holds Try.pinned (OpenSpec.upto powerFermatSpec)

/-- 'lockwrightkeep.PowerEuler', WHERE WHAT IT READS IS OF BULK AT MOST 1048576: true; the input reads as it did. -/
def powerEulerUptoRow : OpenClaim := { program := "ytoakbobofaepiaa", sum := "7eb4fe24a4af230c7538a9376d7e55494f91238fe8feabfdef5170f37c12cf41", func := "lockwright/lockwrightkeep.PowerEuler", spec := "powerEuler", unfollowed := true, recurses := true, apart := false, narrowed := true }
def PowerEulerUptoSaid : Prop := powerEulerUptoRow.holds Try.pinned (OpenSpec.upto powerEulerSpec)

/-- 'lockwrightkeep.PowerCarmichael', WHERE WHAT IT READS IS OF BULK AT MOST 1048576: true; the input reads as it did. -/
def powerCarmichaelUptoRow : OpenClaim := { program := "ytoakbobofaepiaa", sum := "7eb4fe24a4af230c7538a9376d7e55494f91238fe8feabfdef5170f37c12cf41", func := "lockwright/lockwrightkeep.PowerCarmichael", spec := "powerCarmichael", unfollowed := true, recurses := true, apart := false, narrowed := true }
def PowerCarmichaelUptoSaid : Prop := powerCarmichaelUptoRow.holds Try.pinned (OpenSpec.upto powerCarmichaelSpec)

end Rows
end Go.Proofs.Ytoakbobofaepiaa
