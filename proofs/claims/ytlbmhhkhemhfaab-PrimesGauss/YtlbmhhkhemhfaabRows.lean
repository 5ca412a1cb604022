/-
  No cell of these rows narrows 'for every input' (looked for: loops, veiled, ifaces, maps, wideKeys, modest, calm, conditions, laid).
  DERIVED. THE GIVEN ROWS OF THIS SEAT. 6 by the template 'for every input the law returns true; each argument reads behind the call as it read before'; 0 by the template 'total and deterministic' (their statements: YtlbmhhkhemhfaabTotals.lean).
  GIVEN WITH THE SEED: the statements are not yours to turn. If you find one false, say at which input.
  Laid BY PROGRAM, IN A SANDBOX (cutbox-rows.mjs): the forced cells as the released guide's own fill.sh prints them over the translation 71209eb48b0e13cd… (all of the seat's roots in one cut). By AI agents, Wed Nov 11 2026. No macro, syntax, notation, axiom, sorry.
-/
import Derived.Test.YtlbmhhkhemhfaabChecked
import GoSem.Claim
import GoSem.ClaimJoined
import GoSem.ClaimMapViews
import Derived.JoinedTies
import Derived.KernelRfl
namespace Go.Proofs.Ytlbmhhkhemhfaab
/- THE CELL 'sum', in the pinned program and in every row, IS THE sha256 OF THE DUMP (.gsa) THAT YtlbmhhkhemhfaabProg.lean LOADS. Nothing in Lean hashes anything: it is a label: what it is worth is what the hold of that sum in a sandbox is worth. -/
noncomputable def Try.pinned : Pinned := { name := "ytlbmhhkhemhfaab", sum := "71209eb48b0e13cde3e0ecd1a0a413d133c3750632f0e443ff4dbdd8c0e2559b", checked := Try.checked }
namespace Rows
def none {H : Type} : Left H := { results := [], args := [] }

/-- 'lockwrightkeep.PrimesEuclid': WHATEVER THE INPUT: true; the input reads as it did. -/
def primesEuclidSpec : ChangeSpec := { name := "primesEuclid", fn := fun _ => fun
  | [d1, d2, d3] => { results := [.lit (.bool true)], args := [d1, d2, d3] }
  | _ => none }
def primesEuclidRow : OpenClaim := { program := "ytlbmhhkhemhfaab", sum := "71209eb48b0e13cde3e0ecd1a0a413d133c3750632f0e443ff4dbdd8c0e2559b", func := "lockwright/lockwrightkeep.PrimesEuclid", spec := "primesEuclid", unfollowed := true, recurses := true, apart := false }
def PrimesEuclidSaid : Prop := primesEuclidRow.holds Try.pinned (OpenSpec.ofChange primesEuclidSpec)

/-- ITS FALSE NEIGHBOUR: 'it returns false'. Refute it at one input. -/
def primesEuclidWrong : ChangeSpec := { name := "primesEuclid", fn := fun _ => fun
  | [d1, d2, d3] => { results := [.lit (.bool false)], args := [d1, d2, d3] }
  | _ => none }
def PrimesEuclidWrongFalsely : Prop := primesEuclidRow.holds Try.pinned (OpenSpec.ofChange primesEuclidWrong)

/-- 'lockwrightkeep.PrimesGauss': WHATEVER THE INPUT: true; the input reads as it did. -/
def primesGaussSpec : ChangeSpec := { name := "primesGauss", fn := fun _ => fun
  | [d] => { results := [.lit (.bool true)], args := [d] }
  | _ => none }
def primesGaussRow : OpenClaim := { program := "ytlbmhhkhemhfaab", sum := "71209eb48b0e13cde3e0ecd1a0a413d133c3750632f0e443ff4dbdd8c0e2559b", func := "lockwright/lockwrightkeep.PrimesGauss", spec := "primesGauss", unfollowed := true, recurses := true, apart := false }
def PrimesGaussSaid : Prop := primesGaussRow.holds Try.pinned (OpenSpec.ofChange primesGaussSpec)

/-- ITS FALSE NEIGHBOUR: 'it returns false'. Refute it at one input. -/
def primesGaussWrong : ChangeSpec := { name := "primesGauss", fn := fun _ => fun
  | [d] => { results := [.lit (.bool false)], args := [d] }
  | _ => none }
def PrimesGaussWrongFalsely : Prop := primesGaussRow.holds Try.pinned (OpenSpec.ofChange primesGaussWrong)

/-- 'lockwrightkeep.PrimesMobius': WHATEVER THE INPUT: true; the input reads as it did. -/
def primesMobiusSpec : ChangeSpec := { name := "primesMobius", fn := fun _ => fun
  | [d] => { results := [.lit (.bool true)], args := [d] }
  | _ => none }
def primesMobiusRow : OpenClaim := { program := "ytlbmhhkhemhfaab", sum := "71209eb48b0e13cde3e0ecd1a0a413d133c3750632f0e443ff4dbdd8c0e2559b", func := "lockwright/lockwrightkeep.PrimesMobius", spec := "primesMobius", unfollowed := true, recurses := true, apart := false }
def PrimesMobiusSaid : Prop := primesMobiusRow.holds Try.pinned (OpenSpec.ofChange primesMobiusSpec)

/-- ITS FALSE NEIGHBOUR: 'it returns false'. Refute it at one input. -/
def primesMobiusWrong : ChangeSpec := { name := "primesMobius", fn := fun _ => fun
  | [d] => { results := [.lit (.bool false)], args := [d] }
  | _ => none }
def PrimesMobiusWrongFalsely : Prop := primesMobiusRow.holds Try.pinned (OpenSpec.ofChange primesMobiusWrong)

/-- 'lockwrightkeep.PrimesEuler': WHATEVER THE INPUT: true; the input reads as it did. -/
def primesEulerSpec : ChangeSpec := { name := "primesEuler", fn := fun _ => fun
  | [d1, d2] => { results := [.lit (.bool true)], args := [d1, d2] }
  | _ => none }
def primesEulerRow : OpenClaim := { program := "ytlbmhhkhemhfaab", sum := "71209eb48b0e13cde3e0ecd1a0a413d133c3750632f0e443ff4dbdd8c0e2559b", func := "lockwright/lockwrightkeep.PrimesEuler", spec := "primesEuler", unfollowed := true, recurses := true, apart := false }
def PrimesEulerSaid : Prop := primesEulerRow.holds Try.pinned (OpenSpec.ofChange primesEulerSpec)

/-- ITS FALSE NEIGHBOUR: 'it returns false'. Refute it at one input. -/
def primesEulerWrong : ChangeSpec := { name := "primesEuler", fn := fun _ => fun
  | [d1, d2] => { results := [.lit (.bool false)], args := [d1, d2] }
  | _ => none }
def PrimesEulerWrongFalsely : Prop := primesEulerRow.holds Try.pinned (OpenSpec.ofChange primesEulerWrong)

/-- 'lockwrightkeep.PrimesWilson': WHATEVER THE INPUT: true; the input reads as it did. -/
def primesWilsonSpec : ChangeSpec := { name := "primesWilson", fn := fun _ => fun
  | [d] => { results := [.lit (.bool true)], args := [d] }
  | _ => none }
def primesWilsonRow : OpenClaim := { program := "ytlbmhhkhemhfaab", sum := "71209eb48b0e13cde3e0ecd1a0a413d133c3750632f0e443ff4dbdd8c0e2559b", func := "lockwright/lockwrightkeep.PrimesWilson", spec := "primesWilson", unfollowed := true, recurses := true, apart := false }
def PrimesWilsonSaid : Prop := primesWilsonRow.holds Try.pinned (OpenSpec.ofChange primesWilsonSpec)

/-- ITS FALSE NEIGHBOUR: 'it returns false'. Refute it at one input. -/
def primesWilsonWrong : ChangeSpec := { name := "primesWilson", fn := fun _ => fun
  | [d] => { results := [.lit (.bool false)], args := [d] }
  | _ => none }
def PrimesWilsonWrongFalsely : Prop := primesWilsonRow.holds Try.pinned (OpenSpec.ofChange primesWilsonWrong)

/-- 'lockwrightkeep.PrimesBertrand': WHATEVER THE INPUT: true; the input reads as it did. -/
def primesBertrandSpec : ChangeSpec := { name := "primesBertrand", fn := fun _ => fun
  | [d] => { results := [.lit (.bool true)], args := [d] }
  | _ => none }
def primesBertrandRow : OpenClaim := { program := "ytlbmhhkhemhfaab", sum := "71209eb48b0e13cde3e0ecd1a0a413d133c3750632f0e443ff4dbdd8c0e2559b", func := "lockwright/lockwrightkeep.PrimesBertrand", spec := "primesBertrand", unfollowed := true, recurses := true, apart := false }
def PrimesBertrandSaid : Prop := primesBertrandRow.holds Try.pinned (OpenSpec.ofChange primesBertrandSpec)

/-- ITS FALSE NEIGHBOUR: 'it returns false'. Refute it at one input. -/
def primesBertrandWrong : ChangeSpec := { name := "primesBertrand", fn := fun _ => fun
  | [d] => { results := [.lit (.bool false)], args := [d] }
  | _ => none }
def PrimesBertrandWrongFalsely : Prop := primesBertrandRow.holds Try.pinned (OpenSpec.ofChange primesBertrandWrong)

/- THE SECOND FORM. 'bulk': how many values and letters a reading holds, each counted each time it is reached (what is shared counts as often as it is met; a slice's spare places count too). A statement '..UptoSaid' is the law's where the arguments, and the package variables that the reading takes, are together of bulk at most 1048576: NARROWER than '..Said'. Prove '..Said' where nothing that the law and all that it calls make is longer than what came in: it says more and counts as full. Else prove '..UptoSaid'. A law counts once. -/
mutual
def uptoBulk {H : Type} : DataW H → Nat
  | .lit (.string bytes) => bytes.length + 1
  | .lit _ => 1
  | .nil => 1
  | .ptr d => uptoBulk d + 1
  | .slice elems spare => uptoBulkAll elems + uptoBulkAll spare + 1
  | .agg parts => uptoBulkAll parts + 1
  | .iface _ d => uptoBulk d + 1
  | .map entries => uptoBulkEntries entries + 1
  | .held _ => 1
def uptoBulkAll {H : Type} : List (DataW H) → Nat
  | [] => 0
  | d :: r => uptoBulk d + uptoBulkAll r
def uptoBulkEntries {H : Type} : List (Lit × DataW H) → Nat
  | [] => 0
  | x :: r => uptoBulkEntry x + uptoBulkEntries r
def uptoBulkEntry {H : Type} : Lit × DataW H → Nat
  | (.string bytes, d) => bytes.length + uptoBulk d + 1
  | (_, d) => uptoBulk d + 1
 end
def uptoSmall : (H : Type) → List (DataW H) → Bool := fun _ ds => decide (uptoBulkAll ds ≤ 1048576)
def OpenSpec.upto (s : _root_.Go.ChangeSpec) : _root_.Go.OpenSpec := { _root_.Go.OpenSpec.ofChange s with cond := some uptoSmall }

/-- 'lockwrightkeep.PrimesEuclid', WHERE WHAT IT READS IS OF BULK AT MOST 1048576: true; the input reads as it did. -/
def primesEuclidUptoRow : OpenClaim := { program := "ytlbmhhkhemhfaab", sum := "71209eb48b0e13cde3e0ecd1a0a413d133c3750632f0e443ff4dbdd8c0e2559b", func := "lockwright/lockwrightkeep.PrimesEuclid", spec := "primesEuclid", unfollowed := true, recurses := true, apart := false, narrowed := true }
def PrimesEuclidUptoSaid : Prop := primesEuclidUptoRow.holds Try.pinned (OpenSpec.upto primesEuclidSpec)

/-- 'lockwrightkeep.PrimesGauss', WHERE WHAT IT READS IS OF BULK AT MOST 1048576: true; the input reads as it did. -/
def primesGaussUptoRow : OpenClaim := { program := "ytlbmhhkhemhfaab", sum := "71209eb48b0e13cde3e0ecd1a0a413d133c3750632f0e443ff4dbdd8c0e2559b", func := "lockwright/lockwrightkeep.PrimesGauss", spec := "primesGauss", unfollowed := true, recurses := true, apart := false, narrowed := true }
def PrimesGaussUptoSaid : Prop := primesGaussUptoRow.holds Try.pinned (OpenSpec.upto primesGaussSpec)

/-- 'lockwrightkeep.PrimesMobius', WHERE WHAT IT READS IS OF BULK AT MOST 1048576: true; the input reads as it did. -/
def primesMobiusUptoRow : OpenClaim := { program := "ytlbmhhkhemhfaab", sum := "71209eb48b0e13cde3e0ecd1a0a413d133c3750632f0e443ff4dbdd8c0e2559b", func := "lockwright/lockwrightkeep.PrimesMobius", spec := "primesMobius", unfollowed := true, recurses := true, apart := false, narrowed := true }
def PrimesMobiusUptoSaid : Prop := primesMobiusUptoRow.holds Try.pinned (OpenSpec.upto primesMobiusSpec)

/-- 'lockwrightkeep.PrimesEuler', WHERE WHAT IT READS IS OF BULK AT MOST 1048576: true; the input reads as it did. -/
def primesEulerUptoRow : OpenClaim := { program := "ytlbmhhkhemhfaab", sum := "71209eb48b0e13cde3e0ecd1a0a413d133c3750632f0e443ff4dbdd8c0e2559b", func := "lockwright/lockwrightkeep.PrimesEuler", spec := "primesEuler", unfollowed := true, recurses := true, apart := false, narrowed := true }
def PrimesEulerUptoSaid : Prop := primesEulerUptoRow.holds Try.pinned (OpenSpec.upto primesEulerSpec)

/-- 'lockwrightkeep.PrimesWilson', WHERE WHAT IT READS IS OF BULK AT MOST 1048576: true; the input reads as it did. -/
def primesWilsonUptoRow : OpenClaim := { program := "ytlbmhhkhemhfaab", sum := "71209eb48b0e13cde3e0ecd1a0a413d133c3750632f0e443ff4dbdd8c0e2559b", func := "lockwright/lockwrightkeep.PrimesWilson", spec := "primesWilson", unfollowed := true, recurses := true, apart := false, narrowed := true }
def PrimesWilsonUptoSaid : Prop := primesWilsonUptoRow.holds Try.pinned (OpenSpec.upto primesWilsonSpec)

/-- 'lockwrightkeep.PrimesBertrand', WHERE WHAT IT READS IS OF BULK AT MOST 1048576: true; the input reads as it did. -/
def primesBertrandUptoRow : OpenClaim := { program := "ytlbmhhkhemhfaab", sum := "71209eb48b0e13cde3e0ecd1a0a413d133c3750632f0e443ff4dbdd8c0e2559b", func := "lockwright/lockwrightkeep.PrimesBertrand", spec := "primesBertrand", unfollowed := true, recurses := true, apart := false, narrowed := true }
def PrimesBertrandUptoSaid : Prop := primesBertrandUptoRow.holds Try.pinned (OpenSpec.upto primesBertrandSpec)

end Rows
end Go.Proofs.Ytlbmhhkhemhfaab
