/-
  No cell of these rows narrows 'for every input' (looked for: loops, veiled, ifaces, maps, wideKeys, modest, calm, conditions, laid).
  DERIVED. THE GIVEN ROWS OF THIS SEAT. 6 by the template 'for every input the law returns true; each argument reads behind the call as it read before'; 0 by the template 'total and deterministic' (their statements: YtlbmhhkhemhfaaaTotals.lean).
  GIVEN WITH THE SEED: the statements are not yours to turn. If you find one false, say at which input.
  Laid BY PROGRAM, IN A SANDBOX (cutbox-rows.mjs): the forced cells as the released guide's own fill.sh prints them over the translation 86f488d4cce648bd… (all of the seat's roots in one cut). By AI agents, Wed Nov 11 2026. No macro, syntax, notation, axiom, sorry.
-/
import Derived.Test.YtlbmhhkhemhfaaaChecked
import GoSem.Claim
import GoSem.ClaimJoined
import GoSem.ClaimMapViews
import Derived.JoinedTies
import Derived.KernelRfl
namespace Go.Proofs.Ytlbmhhkhemhfaaa
/- THE CELL 'sum', in the pinned program and in every row, IS THE sha256 OF THE DUMP (.gsa) THAT YtlbmhhkhemhfaaaProg.lean LOADS. Nothing in Lean hashes anything: it is a label: what it is worth is what the hold of that sum in a sandbox is worth. -/
noncomputable def Try.pinned : Pinned := { name := "ytlbmhhkhemhfaaa", sum := "86f488d4cce648bd07a6237f3235f80a0fc46f8fa4b07ccaef0ccf4bb13cc642", checked := Try.checked }
namespace Rows
def none {H : Type} : Left H := { results := [], args := [] }

/-- 'lockwrightlaw.PrimesAre': WHATEVER THE INPUT: true; the input reads as it did. -/
def primesAreSpec : ChangeSpec := { name := "primesAre", fn := fun _ => fun
  | [d] => { results := [.lit (.bool true)], args := [d] }
  | _ => none }
def primesAreRow : OpenClaim := { program := "ytlbmhhkhemhfaaa", sum := "86f488d4cce648bd07a6237f3235f80a0fc46f8fa4b07ccaef0ccf4bb13cc642", func := "lockwright/lockwrightlaw.PrimesAre", spec := "primesAre", unfollowed := true, recurses := true, apart := false }
def PrimesAreSaid : Prop := primesAreRow.holds Try.pinned (OpenSpec.ofChange primesAreSpec)

/-- ITS FALSE NEIGHBOUR: 'it returns false'. Refute it at one input. -/
def primesAreWrong : ChangeSpec := { name := "primesAre", fn := fun _ => fun
  | [d] => { results := [.lit (.bool false)], args := [d] }
  | _ => none }
def PrimesAreWrongFalsely : Prop := primesAreRow.holds Try.pinned (OpenSpec.ofChange primesAreWrong)

/-- 'lockwrightlaw.PrimesFactor': WHATEVER THE INPUT: true; the input reads as it did. -/
def primesFactorSpec : ChangeSpec := { name := "primesFactor", fn := fun _ => fun
  | [d] => { results := [.lit (.bool true)], args := [d] }
  | _ => none }
def primesFactorRow : OpenClaim := { program := "ytlbmhhkhemhfaaa", sum := "86f488d4cce648bd07a6237f3235f80a0fc46f8fa4b07ccaef0ccf4bb13cc642", func := "lockwright/lockwrightlaw.PrimesFactor", spec := "primesFactor", unfollowed := true, recurses := true, apart := false }
def PrimesFactorSaid : Prop := primesFactorRow.holds Try.pinned (OpenSpec.ofChange primesFactorSpec)

/-- ITS FALSE NEIGHBOUR: 'it returns false'. Refute it at one input. -/
def primesFactorWrong : ChangeSpec := { name := "primesFactor", fn := fun _ => fun
  | [d] => { results := [.lit (.bool false)], args := [d] }
  | _ => none }
def PrimesFactorWrongFalsely : Prop := primesFactorRow.holds Try.pinned (OpenSpec.ofChange primesFactorWrong)

/-- 'lockwrightlaw.PrimesCount': WHATEVER THE INPUT: true; the input reads as it did. -/
def primesCountSpec : ChangeSpec := { name := "primesCount", fn := fun _ => fun
  | [d] => { results := [.lit (.bool true)], args := [d] }
  | _ => none }
def primesCountRow : OpenClaim := { program := "ytlbmhhkhemhfaaa", sum := "86f488d4cce648bd07a6237f3235f80a0fc46f8fa4b07ccaef0ccf4bb13cc642", func := "lockwright/lockwrightlaw.PrimesCount", spec := "primesCount", unfollowed := true, recurses := true, apart := false }
def PrimesCountSaid : Prop := primesCountRow.holds Try.pinned (OpenSpec.ofChange primesCountSpec)

/-- ITS FALSE NEIGHBOUR: 'it returns false'. Refute it at one input. -/
def primesCountWrong : ChangeSpec := { name := "primesCount", fn := fun _ => fun
  | [d] => { results := [.lit (.bool false)], args := [d] }
  | _ => none }
def PrimesCountWrongFalsely : Prop := primesCountRow.holds Try.pinned (OpenSpec.ofChange primesCountWrong)

/-- 'lockwrightlaw.PrimesSigns': WHATEVER THE INPUT: true; the input reads as it did. -/
def primesSignsSpec : ChangeSpec := { name := "primesSigns", fn := fun _ => fun
  | [d] => { results := [.lit (.bool true)], args := [d] }
  | _ => none }
def primesSignsRow : OpenClaim := { program := "ytlbmhhkhemhfaaa", sum := "86f488d4cce648bd07a6237f3235f80a0fc46f8fa4b07ccaef0ccf4bb13cc642", func := "lockwright/lockwrightlaw.PrimesSigns", spec := "primesSigns", unfollowed := true, recurses := true, apart := false }
def PrimesSignsSaid : Prop := primesSignsRow.holds Try.pinned (OpenSpec.ofChange primesSignsSpec)

/-- ITS FALSE NEIGHBOUR: 'it returns false'. Refute it at one input. -/
def primesSignsWrong : ChangeSpec := { name := "primesSigns", fn := fun _ => fun
  | [d] => { results := [.lit (.bool false)], args := [d] }
  | _ => none }
def PrimesSignsWrongFalsely : Prop := primesSignsRow.holds Try.pinned (OpenSpec.ofChange primesSignsWrong)

/-- 'lockwrightlaw.PrimesDivide': WHATEVER THE INPUT: true; the input reads as it did. -/
def primesDivideSpec : ChangeSpec := { name := "primesDivide", fn := fun _ => fun
  | [d] => { results := [.lit (.bool true)], args := [d] }
  | _ => none }
def primesDivideRow : OpenClaim := { program := "ytlbmhhkhemhfaaa", sum := "86f488d4cce648bd07a6237f3235f80a0fc46f8fa4b07ccaef0ccf4bb13cc642", func := "lockwright/lockwrightlaw.PrimesDivide", spec := "primesDivide", unfollowed := true, recurses := true, apart := false }
def PrimesDivideSaid : Prop := primesDivideRow.holds Try.pinned (OpenSpec.ofChange primesDivideSpec)

/-- ITS FALSE NEIGHBOUR: 'it returns false'. Refute it at one input. -/
def primesDivideWrong : ChangeSpec := { name := "primesDivide", fn := fun _ => fun
  | [d] => { results := [.lit (.bool false)], args := [d] }
  | _ => none }
def PrimesDivideWrongFalsely : Prop := primesDivideRow.holds Try.pinned (OpenSpec.ofChange primesDivideWrong)

/-- 'lockwrightkeep.PrimesUnique': WHATEVER THE INPUT: true; the input reads as it did. -/
def primesUniqueSpec : ChangeSpec := { name := "primesUnique", fn := fun _ => fun
  | [d1, d2] => { results := [.lit (.bool true)], args := [d1, d2] }
  | _ => none }
def primesUniqueRow : OpenClaim := { program := "ytlbmhhkhemhfaaa", sum := "86f488d4cce648bd07a6237f3235f80a0fc46f8fa4b07ccaef0ccf4bb13cc642", func := "lockwright/lockwrightkeep.PrimesUnique", spec := "primesUnique", unfollowed := true, recurses := true, apart := false }
def PrimesUniqueSaid : Prop := primesUniqueRow.holds Try.pinned (OpenSpec.ofChange primesUniqueSpec)

/-- ITS FALSE NEIGHBOUR: 'it returns false'. Refute it at one input. -/
def primesUniqueWrong : ChangeSpec := { name := "primesUnique", fn := fun _ => fun
  | [d1, d2] => { results := [.lit (.bool false)], args := [d1, d2] }
  | _ => none }
def PrimesUniqueWrongFalsely : Prop := primesUniqueRow.holds Try.pinned (OpenSpec.ofChange primesUniqueWrong)

/- THE SECOND FORM. 'bulk': how many values and letters a reading holds, each counted each time it is reached (what is shared counts as often as it is met; a slice's spare places count too). A statement '..UptoSaid' is the law's where the arguments, and the package variables that the reading takes, are together of bulk at most 1048576: NARROWER than '..Said'. Prove '..Said' where nothing that the law and all that it calls make is longer than what came in: it says more and counts as full. Else prove '..UptoSaid'. A law counts once. -/
mutual
def uptoBulk {H : Type} : DataW H → Nat
  | .lit (.string bytes) => bytes.length + 1
  | .lit _ => 1
  | .nil => 1
  | .ptr d => uptoBulk d + 1
  | .slice elems spare => uptoBulkAll elems + uptoBulkAll spare + 1
  | .agg parts => uptoBulkAll parts + 1
  | .iface _ d => uptoBulk d + 1
  | .map entries => uptoBulkEntries entries + 1
  | .held _ => 1
def uptoBulkAll {H : Type} : List (DataW H) → Nat
  | [] => 0
  | d :: r => uptoBulk d + uptoBulkAll r
def uptoBulkEntries {H : Type} : List (Lit × DataW H) → Nat
  | [] => 0
  | x :: r => uptoBulkEntry x + uptoBulkEntries r
def uptoBulkEntry {H : Type} : Lit × DataW H → Nat
  | (.string bytes, d) => bytes.length + uptoBulk d + 1
  | (_, d) => uptoBulk d + 1
 end
def uptoSmall : (H : Type) → List (DataW H) → Bool := fun _ ds => decide (uptoBulkAll ds ≤ 1048576)
def OpenSpec.upto (s : _root_.Go.ChangeSpec) : _root_.Go.OpenSpec := { _root_.Go.OpenSpec.ofChange s with cond := some uptoSmall }

/-- 'lockwrightlaw.PrimesAre', WHERE WHAT IT READS IS OF BULK AT MOST 1048576: true; the input reads as it did. -/
def primesAreUptoRow : OpenClaim := { program := "ytlbmhhkhemhfaaa", sum := "86f488d4cce648bd07a6237f3235f80a0fc46f8fa4b07ccaef0ccf4bb13cc642", func := "lockwright/lockwrightlaw.PrimesAre", spec := "primesAre", unfollowed := true, recurses := true, apart := false, narrowed := true }
def PrimesAreUptoSaid : Prop := primesAreUptoRow.holds Try.pinned (OpenSpec.upto primesAreSpec)

/-- 'lockwrightlaw.PrimesFactor', WHERE WHAT IT READS IS OF BULK AT MOST 1048576: true; the input reads as it did. -/
def primesFactorUptoRow : OpenClaim := { program := "ytlbmhhkhemhfaaa", sum := "86f488d4cce648bd07a6237f3235f80a0fc46f8fa4b07ccaef0ccf4bb13cc642", func := "lockwright/lockwrightlaw.PrimesFactor", spec := "primesFactor", unfollowed := true, recurses := true, apart := false, narrowed := true }
def PrimesFactorUptoSaid : Prop := primesFactorUptoRow.holds Try.pinned (OpenSpec.upto primesFactorSpec)

/-- 'lockwrightlaw.PrimesCount', WHERE WHAT IT READS IS OF BULK AT MOST 1048576: true; the input reads as it did. -/
def primesCountUptoRow : OpenClaim := { program := "ytlbmhhkhemhfaaa", sum := "86f488d4cce648bd07a6237f3235f80a0fc46f8fa4b07ccaef0ccf4bb13cc642", func := "lockwright/lockwrightlaw.PrimesCount", spec := "primesCount", unfollowed := true, recurses := true, apart := false, narrowed := true }
def PrimesCountUptoSaid : Prop := primesCountUptoRow.holds Try.pinned (OpenSpec.upto primesCountSpec)

/-- 'lockwrightlaw.PrimesSigns', WHERE WHAT IT READS IS OF BULK AT MOST 1048576: true; the input reads as it did. -/
def primesSignsUptoRow : OpenClaim := { program := "ytlbmhhkhemhfaaa", sum := "86f488d4cce648bd07a6237f3235f80a0fc46f8fa4b07ccaef0ccf4bb13cc642", func := "lockwright/lockwrightlaw.PrimesSigns", spec := "primesSigns", unfollowed := true, recurses := true, apart := false, narrowed := true }
def PrimesSignsUptoSaid : Prop := primesSignsUptoRow.holds Try.pinned (OpenSpec.upto primesSignsSpec)

/-- 'lockwrightlaw.PrimesDivide', WHERE WHAT IT READS IS OF BULK AT MOST 1048576: true; the input reads as it did. -/
def primesDivideUptoRow : OpenClaim := { program := "ytlbmhhkhemhfaaa", sum := "86f488d4cce648bd07a6237f3235f80a0fc46f8fa4b07ccaef0ccf4bb13cc642", func := "lockwright/lockwrightlaw.PrimesDivide", spec := "primesDivide", unfollowed := true, recurses := true, apart := false, narrowed := true }
def PrimesDivideUptoSaid : Prop := primesDivideUptoRow.holds Try.pinned (OpenSpec.upto primesDivideSpec)

/-- 'lockwrightkeep.PrimesUnique', WHERE WHAT IT READS IS OF BULK AT MOST 1048576: true; the input reads as it did. -/
def primesUniqueUptoRow : OpenClaim := { program := "ytlbmhhkhemhfaaa", sum := "86f488d4cce648bd07a6237f3235f80a0fc46f8fa4b07ccaef0ccf4bb13cc642", func := "lockwright/lockwrightkeep.PrimesUnique", spec := "primesUnique", unfollowed := true, recurses := true, apart := false, narrowed := true }
def PrimesUniqueUptoSaid : Prop := primesUniqueUptoRow.holds Try.pinned (OpenSpec.upto primesUniqueSpec)

end Rows
end Go.Proofs.Ytlbmhhkhemhfaaa
