/-
  Package rsa: a key in a box of the call's own.
-/
import Derived.Test.YtmhbkilldmcamaaCalls154
import Derived.Deep.RegionHeld3
namespace Go.Proofs.Ytmhbkilldmcamaa.Calls155
set_option linter.unusedVariables false
open Go.ChangeShapes Go.WideShapes Go.ChangeAt Go.RowKit Go.Deep Go.Proofs.Ytmhbkilldmcamaa.Base Go.Proofs.Ytmhbkilldmcamaa.Num Go.Proofs.Ytmhbkilldmcamaa.Num56 Go.Proofs.Ytmhbkilldmcamaa.Calls150 Go.Proofs.Ytmhbkilldmcamaa.Calls151 Go.Proofs.Ytmhbkilldmcamaa.Calls152

/-- A key's cells. -/
def kx (N E D : Int) : Obj := .cells #[.int .i64 N, .int .i64 E, .int .i64 D] 23

/-- The call's first block is the key's box. -/
def Kb (w wr : World) (N E D : Int) : Prop := BoxC wr w.heap.size 23 #[.int .i64 N, .int .i64 E, .int .i64 D] ∧ Below w.heap.size w wr

theorem Kb.new (w : World) (N E D : Int) : Kb w (w.alloc (.cells #[.int .i64 N, .int .i64 E, .int .i64 D] 23)) N E D := ⟨BoxC.new _ _ _, (Below.refl _ _).alloc (Nat.le_refl _) _⟩

theorem Kb.alloc {w wr : World} {N E D : Int} (h : Kb w wr N E D) (o : Obj) : Kb w (wr.alloc o) N E D := ⟨h.1.alloc o, h.2.alloc h.2.size _⟩

theorem Kb.drew {w wr : World} {N E D : Int} (h : Kb w wr N E D) : Kb w wr.drew N E D := ⟨h.1, h.2.drew⟩

theorem Kb.below {w wr w' : World} {N E D : Int} (h : Kb w wr N E D) (hb : Below wr.heap.size wr w') : Kb w w' N E D := ⟨(hb.block _ h.1.lt).trans h.1, below_trans h.2 hb⟩

theorem Kb.cells {w wr : World} {N E D : Int} (h : Kb w wr N E D) : wr.cell? ⟨w.heap.size, 0, none⟩ = some (.int .i64 N) ∧ wr.cell? ⟨w.heap.size, 1, none⟩ = some (.int .i64 E) ∧ wr.cell? ⟨w.heap.size, 2, none⟩ = some (.int .i64 D) := ⟨by rw [h.1.cell 0]; rfl, by rw [h.1.cell 1]; rfl, by rw [h.1.cell 2]; rfl⟩

theorem wrap_in (x : Int) (h1 : -9223372036854775808 ≤ x) (h2 : x ≤ 9223372036854775807) : IntKind.i64.wrap x = x := by
  rw [IntKind.wrap_i64]; omega

theorem mul_bds {x y N : Nat} (hN : N ≤ 1048576) (hx : x < N) (hy : y < N) : 0 ≤ (x : Int) * (y : Int) ∧ (x : Int) * (y : Int) ≤ 1099511627776 := by
  have : x * y ≤ 1048576 * 1048576 := Nat.mul_le_mul (by omega) (by omega)
  have e : (x : Int) * (y : Int) = ((x * y : Nat) : Int) := by simp
  omega

theorem mul_tmod (x y N : Nat) : ((x : Int) * (y : Int)).tmod (N : Int) = ((x * y % N : Nat) : Int) := by
  rw [← Int.natCast_mul, ← Int.ofNat_tmod]

theorem one_pow_mod (E N : Nat) : (1 % N) ^ E % N = 1 % N := by rw [← Nat.pow_mod, Nat.one_pow]

end Go.Proofs.Ytmhbkilldmcamaa.Calls155
