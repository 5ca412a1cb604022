/-
  What the laws of hash ask besides: their numbers as naturals, two new boxes, whether there is a clash.
-/
import Derived.Test.YtpmdfiebcaifmaaCalls131
namespace Go.Proofs.Ytpmdfiebcaifmaa.Calls132
set_option linter.unusedVariables false
open Go.ChangeShapes Go.WideShapes Go.ChangeAt Go.RowKit Go.Deep Go.Proofs.Ytpmdfiebcaifmaa.Base Go.Proofs.Ytpmdfiebcaifmaa.Base2 Go.Proofs.Ytpmdfiebcaifmaa.Base7 Go.Proofs.Ytpmdfiebcaifmaa.Base8 Go.Proofs.Ytpmdfiebcaifmaa.Num55

theorem u32_of {u : Int} (wu : (Lit.int .u32 u).wf = true) : ∃ M : Nat, M < 4294967296 ∧ u = (M : Int) := by
  simp [Lit.wf] at wu
  have m0 : IntKind.u32.min = 0 := by decide
  have m1 : IntKind.u32.max = 4294967295 := by decide
  exact ⟨u.toNat, by omega, by omega⟩

theorem u16_of {u : Int} (wu : (Lit.int .u16 u).wf = true) : ∃ M : Nat, M < 65536 ∧ u = (M : Int) := by
  simp [Lit.wf] at wu
  have m0 : IntKind.u16.min = 0 := by decide
  have m1 : IntKind.u16.max = 65535 := by decide
  exact ⟨u.toNat, by omega, by omega⟩

theorem u8_of {u : Int} (wu : (Lit.int .u8 u).wf = true) : ∃ M : Nat, M < 256 ∧ u = (M : Int) := by
  simp [Lit.wf] at wu
  have m0 : IntKind.u8.min = 0 := by decide
  have m1 : IntKind.u8.max = 255 := by decide
  exact ⟨u.toNat, by omega, by omega⟩

theorem two_new (W : World) (t : TypeId) (x y : Array Value) : BoxC ((W.alloc (.cells x t)).alloc (.cells y t)) W.heap.size t x ∧ BoxC ((W.alloc (.cells x t)).alloc (.cells y t)) (W.heap.size + 1) t y := by
  have b0 := (BoxC.new W t x).alloc (.cells y t)
  have b1 := BoxC.new (W.alloc (.cells x t)) t y
  rw [World.size_alloc] at b1
  exact ⟨b0, b1⟩

theorem below_two {w W : World} (h : Below w.heap.size w W) (o o' : Obj) : Below w.heap.size w ((W.alloc o).alloc o') :=
  (h.alloc h.size o).alloc (by have := h.size; simp; omega) o'

theorem y_owned {W : World} {base : Nat} {e : TypeId} {g n cap : Nat} {l : List Nat} (h : W.ownsRow base e 1 (.slice (some ⟨g, 0, none⟩) n cap) n (yv l)) : YRow W (some ⟨g, 0, none⟩) l := by
  obtain ⟨ao, cc, e1, _, e3⟩ := y_owns h
  injection e1 with e1
  rw [e1]; exact e3

/-- Two texts that are not the same clash somewhere. -/
theorem clash_at {a b : List Nat} (la : a.length ≤ 4096) (lb : b.length ≤ 4096) (hne : a ≠ b) : ∃ k x y x' y', Clash (pad a) (pad b) k ∧ mx (pad a) k = (x, y) ∧ mx (pad b) k = (x', y') := by
  obtain ⟨k, hk⟩ := clash_ex (a := a) (b := b) (by omega) (by omega) hne
  exact ⟨k, _, _, _, _, hk, rfl, rfl⟩

end Go.Proofs.Ytpmdfiebcaifmaa.Calls132
