/-
  Rows of numbers of any type of elements, that a call makes itself and writes by index.
-/
import Derived.Test.YtpnjpkmlfbcnjaaBase4
namespace Go.Proofs.Ytpnjpkmlfbcnjaa.Base6
set_option linter.unusedVariables false
open Go.ChangeShapes Go.WideShapes Go.ChangeAt Go.RowKit Go.Deep Go.Proofs.Ytpnjpkmlfbcnjaa.Base Go.Proofs.Ytpnjpkmlfbcnjaa.Base2 Go.Proofs.Ytpnjpkmlfbcnjaa.Num16 Go.Proofs.Ytpnjpkmlfbcnjaa.Num17 Go.Proofs.Ytpnjpkmlfbcnjaa.Num34 Go.Proofs.Ytpnjpkmlfbcnjaa.Base4

/-- A row of the call's own: n numbers, of elements of type e, in the block g. -/
def OwnE (e : TypeId) (W : World) (base g n cap : Nat) (f : Nat → Int) : Prop := W.ownsRow base e 1 (.slice (some ⟨g, 0, none⟩) n cap) n (ivals (mk n f))

theorem OwnE.cell {e : TypeId} {W : World} {base g n cap : Nat} {f : Nat → Int} (h : OwnE e W base g n cap f) {i : Nat} (hi : i < n) : W.cell? ⟨g, i, none⟩ = some (.int .i64 (f i)) := by
  have := World.ownsRow.cellAt h i (by omega)
  rw [this, ivals_get (by rw [mk_length]; exact hi), co_mk, if_pos hi]

theorem OwnE.frozen {e : TypeId} {W : World} {base g n cap : Nat} {f : Nat → Int} (h : OwnE e W base g n cap f) (i : Nat) : W.frozen? ⟨g, i, none⟩ = false := World.ownsRow.frozenAt h i

theorem OwnE.lt {e : TypeId} {W : World} {base g n cap : Nat} {f : Nat → Int} (h : OwnE e W base g n cap f) : base ≤ g ∧ g < W.heap.size := World.ownsRow.lt h g rfl

theorem OwnE.set {e : TypeId} {W : World} {base g n cap : Nat} {f : Nat → Int} (h : OwnE e W base g n cap f) (i : Nat) (q : Int) : OwnE e (W.setCell ⟨g, i, none⟩ (.int .i64 q)) base g n cap (up1 f i q) := by
  have := (World.ownsRow.stored h i (.int .i64 q)).1
  have e' : (ivals (mk n f)).set i (.int .i64 q) = ivals (mk n (up1 f i q)) := by
    rw [← mk_set]; unfold ivals; rw [List.map_set]
  rw [e'] at this
  exact this

theorem OwnE.row {e : TypeId} {W : World} {base g n cap : Nat} {f : Nat → Int} (h : OwnE e W base g n cap f) : IRow W (some ⟨g, 0, none⟩) (mk n f) := by
  refine ⟨fun e => (by cases e), fun ad e j hj => ?_⟩
  obtain rfl : (⟨g, 0, none⟩ : Addr) = ad := by simpa using e
  rw [mk_length] at hj
  rw [zero_add_addr, h.cell hj, co_mk, if_pos hj]

theorem OwnE.below {e : TypeId} {W W' : World} {base g n cap : Nat} {f : Nat → Int} (h : OwnE e W base g n cap f) (hb : Below W.heap.size W W') : OwnE e W' base g n cap f := owns_below h hb

theorem OwnE.congr {e : TypeId} {W : World} {base g n cap : Nat} {f f' : Nat → Int} (h : OwnE e W base g n cap f) (e' : ∀ i, i < n → f i = f' i) : OwnE e W base g n cap f' := by
  have : mk n f = mk n f' := by
    unfold mk
    exact List.map_congr_left (fun i hi => e' i (List.mem_range.1 hi))
  unfold OwnE at *
  rw [← this]; exact h

theorem OwnE.drewN {e : TypeId} {W : World} {base g n cap : Nat} {f : Nat → Int} (h : OwnE e W base g n cap f) (k : Nat) : OwnE e (W.drewN k) base g n cap f := h

theorem ownE_made {e : TypeId} {W : World} {base g n : Nat} (h : W.ownsRow base e 1 (.slice (some ⟨g, 0, none⟩) n n) n (madeCells (Value.int .i64 0).cells (n * 1)).toList) : OwnE e W base g n n (fun _ => 0) := by
  unfold OwnE
  rw [← made_zero]
  exact h

theorem below_set {B : Nat} {w W : World} {g : Nat} (h : Below B w W) (hg : B ≤ g) (i : Nat) (u : Value) : Below B w (W.setCell ⟨g, i, none⟩ u) := h.setCell (p := ⟨g, i, none⟩) hg u

theorem infoN : (Try.prog.info? 3).map (fun i => (i.zero, i.size, i.bytes)) = some (some (.int .i64 0), 1, 8) := by kernel_rfl

theorem infoN_ex : ∃ i, Try.prog.info? 3 = some i ∧ i.zero = some (.int .i64 0) ∧ i.size = 1 ∧ i.bytes = 8 := by
  have h := infoN
  cases e : Try.prog.info? 3 with
  | none => rw [e] at h; simp at h
  | some i => rw [e] at h; simp at h; exact ⟨i, rfl, h.1, h.2.1, h.2.2⟩

theorem below_snoc {W w1 : World} {base : Nat} {e : TypeId} {size : Nat} {v : Value} {k : Nat} {xs : List Value} {tmp : Obj} {w : World} (hB : Below w.heap.size w W) (hb : w.heap.size ≤ base)
    (hown : W.ownsRow base e size v k xs) (hgrow : (W.alloc tmp).grownBy w1 v.ownBlock) : Below w.heap.size w w1 := by
  refine (hB.alloc hB.size tmp).grown hgrow (by have := hB.size; simp; omega) fun j ej => ?_
  exact Nat.le_trans hb (hown.lt j ej).1

theorem ivals_succ (K : Nat) (f : Nat → Int) : ivals (mk (K + 1) f) = ivals (mk K f) ++ [.int .i64 (f K)] := by
  rw [mk_succ, ivals_snoc]

end Go.Proofs.Ytpnjpkmlfbcnjaa.Base6
