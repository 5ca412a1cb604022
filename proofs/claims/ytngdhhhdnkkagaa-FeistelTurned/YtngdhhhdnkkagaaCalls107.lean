/-
  Rounds from the last one on, in rows of the call's own; halves changed.
-/
import Derived.Test.YtngdhhhdnkkagaaCalls106
namespace Go.Proofs.Ytngdhhhdnkkagaa.Calls107
set_option linter.unusedVariables false
open Go.ChangeShapes Go.WideShapes Go.ChangeAt Go.RowKit Go.Shelf Go.Deep Go.Proofs.Ytngdhhhdnkkagaa.Base Go.Proofs.Ytngdhhhdnkkagaa.Base2 Go.Proofs.Ytngdhhhdnkkagaa.Num16 Go.Proofs.Ytngdhhhdnkkagaa.Num17 Go.Proofs.Ytngdhhhdnkkagaa.Num34 Go.Proofs.Ytngdhhhdnkkagaa.Num51 Go.Proofs.Ytngdhhhdnkkagaa.Base4 Go.Proofs.Ytngdhhhdnkkagaa.Base5 Go.Proofs.Ytngdhhhdnkkagaa.Calls96 Go.Proofs.Ytngdhhhdnkkagaa.Calls103 Go.Proofs.Ytngdhhhdnkkagaa.Calls104 Go.Proofs.Ytngdhhhdnkkagaa.Calls105 Go.Proofs.Ytngdhhhdnkkagaa.Calls106

theorem infoR : (Try.prog.info? 34).map (fun i => (i.zero, i.size, i.bytes)) = some (some (.slice none 0 0), 1, 24) := by kernel_rfl

theorem infoR_ex : ∃ i, Try.prog.info? 34 = some i ∧ i.zero = some (.slice none 0 0) ∧ i.size = 1 ∧ i.bytes = 24 := by
  have h := infoR
  cases e : Try.prog.info? 34 with
  | none => rw [e] at h; simp at h
  | some i => rw [e] at h; simp at h; exact ⟨i, rfl, h.1, h.2.1, h.2.2⟩

theorem swapped_any (x : Nat) (hx : x < 256) (w : World) :
    Calls Try.prog 15 #[.int .i64 (x : Int)] w fun e w' => e = .returned (.int .i64 ((sw x : Nat) : Int)) ∧ w' = w := by
  have e : Hid ((x : Int) % 16 * 16 + (x : Int) / 16 = ((sw x : Nat) : Int)) := by show _ = _; unfold sw; omega
  go_enter Try.func15, Try.ntmps15
  go_wp2
  go_ret
  exact ⟨ret_int e.out, rfl⟩

theorem below_snoc {W w1 : World} {base : Nat} {e : TypeId} {size : Nat} {v : Value} {k : Nat} {xs : List Value} {tmp : Obj} {w : World} (hB : Below w.heap.size w W) (hb : w.heap.size ≤ base)
    (hown : W.ownsRow base e size v k xs) (hgrow : (W.alloc tmp).grownBy w1 v.ownBlock) : Below w.heap.size w w1 := by
  refine (hB.alloc hB.size tmp).grown hgrow (by have := hB.size; simp; omega) fun j ej => ?_
  exact Nat.le_trans hb (hown.lt j ej).1

/-- The rows so far: from the last one on. -/
def RevAt (w : World) (L : List (List Int)) (N k : Nat) (vs : List Value) : Prop := ∀ j, j < k → ∃ u, vs[j]? = some u ∧ RowV w L (N - 1 - j) u

theorem RevAt.snoc {w : World} {L : List (List Int)} {N k : Nat} {vs : List Value} {u : Value} (h : RevAt w L N k vs) (hl : vs.length = k) (hu : RowV w L (N - 1 - k) u) : RevAt w L N (k + 1) (vs ++ [u]) := fun j hj => by
  by_cases e : j = k
  · subst e
    exact ⟨u, by rw [List.getElem?_append_right (by omega), hl, Nat.sub_self]; rfl, hu⟩
  · obtain ⟨v, h1, h2⟩ := h j (by omega)
    exact ⟨v, by rw [List.getElem?_append_left (by omega)]; exact h1, h2⟩

theorem rw_rev {L : List (List Int)} {j : Nat} (hj : j < L.length) : rw' L.reverse j = rw' L (L.length - 1 - j) := by
  have h2 : L.length - 1 - j < L.length := by omega
  simp [rw', List.getD, hj, h2]

/-- What such rows read as. -/
theorem RevAt.row {w W : World} {L : List (List Int)} {base : Nat} {v : Value} {vs : List Value} (h : RevAt w L L.length L.length vs) (hR : Ros L) (hown : W.ownsRow base 34 1 v L.length vs) (hB : Below w.heap.size w W) :
    ∃ ao cap, v = .slice ao L.length cap ∧ RRow W ao L.reverse := by
  rcases hown.2 with ⟨e, hn⟩ | ⟨g, cap, cur, e, hb, hg, hnc, hcm, hcs, htake⟩
  · have : L = [] := List.length_eq_zero_iff.mp hn
    subst this
    exact ⟨none, 0, e, rrow_nil _ _⟩
  · refine ⟨some ⟨g, 0, none⟩, cap, e, fun e => (by cases e), fun ad ea j hj => ?_⟩
    obtain rfl : (⟨g, 0, none⟩ : Addr) = ad := by simpa using ea
    have hj' : j < L.length := by simpa using hj
    obtain ⟨u, h1, hk, bd, cb, rfl, h3, h4⟩ := h j hj'
    subst e
    have hc := World.ownsRow.cellAt hown j (by omega)
    rw [h1] at hc
    have hr := hR _ (rw_mem hk)
    rw [rw_rev hj']
    refine ⟨some bd, cb, ?_, ⟨fun e => (by cases e), fun ad' e' i hi => ?_⟩, by rw [hr.1]; exact h3, by rw [hr.1]; decide⟩
    · rw [hr.1]
      rw [zero_add_addr]; exact hc
    · obtain rfl : bd = ad' := by simpa using e'
      have hi' : i < 16 := by rw [hr.1] at hi; exact hi
      rw [hr.eq hi']
      exact (hB.cell (p := bd.add i) (cell_lt (h4 i hi'))).trans (h4 i hi')

end Go.Proofs.Ytngdhhhdnkkagaa.Calls107
