/-
  Rows of rows of numbers in memory: an argument's.
-/
import Derived.Test.YtpnmepobdnclkaaBase4
namespace Go.Proofs.Ytpnmepobdnclkaa.Base5
set_option linter.unusedVariables false
open Go.ChangeShapes Go.WideShapes Go.ChangeAt Go.RowKit Go.Deep Go.Proofs.Ytpnmepobdnclkaa.Base Go.Proofs.Ytpnmepobdnclkaa.Base2 Go.Proofs.Ytpnmepobdnclkaa.Num16 Go.Proofs.Ytpnmepobdnclkaa.Num17 Go.Proofs.Ytpnmepobdnclkaa.Num34 Go.Proofs.Ytpnmepobdnclkaa.Base4

/-- What one cell of the outer row is: a slice that reads as the list. -/
def RAt (W : World) (a : Addr) (l : List Int) : Prop := ∃ bo cb, W.cell? a = some (.slice bo l.length cb) ∧ IRow W bo l ∧ l.length ≤ cb ∧ l.length ≤ 9223372036854775807

/-- The j-th row. -/
def rw' (L : List (List Int)) (j : Nat) : List Int := L.getD j []

/-- A slice of slices of numbers reads as a list of lists. -/
def RRow (W : World) (ao : Option Addr) (L : List (List Int)) : Prop :=
  (ao = none → L = []) ∧ ∀ ad, ao = some ad → ∀ j, j < L.length → RAt W (ad.add j) (rw' L j)

theorem rrow_none {W : World} {L : List (List Int)} (h : RRow W none L) {j : Nat} (hj : j < L.length) : False := by
  rw [h.1 rfl] at hj; simp at hj

theorem rat_below {W W' : World} {a : Addr} {l : List Int} {n : Nat} (h : RAt W a l) (hb : Below n W W') (hn : W.heap.size ≤ n) : RAt W' a l := by
  obtain ⟨bo, cb, h1, h2, h3, h4⟩ := h
  have hl := cell_lt h1
  exact ⟨bo, cb, (hb.cell (p := a) (by omega)).trans h1, irow_below h2 hb hn, h3, h4⟩

theorem rrow_below {W W' : World} {ao : Option Addr} {L : List (List Int)} {n : Nat} (h : RRow W ao L) (hb : Below n W W') (hn : W.heap.size ≤ n) : RRow W' ao L :=
  ⟨h.1, fun ad e j hj => rat_below (h.2 ad e j hj) hb hn⟩

theorem rrow_nil (W : World) (ao : Option Addr) : RRow W ao [] := ⟨fun _ => rfl, fun ad e j hj => by simp at hj⟩

theorem rw_mem {L : List (List Int)} {j : Nat} (h : j < L.length) : rw' L j ∈ L := by simp [rw', List.getD, h]

theorem rw_of_mem {L : List (List Int)} {r : List Int} (h : r ∈ L) : ∃ j, j < L.length ∧ rw' L j = r := by
  obtain ⟨j, hj, e⟩ := List.getElem_of_mem h
  exact ⟨j, hj, by simp [rw', List.getD, hj, e]⟩

theorem longs_view1 {H : Type} {enc : TypeId × Value → H} {P : Program} {W : World} {sp : Nat → Bool} {hd : Bool} {t te : TypeId} {v : Value} {fuel : Nat} {x : DataW H × List MemPlace}
    (ht : P.underlying t = some (.slice te)) (ce : P.cellsOf te = 1) (ue : P.underlying te = some (.int .i64)) (h : DataW.trod enc P W 0 sp hd fuel t [v] = some x) :
    ∃ (bo : Option Addr) (cb : Nat) (F : List Int), v = .slice bo F.length cb ∧ IRow W bo F ∧ F.length ≤ cb ∧ F.length ≤ 9223372036854775807 := by
  rcases open_slice1 ht ce h with ⟨hc, hx⟩ | ⟨a, len, cap, m, n, V, D, Pl, hcs, hb, hl, hm, hmm, hx, hall⟩
  · have e : v = .slice none 0 0 := by simpa using hc
    exact ⟨none, 0, [], e, irow_nil _ _, by simp, by simp⟩
  · have e : v = .slice (some a) len cap := by simpa using hcs
    have hlm : len ≤ m := by rw [hmm]; split <;> omega
    have each : ∀ i, i < len → ∃ z : Int, W.cell? (a.add i) = some (.int .i64 z) := by
      intro i hi
      obtain ⟨c0, t0⟩ := hall i (by omega)
      obtain ⟨z0, e0, _, w0⟩ := DataW.trod_int ue t0
      simp at e0
      rw [e0] at c0
      exact ⟨z0, c0⟩
    obtain ⟨q, hq⟩ := choose_lt each
    have hlen : (mk len q).length = len := mk_length _ _
    refine ⟨some a, cap, mk len q, by rw [hlen]; exact e, ⟨fun e => (by cases e), fun ad e j hj => ?_⟩, by rw [hlen]; exact hl, ?_⟩
    · obtain rfl : a = ad := by simpa using e
      rw [hlen] at hj
      rw [co_mk, if_pos hj]
      exact hq j hj
    · rw [hlen]; unfold maxLen at hm; omega

/-- An argument's rows, as a list of lists. -/
theorem rows_view {H : Type} {enc : TypeId × Value → H} {P : Program} {W : World} {sp : Nat → Bool} {hd : Bool} {t te ti : TypeId} {v : Value} {d : DataW H} {p : List MemPlace}
    (ht : P.underlying t = some (.slice te)) (ce : P.cellsOf te = 1) (he : P.underlying te = some (.slice ti)) (ci : P.cellsOf ti = 1) (ui : P.underlying ti = some (.int .i64)) (h : DataW.Trod enc P W 0 sp hd t v d p) (hv : ∃ a len cap, v = .slice a len cap) :
    ∃ (bo : Option Addr) (cb : Nat) (L : List (List Int)), v = .slice bo L.length cb ∧ RRow W bo L ∧ L.length ≤ cb ∧ L.length ≤ 9223372036854775807 := by
  obtain ⟨a0, len0, cap0, rfl⟩ := hv
  obtain ⟨fuel, hf⟩ := h
  have hf' : DataW.trod enc P W 0 sp hd fuel t [.slice a0 len0 cap0] = some (d, p) := hf
  rcases open_slice1 ht ce hf' with ⟨hc, hx⟩ | ⟨a, len, cap, m, n, V, D, Pl, hcs, hb, hl, hm, hmm, hx, hall⟩
  · have e : (Value.slice a0 len0 cap0) = .slice none 0 0 := by simpa using hc
    exact ⟨none, 0, [], e, rrow_nil _ _, by simp, by simp⟩
  · have e : (Value.slice a0 len0 cap0) = .slice (some a) len cap := by simpa using hcs
    have hlm : len ≤ m := by rw [hmm]; split <;> omega
    have each : ∀ i, i < len → ∃ l : List Int, RAt W (a.add i) l := by
      intro i hi
      obtain ⟨c0, t0⟩ := hall i (by omega)
      obtain ⟨bo, cb, F, e1, r1, k1, m1⟩ := longs_view1 he ci ui t0
      rw [e1] at c0
      exact ⟨F, bo, cb, c0, r1, k1, m1⟩
    obtain ⟨q, hq⟩ := choose_lt each
    have hlen : ((List.range len).map q).length = len := by simp
    refine ⟨some a, cap, (List.range len).map q, by rw [hlen]; exact e, ⟨fun e => (by cases e), fun ad e j hj => ?_⟩, by rw [hlen]; exact hl, ?_⟩
    · obtain rfl : a = ad := by simpa using e
      rw [hlen] at hj
      have e2 : rw' ((List.range len).map q) j = q j := by simp [rw', List.getD, hj]
      rw [e2]
      exact hq j hj
    · rw [hlen]; unfold maxLen at hm; omega

end Go.Proofs.Ytpnmepobdnclkaa.Base5
