/-
  Rows of rows of bytes, and rows of numbers of 32 bits: an argument's.
-/
import Derived.Test.YthjmmibfgphlhaaBase8
namespace Go.Proofs.Ythjmmibfgphlhaa.Base9
set_option linter.unusedVariables false
open Go.ChangeShapes Go.WideShapes Go.ChangeAt Go.RowKit Go.Deep Go.Proofs.Ythjmmibfgphlhaa.Base Go.Proofs.Ythjmmibfgphlhaa.Base2 Go.Proofs.Ythjmmibfgphlhaa.Base7 Go.Proofs.Ythjmmibfgphlhaa.Base8

/-- What one cell of the outer row is: a slice that reads as the bytes. -/
def YAt (W : World) (a : Addr) (l : List Nat) : Prop := ∃ bo cb, W.cell? a = some (.slice bo l.length cb) ∧ YRow W bo l ∧ (∀ b ∈ l, b < 256) ∧ l.length ≤ cb ∧ l.length ≤ 9223372036854775807

/-- The j-th row. -/
def yr (L : List (List Nat)) (j : Nat) : List Nat := L.getD j []

/-- A slice of slices of bytes reads as a list of lists. -/
def YRows (W : World) (ao : Option Addr) (L : List (List Nat)) : Prop :=
  (ao = none → L = []) ∧ ∀ ad, ao = some ad → ∀ j, j < L.length → YAt W (ad.add j) (yr L j)

theorem yrows_none {W : World} {L : List (List Nat)} (h : YRows W none L) {j : Nat} (hj : j < L.length) : False := by
  rw [h.1 rfl] at hj; simp at hj

theorem yat_below {W W' : World} {a : Addr} {l : List Nat} (h : YAt W a l) (hb : Below W.heap.size W W') : YAt W' a l := by
  obtain ⟨bo, cb, h1, h2, h3, h4, h5⟩ := h
  have hl := cell_lt h1
  exact ⟨bo, cb, (hb.cell (p := a) (by omega)).trans h1, yrow_below h2 hb, h3, h4, h5⟩

theorem yrows_below {W W' : World} {ao : Option Addr} {L : List (List Nat)} (h : YRows W ao L) (hb : Below W.heap.size W W') : YRows W' ao L :=
  ⟨h.1, fun ad e j hj => yat_below (h.2 ad e j hj) hb⟩

theorem yrows_nil (W : World) (ao : Option Addr) : YRows W ao [] := ⟨fun _ => rfl, fun ad e j hj => by simp at hj⟩

theorem yr_mem {L : List (List Nat)} {j : Nat} (h : j < L.length) : yr L j ∈ L := by simp [yr, List.getD, h]

theorem yr_of_mem {L : List (List Nat)} {r : List Nat} (h : r ∈ L) : ∃ j, j < L.length ∧ yr L j = r := by
  obtain ⟨j, hj, e⟩ := List.getElem_of_mem h
  exact ⟨j, hj, by simp [yr, List.getD, hj, e]⟩

theorem bytes_view1 {H : Type} {enc : TypeId × Value → H} {P : Program} {W : World} {sp : Nat → Bool} {hd : Bool} {t te : TypeId} {v : Value} {fuel : Nat} {x : DataW H × List MemPlace}
    (ht : P.underlying t = some (.slice te)) (ce : P.cellsOf te = 1) (ue : P.underlying te = some (.int .u8)) (h : DataW.trod enc P W 0 sp hd fuel t [v] = some x) :
    ∃ (bo : Option Addr) (cb : Nat) (F : List Nat), v = .slice bo F.length cb ∧ YRow W bo F ∧ (∀ b ∈ F, b < 256) ∧ F.length ≤ cb ∧ F.length ≤ 9223372036854775807 := by
  have hv : ∃ a len cap, v = .slice a len cap := by
    rcases open_slice1 ht ce h with ⟨hc, _⟩ | ⟨a, len, cap, _, _, _, _, _, hcs, _⟩
    · exact ⟨none, 0, 0, by simpa using hc⟩
    · exact ⟨some a, len, cap, by simpa using hcs⟩
  obtain ⟨a, len, cap, rfl⟩ := hv
  exact bytes_view (d := x.1) (p := x.2) ht ce ue ⟨fuel, h⟩ ⟨a, len, cap, rfl⟩

theorem choose_l {P : Nat → List Nat → Prop} {n : Nat} (h : ∀ i, i < n → ∃ z, P i z) : ∃ f : Nat → List Nat, ∀ i, i < n → P i (f i) := by
  classical
  refine ⟨fun i => if hi : i < n then Classical.choose (h i hi) else [], fun i hi => ?_⟩
  show P i (if hi : i < n then Classical.choose (h i hi) else [])
  rw [dif_pos hi]
  exact Classical.choose_spec (h i hi)

/-- An argument's rows of bytes, as a list of lists. -/
theorem byterows_view {H : Type} {enc : TypeId × Value → H} {P : Program} {W : World} {sp : Nat → Bool} {hd : Bool} {t te ti : TypeId} {v : Value} {d : DataW H} {p : List MemPlace}
    (ht : P.underlying t = some (.slice te)) (ce : P.cellsOf te = 1) (he : P.underlying te = some (.slice ti)) (ci : P.cellsOf ti = 1) (ui : P.underlying ti = some (.int .u8)) (h : DataW.Trod enc P W 0 sp hd t v d p) (hv : ∃ a len cap, v = .slice a len cap) :
    ∃ (bo : Option Addr) (cb : Nat) (L : List (List Nat)), v = .slice bo L.length cb ∧ YRows W bo L ∧ L.length ≤ cb ∧ L.length ≤ 9223372036854775807 := by
  obtain ⟨a0, len0, cap0, rfl⟩ := hv
  obtain ⟨fuel, hf⟩ := h
  have hf' : DataW.trod enc P W 0 sp hd fuel t [.slice a0 len0 cap0] = some (d, p) := hf
  rcases open_slice1 ht ce hf' with ⟨hc, hx⟩ | ⟨a, len, cap, m, n, V, D, Pl, hcs, hb, hl, hm, hmm, hx, hall⟩
  · have e : (Value.slice a0 len0 cap0) = .slice none 0 0 := by simpa using hc
    exact ⟨none, 0, [], e, yrows_nil _ _, by simp, by simp⟩
  · have e : (Value.slice a0 len0 cap0) = .slice (some a) len cap := by simpa using hcs
    have hlm : len ≤ m := by rw [hmm]; split <;> omega
    have each : ∀ i, i < len → ∃ l : List Nat, YAt W (a.add i) l := by
      intro i hi
      obtain ⟨c0, t0⟩ := hall i (by omega)
      obtain ⟨bo, cb, F, e1, r1, b1, k1, m1⟩ := bytes_view1 he ci ui t0
      rw [e1] at c0
      exact ⟨F, bo, cb, c0, r1, b1, k1, m1⟩
    obtain ⟨q, hq⟩ := choose_l each
    have hlen : ((List.range len).map q).length = len := by simp
    refine ⟨some a, cap, (List.range len).map q, by rw [hlen]; exact e, ⟨fun e => (by cases e), fun ad e j hj => ?_⟩, by rw [hlen]; exact hl, ?_⟩
    · obtain rfl : a = ad := by simpa using e
      rw [hlen] at hj
      have e2 : yr ((List.range len).map q) j = q j := by simp [yr, List.getD, hj]
      rw [e2]
      exact hq j hj
    · rw [hlen]; unfold maxLen at hm; omega

/-! ### numbers of 32 bits -/

def uv (l : List Nat) : List Value := l.map (fun b : Nat => Value.int .u32 (b : Int))

/-- A slice of numbers of 32 bits reads as a list. -/
def URow (W : World) (ao : Option Addr) (l : List Nat) : Prop := VRow W ao (uv l)

theorem uv_length (l : List Nat) : (uv l).length = l.length := by simp [uv]

theorem uv_snoc (l : List Nat) (x : Nat) : uv (l ++ [x]) = uv l ++ [.int .u32 (x : Int)] := by simp [uv]

theorem uv_get {l : List Nat} {j : Nat} (h : j < l.length) : (uv l)[j]? = some (.int .u32 (yb l j : Int)) := by
  simp [uv, yb, List.getD, h]

theorem uv_one (l : List Nat) : ∀ u ∈ uv l, u.oneCell' = true := by
  intro u hu
  obtain ⟨x, _, rfl⟩ := List.mem_map.1 hu
  rfl

theorem uv_take (l : List Nat) (k : Nat) : uv (l.take k) = (uv l).take k := by simp [uv]

theorem uv_drop (l : List Nat) (k : Nat) : uv (l.drop k) = (uv l).drop k := by simp [uv]

theorem urow_cell {W : World} {ad : Addr} {l : List Nat} (h : URow W (some ad) l) {j : Nat} (hj : j < l.length) : W.cell? (ad.add j) = some (.int .u32 (yb l j : Int)) := h.2 ad rfl j _ (uv_get hj)

theorem urow_none {W : World} {l : List Nat} (h : URow W none l) {j : Nat} (hj : j < l.length) : False := vrow_none h (j := j) (by rw [uv_length]; exact hj)

theorem urow_below {W W' : World} {ao : Option Addr} {l : List Nat} (h : URow W ao l) (hb : Below W.heap.size W W') : URow W' ao l := vrow_below h hb (Nat.le_refl _)

theorem urow_take {W : World} {ao : Option Addr} {l : List Nat} (h : URow W ao l) (k : Nat) : URow W ao (l.take k) := by
  unfold URow; rw [uv_take]; exact vrow_take h k

theorem urow_drop {W : World} {ad : Addr} {l : List Nat} (h : URow W (some ad) l) (k : Nat) : URow W (some (ad.add k)) (l.drop k) := by
  unfold URow; rw [uv_drop]; exact vrow_drop h k

theorem u_owns {W : World} {base : Nat} {e : TypeId} {v : Value} {n : Nat} {l : List Nat} (h : W.ownsRow base e 1 v n (uv l)) :
    ∃ ao cap, v = .slice ao l.length cap ∧ l.length ≤ cap ∧ URow W ao l := by
  obtain ⟨ao, cap, h1, h2, h3⟩ := v_owns h
  rw [uv_length] at h1 h2
  exact ⟨ao, cap, h1, h2, h3⟩

/-- An argument's numbers of 32 bits, as a list. -/
theorem u32s_view {H : Type} {enc : TypeId × Value → H} {P : Program} {W : World} {sp : Nat → Bool} {hd : Bool} {t te : TypeId} {v : Value} {d : DataW H} {p : List MemPlace}
    (ht : P.underlying t = some (.slice te)) (ce : P.cellsOf te = 1) (ue : P.underlying te = some (.int .u32)) (h : DataW.Trod enc P W 0 sp hd t v d p) (hv : ∃ a len cap, v = .slice a len cap) :
    ∃ (bo : Option Addr) (cb : Nat) (F : List Nat), v = .slice bo F.length cb ∧ URow W bo F ∧ (∀ b ∈ F, b < 4294967296) ∧ F.length ≤ cb ∧ F.length ≤ 9223372036854775807 := by
  obtain ⟨a0, len0, cap0, rfl⟩ := hv
  obtain ⟨fuel, hf⟩ := h
  have hf' : DataW.trod enc P W 0 sp hd fuel t [.slice a0 len0 cap0] = some (d, p) := hf
  rcases open_slice1 ht ce hf' with ⟨hc, hx⟩ | ⟨a, len, cap, m, n, V, D, Pl, hcs, hb, hl, hm, hmm, hx, hall⟩
  · have e : (Value.slice a0 len0 cap0) = .slice none 0 0 := by simpa using hc
    exact ⟨none, 0, [], e, vrow_nil _ _, by simp, by simp, by simp⟩
  · have e : (Value.slice a0 len0 cap0) = .slice (some a) len cap := by simpa using hcs
    have hlm : len ≤ m := by rw [hmm]; split <;> omega
    have each : ∀ i, i < len → ∃ z : Nat, W.cell? (a.add i) = some (.int .u32 (z : Int)) ∧ z < 4294967296 := by
      intro i hi
      obtain ⟨c0, t0⟩ := hall i (by omega)
      obtain ⟨z0, e0, _, w0⟩ := DataW.trod_int ue t0
      simp at e0
      rw [e0] at c0
      have hb := bounds_u32 w0
      obtain ⟨z, rfl⟩ : ∃ z : Nat, z0 = (z : Int) := ⟨z0.toNat, by omega⟩
      exact ⟨z, c0, by omega⟩
    obtain ⟨q, hq⟩ := choose_y each
    have hlen : ((List.range len).map q).length = len := by simp
    have hget : ∀ j, j < len → yb ((List.range len).map q) j = q j := fun j hj => by simp [yb, List.getD, hj]
    refine ⟨some a, cap, (List.range len).map q, by rw [hlen]; exact e, ⟨fun e => (by cases e), fun ad e j u hu => ?_⟩, fun b hb' => ?_, by rw [hlen]; exact hl, ?_⟩
    · obtain rfl : a = ad := by simpa using e
      have hj : j < len := by have := (List.getElem?_eq_some_iff.1 hu).1; rw [uv_length, hlen] at this; exact this
      rw [uv_get (by rw [hlen]; exact hj), hget j hj] at hu
      rw [← hu]
      exact (hq j hj).1
    · obtain ⟨i, hi, rfl⟩ := List.mem_map.1 hb'
      exact (hq i (List.mem_range.1 hi)).2
    · rw [hlen]; unfold maxLen at hm; omega

end Go.Proofs.Ythjmmibfgphlhaa.Base9
