/-
  Rows of bytes in memory: an argument's, and those that a call makes itself.
-/
import Derived.Test.YtpflkihagebmlabBase7
namespace Go.Proofs.Ytpflkihagebmlab.Base8
set_option linter.unusedVariables false
open Go.ChangeShapes Go.WideShapes Go.ChangeAt Go.RowKit Go.Deep Go.Proofs.Ytpflkihagebmlab.Base Go.Proofs.Ytpflkihagebmlab.Base2 Go.Proofs.Ytpflkihagebmlab.Base7

/-- Behind a cut: the row from a place on. -/
theorem vrow_drop {W : World} {ad : Addr} {vs : List Value} (h : VRow W (some ad) vs) (k : Nat) : VRow W (some (ad.add k)) (vs.drop k) := by
  refine ⟨fun e => (by cases e), fun a e j u hu => ?_⟩
  obtain rfl : ad.add k = a := by simpa using e
  rw [List.getElem?_drop] at hu
  rw [Base2.add_add]
  exact h.2 ad rfl (k + j) u hu

/-! ### bytes -/

def yv (l : List Nat) : List Value := l.map (fun b : Nat => Value.int .u8 (b : Int))

def yb (l : List Nat) (j : Nat) : Nat := l.getD j 0

/-- A slice of bytes reads as a list. -/
def YRow (W : World) (ao : Option Addr) (l : List Nat) : Prop := VRow W ao (yv l)

theorem yv_length (l : List Nat) : (yv l).length = l.length := by simp [yv]

theorem yv_snoc (l : List Nat) (x : Nat) : yv (l ++ [x]) = yv l ++ [.int .u8 (x : Int)] := by simp [yv]

theorem yv_append (l m : List Nat) : yv (l ++ m) = yv l ++ yv m := by simp [yv]

theorem yv_get {l : List Nat} {j : Nat} (h : j < l.length) : (yv l)[j]? = some (.int .u8 (yb l j : Int)) := by
  simp [yv, yb, List.getD, h]

theorem yv_one (l : List Nat) : ∀ u ∈ yv l, u.oneCell' = true := by
  intro u hu
  obtain ⟨x, _, rfl⟩ := List.mem_map.1 hu
  rfl

theorem yv_take (l : List Nat) (k : Nat) : yv (l.take k) = (yv l).take k := by simp [yv]

theorem yv_drop (l : List Nat) (k : Nat) : yv (l.drop k) = (yv l).drop k := by simp [yv]

theorem yrow_cell {W : World} {ad : Addr} {l : List Nat} (h : YRow W (some ad) l) {j : Nat} (hj : j < l.length) : W.cell? (ad.add j) = some (.int .u8 (yb l j : Int)) := h.2 ad rfl j _ (yv_get hj)

theorem yrow_none {W : World} {l : List Nat} (h : YRow W none l) {j : Nat} (hj : j < l.length) : False := vrow_none h (j := j) (by rw [yv_length]; exact hj)

theorem yrow_below {W W' : World} {ao : Option Addr} {l : List Nat} (h : YRow W ao l) (hb : Below W.heap.size W W') : YRow W' ao l := vrow_below h hb (Nat.le_refl _)

theorem yrow_take {W : World} {ao : Option Addr} {l : List Nat} (h : YRow W ao l) (k : Nat) : YRow W ao (l.take k) := by
  unfold YRow; rw [yv_take]; exact vrow_take h k

theorem yrow_drop {W : World} {ad : Addr} {l : List Nat} (h : YRow W (some ad) l) (k : Nat) : YRow W (some (ad.add k)) (l.drop k) := by
  unfold YRow; rw [yv_drop]; exact vrow_drop h k

theorem yrow_nil (W : World) (ao : Option Addr) : YRow W ao [] := vrow_nil W ao

theorem yb_take {l : List Nat} {k j : Nat} (h : j < k) : yb (l.take k) j = yb l j := by
  simp [yb, List.getD, h]

theorem yb_drop (l : List Nat) (k j : Nat) : yb (l.drop k) j = yb l (k + j) := by
  simp [yb, List.getD]

theorem yb_left {l m : List Nat} {j : Nat} (h : j < l.length) : yb (l ++ m) j = yb l j := by
  simp [yb, List.getD, List.getElem?_append_left h]

theorem yb_right {l m : List Nat} {j : Nat} (h : l.length ≤ j) : yb (l ++ m) j = yb m (j - l.length) := by
  simp [yb, List.getD, List.getElem?_append_right h]

theorem yb_mem {l : List Nat} {j : Nat} (h : j < l.length) : yb l j ∈ l := by simp [yb, List.getD, h]

theorem yb_ext {a b : List Nat} (h : a.length = b.length) (h2 : ∀ i, i < a.length → yb a i = yb b i) : a = b := by
  apply List.ext_getElem h
  intro i h1 h3
  have := h2 i h1
  simpa [yb, List.getD, h1, h3] using this

/-- Taken together, byte by byte. -/
theorem ytake_succ {l : List Nat} {k : Nat} (h : k < l.length) : l.take (k + 1) = l.take k ++ [yb l k] := by
  rw [List.take_add_one]
  simp [yb, List.getD, h]

theorem infoY {te : TypeId} (h : (Try.prog.info? te).map (fun i => (i.zero, i.size, i.bytes)) = some (some (.int .u8 0), 1, 1)) : ∃ i, Try.prog.info? te = some i ∧ i.zero = some (.int .u8 0) ∧ i.size = 1 ∧ i.bytes = 1 := by
  cases e : Try.prog.info? te with
  | none => rw [e] at h; simp at h
  | some i => rw [e] at h; simp at h; exact ⟨i, rfl, h.1, h.2.1, h.2.2⟩

/-- The call has returned a slice that reads as l. -/
def RetY (l : List Nat) (e : Ending) (w' : World) : Prop := ∃ bo cb, e = .returned (.slice bo l.length cb) ∧ l.length ≤ cb ∧ YRow w' bo l

/-- The same, beside a code. -/
def RetYE (l : List Nat) (e : Ending) (w' : World) : Prop := ∃ bo cb, e = .returned (.tuple #[.slice bo l.length cb, .int .i64 0]) ∧ l.length ≤ cb ∧ YRow w' bo l

theorem y_owns {W : World} {base : Nat} {e : TypeId} {v : Value} {n : Nat} {l : List Nat} (h : W.ownsRow base e 1 v n (yv l)) :
    ∃ ao cap, v = .slice ao l.length cap ∧ l.length ≤ cap ∧ YRow W ao l := by
  obtain ⟨ao, cap, h1, h2, h3⟩ := v_owns h
  rw [yv_length] at h1 h2
  exact ⟨ao, cap, h1, h2, h3⟩

theorem choose_y {P : Nat → Nat → Prop} {n : Nat} (h : ∀ i, i < n → ∃ z, P i z) : ∃ f : Nat → Nat, ∀ i, i < n → P i (f i) := by
  classical
  refine ⟨fun i => if hi : i < n then Classical.choose (h i hi) else 0, fun i hi => ?_⟩
  show P i (if hi : i < n then Classical.choose (h i hi) else 0)
  rw [dif_pos hi]
  exact Classical.choose_spec (h i hi)

/-- An argument's bytes, as a list. -/
theorem bytes_view {H : Type} {enc : TypeId × Value → H} {P : Program} {W : World} {sp : Nat → Bool} {hd : Bool} {t te : TypeId} {v : Value} {d : DataW H} {p : List MemPlace}
    (ht : P.underlying t = some (.slice te)) (ce : P.cellsOf te = 1) (ue : P.underlying te = some (.int .u8)) (h : DataW.Trod enc P W 0 sp hd t v d p) (hv : ∃ a len cap, v = .slice a len cap) :
    ∃ (bo : Option Addr) (cb : Nat) (F : List Nat), v = .slice bo F.length cb ∧ YRow W bo F ∧ (∀ b ∈ F, b < 256) ∧ F.length ≤ cb ∧ F.length ≤ 9223372036854775807 := by
  obtain ⟨a0, len0, cap0, rfl⟩ := hv
  obtain ⟨fuel, hf⟩ := h
  have hf' : DataW.trod enc P W 0 sp hd fuel t [.slice a0 len0 cap0] = some (d, p) := hf
  rcases open_slice1 ht ce hf' with ⟨hc, hx⟩ | ⟨a, len, cap, m, n, V, D, Pl, hcs, hb, hl, hm, hmm, hx, hall⟩
  · have e : (Value.slice a0 len0 cap0) = .slice none 0 0 := by simpa using hc
    exact ⟨none, 0, [], e, yrow_nil _ _, by simp, by simp, by simp⟩
  · have e : (Value.slice a0 len0 cap0) = .slice (some a) len cap := by simpa using hcs
    have hlm : len ≤ m := by rw [hmm]; split <;> omega
    have each : ∀ i, i < len → ∃ z : Nat, W.cell? (a.add i) = some (.int .u8 (z : Int)) ∧ z < 256 := by
      intro i hi
      obtain ⟨c0, t0⟩ := hall i (by omega)
      obtain ⟨z0, e0, _, w0⟩ := DataW.trod_int ue t0
      simp at e0
      rw [e0] at c0
      have hb := bounds_u8 w0
      obtain ⟨z, rfl⟩ : ∃ z : Nat, z0 = (z : Int) := ⟨z0.toNat, by omega⟩
      exact ⟨z, c0, by omega⟩
    obtain ⟨q, hq⟩ := choose_y each
    have hlen : ((List.range len).map q).length = len := by simp
    have hget : ∀ j, j < len → yb ((List.range len).map q) j = q j := fun j hj => by simp [yb, List.getD, hj]
    refine ⟨some a, cap, (List.range len).map q, by rw [hlen]; exact e, ⟨fun e => (by cases e), fun ad e j u hu => ?_⟩, fun b hb' => ?_, by rw [hlen]; exact hl, ?_⟩
    · obtain rfl : a = ad := by simpa using e
      have hj : j < len := by have := (List.getElem?_eq_some_iff.1 hu).1; rw [yv_length, hlen] at this; exact this
      rw [yv_get (by rw [hlen]; exact hj), hget j hj] at hu
      rw [← hu]
      exact (hq j hj).1
    · obtain ⟨i, hi, rfl⟩ := List.mem_map.1 hb'
      exact (hq i (List.mem_range.1 hi)).2
    · rw [hlen]; unfold maxLen at hm; omega

/-! ### own rows of bytes, written by index -/

theorem yv_set (l : List Nat) (i q : Nat) : (yv l).set i (.int .u8 (q : Int)) = yv (l.set i q) := by
  unfold yv; rw [List.map_set]

/-- A row of the call's own, in the block g. -/
def OwnY (e : TypeId) (W : World) (base g cap : Nat) (l : List Nat) : Prop := W.ownsRow base e 1 (.slice (some ⟨g, 0, none⟩) l.length cap) l.length (yv l)

theorem OwnY.cell {e : TypeId} {W : World} {base g cap : Nat} {l : List Nat} (h : OwnY e W base g cap l) {i : Nat} (hi : i < l.length) : W.cell? ⟨g, i, none⟩ = some (.int .u8 (yb l i : Int)) := by
  have := World.ownsRow.cellAt h i (by omega)
  rw [this, yv_get hi]

theorem OwnY.frozen {e : TypeId} {W : World} {base g cap : Nat} {l : List Nat} (h : OwnY e W base g cap l) (i : Nat) : W.frozen? ⟨g, i, none⟩ = false := World.ownsRow.frozenAt h i

theorem OwnY.set {e : TypeId} {W : World} {base g cap : Nat} {l : List Nat} (h : OwnY e W base g cap l) (i q : Nat) : OwnY e (W.setCell ⟨g, i, none⟩ (.int .u8 (q : Int))) base g cap (l.set i q) := by
  have := (World.ownsRow.stored h i (.int .u8 (q : Int))).1
  rw [yv_set] at this
  unfold OwnY
  rw [List.length_set]
  exact this

theorem OwnY.row {e : TypeId} {W : World} {base g cap : Nat} {l : List Nat} (h : OwnY e W base g cap l) : YRow W (some ⟨g, 0, none⟩) l := by
  refine ⟨fun e => (by cases e), fun ad e j u hu => ?_⟩
  obtain rfl : (⟨g, 0, none⟩ : Addr) = ad := by simpa using e
  have hj : j < l.length := by have := (List.getElem?_eq_some_iff.1 hu).1; rw [yv_length] at this; exact this
  rw [yv_get hj] at hu
  rw [v_zero, h.cell hj, hu]

theorem OwnY.below {e : TypeId} {W W' : World} {base g cap : Nat} {l : List Nat} (h : OwnY e W base g cap l) (hb : Below W.heap.size W W') : OwnY e W' base g cap l := v_below h hb

theorem made_bytes (n : Nat) : (madeCells (Value.int .u8 0).cells (n * 1)).toList = yv (List.replicate n 0) := by
  simp [madeCells, yv, Value.cells, Nat.mod_one, List.map_const']

end Go.Proofs.Ytpflkihagebmlab.Base8
