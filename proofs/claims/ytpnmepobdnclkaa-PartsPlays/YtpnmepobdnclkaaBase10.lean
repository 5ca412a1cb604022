/-
  Arguments that are structs of numbers, and slices of structs of numbers.
-/
import Derived.Test.YtpnmepobdnclkaaBase
import Derived.Deep.Slices
namespace Go.Proofs.Ytpnmepobdnclkaa.Base10
set_option linter.unusedVariables false
open Go.ChangeShapes Go.WideShapes Go.ChangeAt Go.RowKit Go.Deep Go.Proofs.Ytpnmepobdnclkaa.Base

/-- A type of one cell that holds a number of 64 bits. -/
def Num64 (P : Program) (t : TypeId) : Prop := P.cellsOf t = 1 ∧ P.underlying t = some (.int .i64)

/-- The fields of a struct of numbers, one cell each. -/
def NumFs (P : Program) (fs : Array Field) : Prop := ∀ (i : Nat) (f : Field), fs[i]? = some f → f.offset = i ∧ Num64 P f.type

theorem numFs2 {P : Program} {f0 f1 : Field} (o0 : f0.offset = 0) (o1 : f1.offset = 1) (n0 : Num64 P f0.type) (n1 : Num64 P f1.type) : NumFs P #[f0, f1] := by
  intro i f h
  match i, h with
  | 0, h => simp at h; subst h; exact ⟨o0, n0⟩
  | 1, h => simp at h; subst h; exact ⟨o1, n1⟩
  | i + 2, h => simp at h

theorem numFs3 {P : Program} {f0 f1 f2 : Field} (o0 : f0.offset = 0) (o1 : f1.offset = 1) (o2 : f2.offset = 2) (n0 : Num64 P f0.type) (n1 : Num64 P f1.type) (n2 : Num64 P f2.type) : NumFs P #[f0, f1, f2] := by
  intro i f h
  match i, h with
  | 0, h => simp at h; subst h; exact ⟨o0, n0⟩
  | 1, h => simp at h; subst h; exact ⟨o1, n1⟩
  | 2, h => simp at h; subst h; exact ⟨o2, n2⟩
  | i + 3, h => simp at h

theorem numFs4 {P : Program} {f0 f1 f2 f3 : Field} (o0 : f0.offset = 0) (o1 : f1.offset = 1) (o2 : f2.offset = 2) (o3 : f3.offset = 3) (n0 : Num64 P f0.type) (n1 : Num64 P f1.type) (n2 : Num64 P f2.type) (n3 : Num64 P f3.type) : NumFs P #[f0, f1, f2, f3] := by
  intro i f h
  match i, h with
  | 0, h => simp at h; subst h; exact ⟨o0, n0⟩
  | 1, h => simp at h; subst h; exact ⟨o1, n1⟩
  | 2, h => simp at h; subst h; exact ⟨o2, n2⟩
  | 3, h => simp at h; subst h; exact ⟨o3, n3⟩
  | i + 4, h => simp at h

theorem take_one {α : Type} {l : List α} {i : Nat} (h : i < l.length) : (l.drop i).take 1 = [l[i]] := by
  rw [List.drop_eq_getElem_cons h]; rfl

/-- The cells of a struct of numbers. -/
theorem num_cells {H : Type} {enc : TypeId × Value → H} {P : Program} {W : World} {b : Nat} {sp : Nat → Bool} {hd : Bool} {t : TypeId} {fs : Array Field} {fuel : Nat} {cs : List Value} {x : DataW H × List MemPlace}
    (ht : P.underlying t = some (.struct fs)) (hf : NumFs P fs) (hc : P.cellsOf t = fs.size) (h : DataW.trod enc P W b sp hd fuel t cs = some x) :
    cs.length = fs.size ∧ ∀ i (hi : i < cs.length), ∃ z : Int, cs[i] = .int .i64 z ∧ (Lit.int .i64 z).wf = true := by
  obtain ⟨xs, n, _, hx, hl, hlen, hfs⟩ := DataW.trod_struct ht h
  refine ⟨by omega, fun i hi => ?_⟩
  have hi2 : i < fs.size := by omega
  have e := Array.getElem?_eq_getElem hi2
  obtain ⟨o, c1, u1⟩ := hf i _ e
  have g := hfs i _ e
  rw [o, c1, take_one hi, List.getElem?_eq_getElem (by omega)] at g
  obtain ⟨z, e1, _, w1⟩ := DataW.trod_int u1 g
  exact ⟨z, by simpa using e1, w1⟩

theorem num_view {H : Type} {enc : TypeId × Value → H} {P : Program} {W : World} {sp : Nat → Bool} {hd : Bool} {t : TypeId} {fs : Array Field} {v : Value} {d : DataW H} {p : List MemPlace} {r : Reach} {b0 : Nat}
    (ht : P.underlying t = some (.struct fs)) (hf : NumFs P fs) (hc : P.cellsOf t = fs.size) (h : DataW.Trod enc P W 0 sp hd t v d p) (hv : Value.okWide P W r b0 t v) :
    ∃ cs : Array Value, v = .agg cs ∧ cs.size = fs.size ∧ ∀ i (hi : i < cs.size), ∃ z : Int, cs[i] = .int .i64 z ∧ (Lit.int .i64 z).wf = true := by
  obtain ⟨cs, rfl, hsz⟩ := okWide_struct ht hv
  obtain ⟨fuel, hf2⟩ := h
  have hf' : DataW.trod enc P W 0 sp hd fuel t cs.toList = some (d, p) := hf2
  obtain ⟨hl, hz⟩ := num_cells ht hf hc hf'
  refine ⟨cs, rfl, by simpa using hl, fun i hi => ?_⟩
  obtain ⟨z, e, w⟩ := hz i (by simpa using hi)
  exact ⟨z, by simpa using e, w⟩

theorem struct2_view {H : Type} {enc : TypeId × Value → H} {P : Program} {W : World} {sp : Nat → Bool} {hd : Bool} {t : TypeId} {f0 f1 : Field} {v : Value} {d : DataW H} {p : List MemPlace} {r : Reach} {b0 : Nat}
    (ht : P.underlying t = some (.struct #[f0, f1])) (hc : P.cellsOf t = 2) (o0 : f0.offset = 0) (o1 : f1.offset = 1) (n0 : Num64 P f0.type) (n1 : Num64 P f1.type) (h : DataW.Trod enc P W 0 sp hd t v d p) (hv : Value.okWide P W r b0 t v) :
    ∃ a b : Int, v = .agg #[.int .i64 a, .int .i64 b] ∧ (Lit.int .i64 a).wf = true ∧ (Lit.int .i64 b).wf = true := by
  obtain ⟨cs, rfl, hs, hz⟩ := num_view ht (numFs2 o0 o1 n0 n1) hc h hv
  have hs : cs.size = 2 := hs
  obtain ⟨a, ea, wa⟩ := hz 0 (by omega)
  obtain ⟨b, eb, wb⟩ := hz 1 (by omega)
  refine ⟨a, b, congrArg Value.agg (Array.ext (by simpa using hs) fun i h1 h2 => ?_), wa, wb⟩
  match i, h1 with
  | 0, _ => exact ea
  | 1, _ => exact eb
  | i + 2, h1 => omega

theorem struct3_view {H : Type} {enc : TypeId × Value → H} {P : Program} {W : World} {sp : Nat → Bool} {hd : Bool} {t : TypeId} {f0 f1 f2 : Field} {v : Value} {d : DataW H} {p : List MemPlace} {r : Reach} {b0 : Nat}
    (ht : P.underlying t = some (.struct #[f0, f1, f2])) (hc : P.cellsOf t = 3) (o0 : f0.offset = 0) (o1 : f1.offset = 1) (o2 : f2.offset = 2) (n0 : Num64 P f0.type) (n1 : Num64 P f1.type) (n2 : Num64 P f2.type) (h : DataW.Trod enc P W 0 sp hd t v d p) (hv : Value.okWide P W r b0 t v) :
    ∃ a b c : Int, v = .agg #[.int .i64 a, .int .i64 b, .int .i64 c] ∧ (Lit.int .i64 a).wf = true ∧ (Lit.int .i64 b).wf = true ∧ (Lit.int .i64 c).wf = true := by
  obtain ⟨cs, rfl, hs, hz⟩ := num_view ht (numFs3 o0 o1 o2 n0 n1 n2) hc h hv
  have hs : cs.size = 3 := hs
  obtain ⟨a, ea, wa⟩ := hz 0 (by omega)
  obtain ⟨b, eb, wb⟩ := hz 1 (by omega)
  obtain ⟨c, ec, wc⟩ := hz 2 (by omega)
  refine ⟨a, b, c, congrArg Value.agg (Array.ext (by simpa using hs) fun i h1 h2 => ?_), wa, wb, wc⟩
  match i, h1 with
  | 0, _ => exact ea
  | 1, _ => exact eb
  | 2, _ => exact ec
  | i + 3, h1 => omega

theorem struct4_view {H : Type} {enc : TypeId × Value → H} {P : Program} {W : World} {sp : Nat → Bool} {hd : Bool} {t : TypeId} {f0 f1 f2 f3 : Field} {v : Value} {d : DataW H} {p : List MemPlace} {r : Reach} {b0 : Nat}
    (ht : P.underlying t = some (.struct #[f0, f1, f2, f3])) (hc : P.cellsOf t = 4) (o0 : f0.offset = 0) (o1 : f1.offset = 1) (o2 : f2.offset = 2) (o3 : f3.offset = 3) (n0 : Num64 P f0.type) (n1 : Num64 P f1.type) (n2 : Num64 P f2.type) (n3 : Num64 P f3.type) (h : DataW.Trod enc P W 0 sp hd t v d p) (hv : Value.okWide P W r b0 t v) :
    ∃ a b c e : Int, v = .agg #[.int .i64 a, .int .i64 b, .int .i64 c, .int .i64 e] ∧ (Lit.int .i64 a).wf = true ∧ (Lit.int .i64 b).wf = true ∧ (Lit.int .i64 c).wf = true ∧ (Lit.int .i64 e).wf = true := by
  obtain ⟨cs, rfl, hs, hz⟩ := num_view ht (numFs4 o0 o1 o2 o3 n0 n1 n2 n3) hc h hv
  have hs : cs.size = 4 := hs
  obtain ⟨a, ea, wa⟩ := hz 0 (by omega)
  obtain ⟨b, eb, wb⟩ := hz 1 (by omega)
  obtain ⟨c, ec, wc⟩ := hz 2 (by omega)
  obtain ⟨e, ee, we⟩ := hz 3 (by omega)
  refine ⟨a, b, c, e, congrArg Value.agg (Array.ext (by simpa using hs) fun i h1 h2 => ?_), wa, wb, wc, we⟩
  match i, h1 with
  | 0, _ => exact ea
  | 1, _ => exact eb
  | 2, _ => exact ec
  | 3, _ => exact ee
  | i + 4, h1 => omega

/-- Two numbers and a bool: a spot of a curve. -/
theorem spot_view {H : Type} {enc : TypeId × Value → H} {P : Program} {W : World} {sp : Nat → Bool} {hd : Bool} {t : TypeId} {f0 f1 f2 : Field} {v : Value} {d : DataW H} {p : List MemPlace} {r : Reach} {b0 : Nat}
    (ht : P.underlying t = some (.struct #[f0, f1, f2])) (hc : P.cellsOf t = 3) (o0 : f0.offset = 0) (o1 : f1.offset = 1) (o2 : f2.offset = 2) (n0 : Num64 P f0.type) (n1 : Num64 P f1.type) (c2 : P.cellsOf f2.type = 1) (u2 : P.underlying f2.type = some .bool) (h : DataW.Trod enc P W 0 sp hd t v d p) (hv : Value.okWide P W r b0 t v) :
    ∃ (a b : Int) (q : Bool), v = .agg #[.int .i64 a, .int .i64 b, .bool q] ∧ (Lit.int .i64 a).wf = true ∧ (Lit.int .i64 b).wf = true := by
  obtain ⟨cs, rfl, hsz⟩ := okWide_struct ht hv
  obtain ⟨fuel, hf2⟩ := h
  have hf' : DataW.trod enc P W 0 sp hd fuel t cs.toList = some (d, p) := hf2
  obtain ⟨xs, n, _, hx, hl, hlen, hfs⟩ := DataW.trod_struct ht hf'
  have hs : cs.size = 3 := by simpa [hc] using hsz
  have hlen : xs.length = 3 := hlen
  have g0 := hfs 0 f0 rfl
  have g1 := hfs 1 f1 rfl
  have g2 := hfs 2 f2 rfl
  rw [o0, n0.1, take_one (by simp; omega), List.getElem?_eq_getElem (by omega)] at g0
  rw [o1, n1.1, take_one (by simp; omega), List.getElem?_eq_getElem (by omega)] at g1
  rw [o2, c2, take_one (by simp; omega), List.getElem?_eq_getElem (by omega)] at g2
  obtain ⟨a, ea, _, wa⟩ := DataW.trod_int n0.2 g0
  obtain ⟨b, eb, _, wb⟩ := DataW.trod_int n1.2 g1
  obtain ⟨q, eq, _⟩ := DataW.trod_bool u2 g2
  simp at ea eb eq
  refine ⟨a, b, q, congrArg Value.agg (Array.ext (by simpa using hs) fun i h1 h2 => ?_), wa, wb⟩
  match i, h1 with
  | 0, _ => exact ea
  | 1, _ => exact eb
  | 2, _ => exact eq
  | i + 3, h1 => omega

/-! ### slices of structs of numbers -/

/-- A slice of structs of n numbers reads as a table of k rows. -/
def GRow (W : World) (ao : Option Addr) (n k : Nat) (F : Nat → Nat → Int) : Prop :=
  (ao = none → k = 0) ∧ ∀ ad, ao = some ad → ∀ i, i < k → ∀ j, j < n → W.cell? (ad.add (i * n + j)) = some (.int .i64 (F i j))

theorem grow_none {W : World} {n k : Nat} {F : Nat → Nat → Int} (h : GRow W none n k F) {i : Nat} (hi : i < k) : False := by
  have := h.1 rfl; omega

theorem grow_below {W W' : World} {ao : Option Addr} {n k : Nat} {F : Nat → Nat → Int} (h : GRow W ao n k F) (hB : Below W.heap.size W W') : GRow W' ao n k F := by
  refine ⟨h.1, fun ad e i hi j hj => ?_⟩
  have c := h.2 ad e i hi j hj
  exact (hB.cell (p := ad.add (i * n + j)) (cell_lt c)).trans c

theorem choose_g {P : Nat → (Nat → Int) → Prop} {n : Nat} (h : ∀ i, i < n → ∃ z, P i z) : ∃ f : Nat → Nat → Int, ∀ i, i < n → P i (f i) := by
  classical
  refine ⟨fun i => if hi : i < n then Classical.choose (h i hi) else fun _ => 0, fun i hi => ?_⟩
  show P i (if hi : i < n then Classical.choose (h i hi) else fun _ => 0)
  rw [dif_pos hi]
  exact Classical.choose_spec (h i hi)

theorem choose_i {P : Nat → Int → Prop} {n : Nat} (h : ∀ i, i < n → ∃ z, P i z) : ∃ f : Nat → Int, ∀ i, i < n → P i (f i) := by
  classical
  refine ⟨fun i => if hi : i < n then Classical.choose (h i hi) else 0, fun i hi => ?_⟩
  show P i (if hi : i < n then Classical.choose (h i hi) else 0)
  rw [dif_pos hi]
  exact Classical.choose_spec (h i hi)

theorem add_at (ad : Addr) (i j : Nat) : (ad.add i).add j = ad.add (i + j) := by
  unfold Addr.add
  by_cases h : i = 0
  · simp [h]
  · by_cases h2 : j = 0
    · simp [h2]
    · simp [h, h2]; omega

/-- An argument's structs of numbers, as a table. -/
theorem grid_view {H : Type} {enc : TypeId × Value → H} {P : Program} {W : World} {sp : Nat → Bool} {hd : Bool} {t te : TypeId} {fs : Array Field} {n : Nat} {v : Value} {d : DataW H} {p : List MemPlace}
    (ht : P.underlying t = some (.slice te)) (he : P.underlying te = some (.struct fs)) (hf : NumFs P fs) (hn : fs.size = n) (ce : P.cellsOf te = n) (h : DataW.Trod enc P W 0 sp hd t v d p) (hv : ∃ a len cap, v = .slice a len cap) :
    ∃ (bo : Option Addr) (cb k : Nat) (F : Nat → Nat → Int), v = .slice bo k cb ∧ GRow W bo n k F ∧ (∀ i, i < k → ∀ j, j < n → (Lit.int .i64 (F i j)).wf = true) ∧ k ≤ cb ∧ k ≤ 9223372036854775807 := by
  obtain ⟨a0, len0, cap0, rfl⟩ := hv
  obtain ⟨fuel, hf2⟩ := h
  have hf' : DataW.trod enc P W 0 sp hd fuel t [.slice a0 len0 cap0] = some (d, p) := hf2
  rcases open_slice ht hf' with ⟨hc, hx⟩ | ⟨a, len, cap, m, q, D, Pl, hcs, hb, hl, hm, hmm, hx, hall⟩
  · have e : (Value.slice a0 len0 cap0) = .slice none 0 0 := by simpa using hc
    exact ⟨none, 0, 0, fun _ _ => 0, e, ⟨fun _ => rfl, fun ad e => (by cases e)⟩, fun i hi => by omega, by omega, by omega⟩
  · have e : (Value.slice a0 len0 cap0) = .slice (some a) len cap := by simpa using hcs
    have hlm : len ≤ m := by rw [hmm]; split <;> omega
    have each : ∀ i, i < len → ∃ z : Nat → Int, ∀ j, j < n → W.cell? (a.add (i * n + j)) = some (.int .i64 (z j)) ∧ (Lit.int .i64 (z j)).wf = true := by
      intro i hi
      obtain ⟨cs', h1, h2⟩ := hall i (by omega)
      rw [ce] at h1
      obtain ⟨_, hlen, hcell⟩ := World.cells?_some h1
      obtain ⟨hl2, hz⟩ := num_cells he hf (by rw [ce, hn]) h2
      refine choose_i (P := fun j z => W.cell? (a.add (i * n + j)) = some (.int .i64 z) ∧ (Lit.int .i64 z).wf = true) (n := n) fun j hj => ?_
      obtain ⟨z, e1, w1⟩ := hz j (by omega)
      have c1 := hcell j (by omega)
      rw [add_at] at c1
      refine ⟨z, ?_, w1⟩
      rw [← e1, c1, List.getElem?_eq_getElem (by omega)]
    obtain ⟨F, hF⟩ := choose_g each
    refine ⟨some a, cap, len, F, e, ⟨fun e => (by cases e), fun ad e i hi j hj => ?_⟩, fun i hi j hj => (hF i hi j hj).2, hl, ?_⟩
    · obtain rfl : a = ad := by simpa using e
      exact (hF i hi j hj).1
    · unfold maxLen at hm; omega

end Go.Proofs.Ytpnmepobdnclkaa.Base10
