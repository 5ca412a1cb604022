/-
  Rows of values in memory: an argument's, those that a call makes itself, and rows of rows; of bools above all.
-/
import Derived.Test.YtpnmepobdnclkaaBase2
import Derived.OwnWalk
import Derived.Laws.OwnMore
namespace Go.Proofs.Ytpnmepobdnclkaa.Base7
set_option linter.unusedVariables false
open Go.ChangeShapes Go.WideShapes Go.ChangeAt Go.RowKit Go.Deep Go.Proofs.Ytpnmepobdnclkaa.Base Go.Proofs.Ytpnmepobdnclkaa.Base2

/-- A slice of one-cell elements reads as a list of values. -/
def VRow (W : World) (ao : Option Addr) (vs : List Value) : Prop :=
  (ao = none → vs = []) ∧ ∀ ad, ao = some ad → ∀ j u, vs[j]? = some u → W.cell? (ad.add j) = some u

theorem vrow_none {W : World} {vs : List Value} (h : VRow W none vs) {j : Nat} (hj : j < vs.length) : False := by
  rw [h.1 rfl] at hj; simp at hj

theorem vrow_below {W W' : World} {ao : Option Addr} {vs : List Value} {n : Nat} (h : VRow W ao vs) (hb : Below n W W') (hn : W.heap.size ≤ n) : VRow W' ao vs := by
  refine ⟨h.1, fun ad e j u hu => ?_⟩
  have c := h.2 ad e j u hu
  have hl := cell_lt c
  exact (hb.cell (p := ad.add j) (by omega)).trans c

theorem vrow_nil (W : World) (ao : Option Addr) : VRow W ao [] := ⟨fun _ => rfl, fun ad e j u hu => by simp at hu⟩

theorem vrow_take {W : World} {ao : Option Addr} {vs : List Value} (h : VRow W ao vs) (k : Nat) : VRow W ao (vs.take k) := by
  refine ⟨fun e => by rw [h.1 e]; simp, fun ad e j u hu => h.2 ad e j u ?_⟩
  rw [List.getElem?_take] at hu
  split at hu
  · exact hu
  · cases hu

theorem v_zero (g j : Nat) : (⟨g, 0, none⟩ : Addr).add j = ⟨g, j, none⟩ := by
  unfold Addr.add; by_cases h : j = 0
  · simp [h]
  · simp [h]

theorem v_one {W : World} {t : TypeId} {a : Value} : ∀ j u, ([a] : List Value)[j]? = some u → (W.alloc (.cells #[a] t)).cell? ((⟨W.heap.size, 0, none⟩ : Addr).add j) = some u := by
  intro j u hj
  match j, hj with
  | 0, hj => simp at hj; subst hj; simp [Addr.add]

theorem v_below {W W' : World} {base : Nat} {e : TypeId} {size : Nat} {v : Value} {n : Nat} {xs : List Value} (h : W.ownsRow base e size v n xs) (hb : Below W.heap.size W W') : W'.ownsRow base e size v n xs := by
  refine ⟨h.1, ?_⟩
  rcases h.2 with ⟨rfl, hn⟩ | ⟨g, cap, cur, rfl, hb', hg, rest⟩
  · exact .inl ⟨rfl, hn⟩
  · exact .inr ⟨g, cap, cur, rfl, hb', (hb.block g (Array.getElem?_eq_some_iff.1 hg).1).trans hg, rest⟩

/-- What a call's own row of any form reads as. -/
theorem v_owns {W : World} {base : Nat} {e : TypeId} {v : Value} {n : Nat} {vs : List Value} (h : W.ownsRow base e 1 v n vs) :
    ∃ ao cap, v = .slice ao vs.length cap ∧ vs.length ≤ cap ∧ VRow W ao vs := by
  have hn : n = vs.length := by have := h.1; omega
  subst hn
  rcases h.2 with ⟨rfl, hn⟩ | ⟨g, cap, cur, rfl, hb, hg, hnc, hcm, hcs, htake⟩
  · have e : vs = [] := List.length_eq_zero_iff.1 (by omega)
    subst e
    exact ⟨none, 0, rfl, by simp, vrow_nil _ _⟩
  · refine ⟨some ⟨g, 0, none⟩, cap, rfl, hnc, fun h => (by cases h), fun ad h' j u hu => ?_⟩
    obtain rfl : (⟨g, 0, none⟩ : Addr) = ad := by simpa using h'
    have hj : j < vs.length := (List.getElem?_eq_some_iff.1 hu).1
    have c1 := World.ownsRow.cellAt ⟨by omega, .inr ⟨g, cap, cur, rfl, hb, hg, hnc, hcm, hcs, htake⟩⟩ j (by omega)
    rw [v_zero, c1]
    exact hu

theorem v_snoc {W w1 : World} {base : Nat} {e : TypeId} {size : Nat} {v : Value} {k : Nat} {xs : List Value} {tmp : Obj} {w : World} (hB : Below w.heap.size w W) (hb : w.heap.size ≤ base)
    (hown : W.ownsRow base e size v k xs) (hgrow : (W.alloc tmp).grownBy w1 v.ownBlock) : Below w.heap.size w w1 := by
  refine (hB.alloc hB.size tmp).grown hgrow (by have := hB.size; simp; omega) fun j ej => ?_
  exact Nat.le_trans hb (hown.lt j ej).1

/-- The same without new memory for what is appended. -/
theorem v_grow {W w1 : World} {base : Nat} {e : TypeId} {size : Nat} {v : Value} {k : Nat} {xs : List Value} {w : World} (hB : Below w.heap.size w W) (hb : w.heap.size ≤ base)
    (hown : W.ownsRow base e size v k xs) (hgrow : W.grownBy w1 v.ownBlock) : Below w.heap.size w w1 :=
  hB.grown hgrow hB.size (fun j ej => Nat.le_trans hb (hown.lt j ej).1)

theorem v_append_none {P : Program} (w : World) (t ty e : TypeId) (i : TypeInfo) (ht : P.underlying t = some (.slice e)) (hi : P.info? e = some i) (g c : Nat) :
    (Builtin.append_ #[t, t] ty #[.slice (some ⟨g, 0, none⟩) 0 0, .slice none 0 c]).run P w = .ok (.slice (some ⟨g, 0, none⟩) 0 0) w := by
  simp [Builtin.append_, run_underlying ht, sizeOf, typeInfo, hi, Builtin.lenOf, Builtin.firstCells, storeCells]

/-- 'append([]T{}, a...)': a copy, whatever a is. -/
theorem wpList_copyV {P : Program} (w : World) {ops : Array Oper} {rest : List Oper} {o : Oper} {a : Act} {Q : Exit → Act → World → Prop} (hgd : o.guard = none) (s x : Operand) (t : TypeId)
    (ho : o.op = .call { callee := .builtin .append, args := #[s, x], argTypes := #[t, t] })
    (base : Nat) (e : TypeId) (i : TypeInfo) (z : Value) (bytes : Nat) (ht : P.underlying t = some (.slice e)) (hi : P.info? e = some i) (hz : i.zero = some z) (hsize : i.size = 1) (hby : i.bytes = bytes) (hzc : z.cells.size = 1) (hb1 : 1 ≤ bytes) (hb2 : bytes ≤ 64)
    (g0 : Nat) (hs : a.eval s = .slice (some ⟨g0, 0, none⟩) 0 0) (hown : w.ownsRow base e 1 (.slice (some ⟨g0, 0, none⟩) 0 0) 0 [])
    (ao : Option Addr) (n c : Nat) (vs : List Value) (hx : a.eval x = .slice ao n c) (hn : n = vs.length) (hrow : VRow w ao vs) (hone : ∀ u ∈ vs, u.oneCell' = true) (h63 : n ≤ 4096) (hbase : base ≤ w.heap.size)
    (h : ∀ g cap w', w'.ownsRow base e 1 (.slice (some ⟨g, 0, none⟩) n cap) n vs → w.grownBy w' (some g0) → g < w'.heap.size → wpList P ops Q rest (a.put o.dst (.slice (some ⟨g, 0, none⟩) n cap)) w') : wpList P ops Q (o :: rest) a w := by
  subst hn
  by_cases h0 : vs.length = 0
  · have el : vs = [] := List.length_eq_zero_iff.1 h0
    subst el
    rcases ao with _ | ad
    · refine wpList_plain hgd fun K hK => ?_
      have hr := v_append_none (P := P) w t o.type e i ht hi g0 c
      have hx' : a.eval x = .slice none 0 c := hx
      unfold Oper.wp execOp
      simp only [ho, resolve, invoke, builtin, Sem.run_bind, Sem.run_pure, Result.andThen_ok, List.map_toArray, List.map_cons, List.map_nil, hs, hx', hr]
      exact hK _ _ (h g0 0 w hown (World.grownBy.refl _ _) (World.ownsRow.lt hown g0 rfl).2)
    · refine wpList_append_fits w hgd s x t ho base e i 1 ht hi hsize g0 0 0 [] hs hown ad 0 c [] hx rfl (fun j u hj => by simp at hj) (by simp) (by simp) ?_
      intro w' h1 h2
      exact h g0 0 w' (by simpa using h1) h2 (World.ownsRow.lt h1 g0 rfl).2
  · rcases ao with _ | ad
    · exact absurd (by rw [hrow.1 rfl]; rfl) h0
    · refine wpList_append_own0 w hgd s x t ho base e i z 1 bytes ht hi hz hsize hby hzc (by decide) (.slice (some ⟨g0, 0, none⟩) 0 0) 0 [] hs hown ad vs.length c vs hx (by omega) (hrow.2 ad rfl) hone (by omega) (by unfold maxLen; omega) (Nat.le_trans (Nat.mul_le_mul (show 0 + vs.length ≤ 4096 by omega) hb2) (by omega)) hbase ?_
      intro g cap w' h1 h2 h3 h4
      simp only [Nat.zero_add, List.nil_append] at h1 ⊢
      exact h g cap w' h1 h2 h4

/-! ### bools -/

def bv (l : List Bool) : List Value := l.map Value.bool

def gb (l : List Bool) (j : Nat) : Bool := l.getD j false

/-- A slice of bools reads as a list. -/
def BRow (W : World) (ao : Option Addr) (l : List Bool) : Prop := VRow W ao (bv l)

theorem bv_length (l : List Bool) : (bv l).length = l.length := by simp [bv]

theorem bv_snoc (l : List Bool) (x : Bool) : bv (l ++ [x]) = bv l ++ [.bool x] := by simp [bv]

theorem bv_get {l : List Bool} {j : Nat} (h : j < l.length) : (bv l)[j]? = some (.bool (gb l j)) := by
  simp [bv, gb, List.getD, h]

theorem bv_one (l : List Bool) : ∀ u ∈ bv l, u.oneCell' = true := by
  intro u hu
  obtain ⟨x, _, rfl⟩ := List.mem_map.1 hu
  rfl

theorem bv_take (l : List Bool) (k : Nat) : bv (l.take k) = (bv l).take k := by simp [bv]

theorem brow_cell {W : World} {ad : Addr} {l : List Bool} (h : BRow W (some ad) l) {j : Nat} (hj : j < l.length) : W.cell? (ad.add j) = some (.bool (gb l j)) := h.2 ad rfl j _ (bv_get hj)

theorem brow_none {W : World} {l : List Bool} (h : BRow W none l) {j : Nat} (hj : j < l.length) : False := vrow_none h (j := j) (by rw [bv_length]; exact hj)

theorem brow_below {W W' : World} {ao : Option Addr} {l : List Bool} (h : BRow W ao l) (hb : Below W.heap.size W W') : BRow W' ao l := vrow_below h hb (Nat.le_refl _)

theorem brow_take {W : World} {ao : Option Addr} {l : List Bool} (h : BRow W ao l) (k : Nat) : BRow W ao (l.take k) := by
  unfold BRow; rw [bv_take]; exact vrow_take h k

theorem brow_nil (W : World) (ao : Option Addr) : BRow W ao [] := vrow_nil W ao

theorem gb_take {l : List Bool} {k j : Nat} (h : j < k) : gb (l.take k) j = gb l j := by
  simp [gb, List.getD, h]

def mb (n : Nat) (f : Nat → Bool) : List Bool := (List.range n).map f

theorem mb_length (n : Nat) (f : Nat → Bool) : (mb n f).length = n := by simp [mb]

theorem gb_mb {n : Nat} {f : Nat → Bool} {j : Nat} (h : j < n) : gb (mb n f) j = f j := by simp [gb, mb, List.getD, h]

theorem mb_succ (n : Nat) (f : Nat → Bool) : mb (n + 1) f = mb n f ++ [f n] := by simp [mb, List.range_succ]

theorem bv_succ (n : Nat) (f : Nat → Bool) : bv (mb (n + 1) f) = bv (mb n f) ++ [.bool (f n)] := by rw [mb_succ, bv_snoc]

theorem mb_congr {n : Nat} {f g : Nat → Bool} (h : ∀ i, i < n → f i = g i) : mb n f = mb n g := by
  unfold mb; exact List.map_congr_left (fun i hi => h i (List.mem_range.1 hi))

theorem mb_of (l : List Bool) : mb l.length (gb l) = l := by
  apply List.ext_getElem
  · simp [mb]
  · intro i h1 h2
    have : i < l.length := h2
    simp [mb, gb, List.getD, this]

theorem gb_ext {a b : List Bool} (h : a.length = b.length) (h2 : ∀ i, i < a.length → gb a i = gb b i) : a = b := by
  rw [← mb_of a, ← mb_of b, h]
  exact mb_congr (fun i hi => h2 i (by omega))

theorem gb_far {l : List Bool} {j : Nat} (h : l.length ≤ j) : gb l j = false := by simp [gb, List.getD, h]

theorem infoBo : (Try.prog.info? 4).map (fun i => (i.zero, i.size, i.bytes)) = some (some (.bool false), 1, 1) := by kernel_rfl

theorem infoBo_ex : ∃ i, Try.prog.info? 4 = some i ∧ i.zero = some (.bool false) ∧ i.size = 1 ∧ i.bytes = 1 := by
  have h := infoBo
  cases e : Try.prog.info? 4 with
  | none => rw [e] at h; simp at h
  | some i => rw [e] at h; simp at h; exact ⟨i, rfl, h.1, h.2.1, h.2.2⟩

/-- The call has returned a slice that reads as l. -/
def RetB (l : List Bool) (e : Ending) (w' : World) : Prop := ∃ bo cb, e = .returned (.slice bo l.length cb) ∧ l.length ≤ cb ∧ BRow w' bo l

/-- The same, beside a code. -/
def RetBE (l : List Bool) (e : Ending) (w' : World) : Prop := ∃ bo cb, e = .returned (.tuple #[.slice bo l.length cb, .int .i64 0]) ∧ l.length ≤ cb ∧ BRow w' bo l

theorem b_owns {W : World} {base : Nat} {e : TypeId} {v : Value} {n : Nat} {l : List Bool} (h : W.ownsRow base e 1 v n (bv l)) :
    ∃ ao cap, v = .slice ao l.length cap ∧ l.length ≤ cap ∧ BRow W ao l := by
  obtain ⟨ao, cap, h1, h2, h3⟩ := v_owns h
  rw [bv_length] at h1 h2
  exact ⟨ao, cap, h1, h2, h3⟩

theorem choose_b {P : Nat → Bool → Prop} {n : Nat} (h : ∀ i, i < n → ∃ z, P i z) : ∃ f : Nat → Bool, ∀ i, i < n → P i (f i) := by
  classical
  refine ⟨fun i => if hi : i < n then Classical.choose (h i hi) else false, fun i hi => ?_⟩
  show P i (if hi : i < n then Classical.choose (h i hi) else false)
  rw [dif_pos hi]
  exact Classical.choose_spec (h i hi)

/-- An argument's bools, as a list. -/
theorem bools_view {H : Type} {enc : TypeId × Value → H} {P : Program} {W : World} {sp : Nat → Bool} {hd : Bool} {t te : TypeId} {v : Value} {d : DataW H} {p : List MemPlace}
    (ht : P.underlying t = some (.slice te)) (ce : P.cellsOf te = 1) (ue : P.underlying te = some .bool) (h : DataW.Trod enc P W 0 sp hd t v d p) (hv : ∃ a len cap, v = .slice a len cap) :
    ∃ (bo : Option Addr) (cb : Nat) (F : List Bool), v = .slice bo F.length cb ∧ BRow W bo F ∧ F.length ≤ cb ∧ F.length ≤ 9223372036854775807 := by
  obtain ⟨a0, len0, cap0, rfl⟩ := hv
  obtain ⟨fuel, hf⟩ := h
  have hf' : DataW.trod enc P W 0 sp hd fuel t [.slice a0 len0 cap0] = some (d, p) := hf
  rcases open_slice1 ht ce hf' with ⟨hc, hx⟩ | ⟨a, len, cap, m, n, V, D, Pl, hcs, hb, hl, hm, hmm, hx, hall⟩
  · have e : (Value.slice a0 len0 cap0) = .slice none 0 0 := by simpa using hc
    exact ⟨none, 0, [], e, brow_nil _ _, by simp, by simp⟩
  · have e : (Value.slice a0 len0 cap0) = .slice (some a) len cap := by simpa using hcs
    have hlm : len ≤ m := by rw [hmm]; split <;> omega
    have each : ∀ i, i < len → ∃ z : Bool, W.cell? (a.add i) = some (.bool z) := by
      intro i hi
      obtain ⟨c0, t0⟩ := hall i (by omega)
      obtain ⟨z0, e0, _⟩ := DataW.trod_bool ue t0
      simp at e0
      rw [e0] at c0
      exact ⟨z0, c0⟩
    obtain ⟨q, hq⟩ := choose_b each
    have hlen : (mb len q).length = len := mb_length _ _
    refine ⟨some a, cap, mb len q, by rw [hlen]; exact e, ⟨fun e => (by cases e), fun ad e j u hu => ?_⟩, by rw [hlen]; exact hl, ?_⟩
    · obtain rfl : a = ad := by simpa using e
      have hj : j < len := by have := (List.getElem?_eq_some_iff.1 hu).1; rw [bv_length, hlen] at this; exact this
      rw [bv_get (by rw [hlen]; exact hj), gb_mb hj] at hu
      rw [← hu]
      exact hq j hj
    · rw [hlen]; unfold maxLen at hm; omega

/-! ### own rows, written by index -/

/-- A row of the call's own: n bools in the block g. -/
def OwnB (W : World) (base g n cap : Nat) (f : Nat → Bool) : Prop := W.ownsRow base 4 1 (.slice (some ⟨g, 0, none⟩) n cap) n (bv (mb n f))

theorem OwnB.cell {W : World} {base g n cap : Nat} {f : Nat → Bool} (h : OwnB W base g n cap f) {i : Nat} (hi : i < n) : W.cell? ⟨g, i, none⟩ = some (.bool (f i)) := by
  have := World.ownsRow.cellAt h i (by omega)
  rw [this, bv_get (by rw [mb_length]; exact hi), gb_mb hi]

theorem OwnB.frozen {W : World} {base g n cap : Nat} {f : Nat → Bool} (h : OwnB W base g n cap f) (i : Nat) : W.frozen? ⟨g, i, none⟩ = false := World.ownsRow.frozenAt h i

theorem OwnB.lt {W : World} {base g n cap : Nat} {f : Nat → Bool} (h : OwnB W base g n cap f) : base ≤ g ∧ g < W.heap.size := World.ownsRow.lt h g rfl

/-- One bool turned. -/
def upb (f : Nat → Bool) (i : Nat) (q : Bool) : Nat → Bool := fun j => if j = i then q else f j

theorem bv_set (f : Nat → Bool) (n i : Nat) (q : Bool) : (bv (mb n f)).set i (.bool q) = bv (mb n (upb f i q)) := by
  apply List.ext_getElem?
  intro j
  by_cases hj : j < n
  · rw [bv_get (by rw [mb_length]; exact hj), gb_mb hj, List.getElem?_set]
    unfold upb
    by_cases e : i = j
    · subst e
      rw [if_pos rfl, if_pos rfl, if_pos (by rw [bv_length, mb_length]; exact hj)]
    · rw [if_neg e, if_neg (fun h => e h.symm), bv_get (by rw [mb_length]; exact hj), gb_mb hj]
  · rw [List.getElem?_eq_none (by rw [List.length_set, bv_length, mb_length]; omega), List.getElem?_eq_none (by rw [bv_length, mb_length]; omega)]

theorem OwnB.set {W : World} {base g n cap : Nat} {f : Nat → Bool} (h : OwnB W base g n cap f) (i : Nat) (q : Bool) : OwnB (W.setCell ⟨g, i, none⟩ (.bool q)) base g n cap (upb f i q) := by
  have := (World.ownsRow.stored h i (.bool q)).1
  rw [bv_set] at this
  exact this

theorem OwnB.row {W : World} {base g n cap : Nat} {f : Nat → Bool} (h : OwnB W base g n cap f) : BRow W (some ⟨g, 0, none⟩) (mb n f) := by
  refine ⟨fun e => (by cases e), fun ad e j u hu => ?_⟩
  obtain rfl : (⟨g, 0, none⟩ : Addr) = ad := by simpa using e
  have hj : j < n := by have := (List.getElem?_eq_some_iff.1 hu).1; rw [bv_length, mb_length] at this; exact this
  rw [bv_get (by rw [mb_length]; exact hj), gb_mb hj] at hu
  rw [v_zero, h.cell hj, hu]

theorem OwnB.below {W W' : World} {base g n cap : Nat} {f : Nat → Bool} (h : OwnB W base g n cap f) (hb : Below W.heap.size W W') : OwnB W' base g n cap f := v_below h hb

theorem OwnB.congr {W : World} {base g n cap : Nat} {f f' : Nat → Bool} (h : OwnB W base g n cap f) (e : ∀ i, i < n → f i = f' i) : OwnB W base g n cap f' := by
  unfold OwnB at *
  rw [← mb_congr e]; exact h

theorem OwnB.cap_le {W : World} {base g n cap : Nat} {f : Nat → Bool} (h : OwnB W base g n cap f) : n ≤ cap := by
  rcases h.2 with ⟨h', _⟩ | ⟨g', cap', cur, h', _, hg, hnc, _⟩
  · simp at h'
  · simp only [Value.slice.injEq, Option.some.injEq, Addr.mk.injEq, and_true, true_and] at h'
    obtain ⟨rfl, rfl⟩ := h'
    exact hnc

theorem made_false (n : Nat) : (madeCells (Value.bool false).cells (n * 1)).toList = bv (mb n (fun _ => false)) := by
  simp [madeCells, mb, bv, Value.cells, Nat.mod_one, Function.comp_def]

theorem ownB_made {W : World} {base g n : Nat} (h : W.ownsRow base 4 1 (.slice (some ⟨g, 0, none⟩) n n) n (madeCells (Value.bool false).cells (n * 1)).toList) : OwnB W base g n n (fun _ => false) := by
  unfold OwnB
  rw [← made_false]
  exact h

theorem v_set {B : Nat} {w W : World} {g : Nat} (h : Below B w W) (hg : B ≤ g) (i : Nat) (u : Value) : Below B w (W.setCell ⟨g, i, none⟩ u) := h.setCell (p := ⟨g, i, none⟩) hg u

/-! ### rows of rows -/

/-- One of the rows: a block of its own, with these values; it is not the outer row's. -/
def VAt (W : World) (own : Option Nat) (u : Option Value) (vs : List Value) : Prop :=
  ∃ g c, u = some (.slice (some ⟨g, 0, none⟩) vs.length c) ∧ vs.length ≤ c ∧ own ≠ some g ∧ g < W.heap.size ∧ ∀ i x, vs[i]? = some x → W.cell? ⟨g, i, none⟩ = some x

/-- The call's own rows: the outer one's cells lead to rows that read as f 0, f 1 .. -/
def VTab (te : TypeId) (W : World) (base : Nat) (v : Value) (k : Nat) (f : Nat → List Value) : Prop :=
  ∃ us : List Value, W.ownsRow base te 1 v k us ∧ ∀ j, j < k → VAt W v.ownBlock us[j]? (f j)

theorem VAt.below {W W' : World} {own : Option Nat} {u : Option Value} {vs : List Value} (h : VAt W own u vs) (hB : Below W.heap.size W W') : VAt W' own u vs := by
  obtain ⟨g, c, h1, h2, h3, h4, h5⟩ := h
  exact ⟨g, c, h1, h2, h3, Nat.lt_of_lt_of_le h4 hB.size, fun i x hi => (hB.cell (p := ⟨g, i, none⟩) h4).trans (h5 i x hi)⟩

theorem VTab.below {te : TypeId} {W W' : World} {base : Nat} {v : Value} {k : Nat} {f : Nat → List Value} (h : VTab te W base v k f) (hB : Below W.heap.size W W') : VTab te W' base v k f := by
  obtain ⟨us, h1, h2⟩ := h
  exact ⟨us, v_below h1 hB, fun j hj => (h2 j hj).below hB⟩

theorem VTab.nil (te : TypeId) (W : World) (base : Nat) (f : Nat → List Value) : VTab te W base (.slice none 0 0) 0 f := ⟨[], World.ownsRow_nil _ _ _ _, fun j hj => absurd hj (by omega)⟩

theorem VTab.congr {te : TypeId} {W : World} {base : Nat} {v : Value} {k : Nat} {f f' : Nat → List Value} (h : VTab te W base v k f) (e : ∀ j, j < k → f j = f' j) : VTab te W base v k f' := by
  obtain ⟨us, h1, h2⟩ := h
  exact ⟨us, h1, fun j hj => e j hj ▸ h2 j hj⟩

theorem VAt.grown {W W' : World} {own : Option Nat} {u : Option Value} {vs : List Value} (h : VAt W own u vs) (hg : W.grownBy W' own) {g : Nat} (hor : own = some g ∨ W.heap.size ≤ g) : VAt W' (some g) u vs := by
  obtain ⟨b, c, h1, h2, h3, h4, h5⟩ := h
  refine ⟨b, c, h1, h2, fun e => ?_, Nat.lt_of_lt_of_le h4 hg.size, fun i x hi => (World.cell?_of_block (a := ⟨b, i, none⟩) (hg.block b h4 (fun e => h3 e.symm))).trans (h5 i x hi)⟩
  have : g = b := Option.some.inj e
  subst this
  rcases hor with hor | hor
  · exact h3 hor
  · omega

/-- One row more. -/
theorem VTab.snoc {te : TypeId} {W W' : World} {base : Nat} {v : Value} {k : Nat} {f : Nat → List Value} {us : List Value} {u : Value} {tmp : Obj} {g cap : Nat} (hown : W.ownsRow base te 1 v k us) (hrows : ∀ j, j < k → VAt W v.ownBlock us[j]? (f j)) (hu : VAt W v.ownBlock (some u) (f k))
    (h1 : W'.ownsRow base te 1 (.slice (some ⟨g, 0, none⟩) (k + 1) cap) (k + 1) (us ++ [u])) (hg : (W.alloc tmp).grownBy W' v.ownBlock) (hor : v.ownBlock = some g ∨ g = (W.alloc tmp).heap.size) : VTab te W' base (.slice (some ⟨g, 0, none⟩) (k + 1) cap) (k + 1) f := by
  have hl : us.length = k := by have := hown.1; omega
  have hB : Below W.heap.size W (W.alloc tmp) := (Below.refl _ _).alloc (Nat.le_refl _) _
  have hor' : v.ownBlock = some g ∨ (W.alloc tmp).heap.size ≤ g := hor.imp id (fun e => by omega)
  refine ⟨us ++ [u], h1, fun j hj => ?_⟩
  by_cases e : j = k
  · subst e
    rw [List.getElem?_append_right (by omega), hl, Nat.sub_self]
    exact (hu.below hB).grown hg hor'
  · rw [List.getElem?_append_left (by omega)]
    exact ((hrows j (by omega)).below hB).grown hg hor'

/-- The j-th row, as the walk meets it. -/
theorem VTab.at {te : TypeId} {W : World} {base : Nat} {v : Value} {k : Nat} {f : Nat → List Value} (h : VTab te W base v k f) {j : Nat} (hj : j < k) :
    ∃ G C, v = .slice (some ⟨G, 0, none⟩) k C ∧ k ≤ C ∧ ∃ g c, W.cell? ⟨G, j, none⟩ = some (.slice (some ⟨g, 0, none⟩) (f j).length c) ∧ (f j).length ≤ c ∧ ∀ i x, (f j)[i]? = some x → W.cell? ⟨g, i, none⟩ = some x := by
  obtain ⟨us, h1, h2⟩ := h
  rcases h1.2 with ⟨rfl, hn⟩ | ⟨G, cap, cur, rfl, hb, hg, hnc, hcm, hcs, htake⟩
  · omega
  · obtain ⟨g, c, e1, e2, _, _, e5⟩ := h2 j hj
    have hc := World.ownsRow.cellAt h1 j (by omega)
    rw [e1] at hc
    exact ⟨G, cap, rfl, hnc, g, c, hc, e2, e5⟩

theorem VTab.len {te : TypeId} {W : World} {base : Nat} {v : Value} {k : Nat} {f : Nat → List Value} (h : VTab te W base v k f) : ∃ ao C, v = .slice ao k C ∧ k ≤ C := by
  obtain ⟨us, h1, h2⟩ := h
  rcases h1.2 with ⟨rfl, hn⟩ | ⟨G, cap, cur, rfl, hb, hg, hnc, hcm, hcs, htake⟩
  · exact ⟨none, 0, by rw [hn], by omega⟩
  · exact ⟨_, cap, rfl, hnc⟩

end Go.Proofs.Ytpnmepobdnclkaa.Base7
