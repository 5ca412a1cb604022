/-
  What many walks use, whatever the program: facts kept out of sight, what lies as it lay, boxes, rows of pairs in memory.
-/
import Derived.Test.YtpnmepobdnclkaaRows
import Derived.WalkKit
import Derived.ProofKit
import Derived.OpenShut
import Derived.WalkSpells
import Derived.Below
import Derived.RangeFuncRecord
import Derived.Deep.SlicePairs
import Derived.Deep.QuietTactic
import Derived.BigQuiet
namespace Go.Proofs.Ytpnmepobdnclkaa.Base
set_option linter.unusedVariables false
open Go.ChangeShapes Go.WideShapes Go.ChangeAt Go.RowKit Go.Deep

theorem hid {p : Prop} (h : p) : Hid p := h

theorem ret_int {k : IntKind} {a b : Int} (h : a = b) : Ending.returned (.int k a) = .returned (.int k b) := by rw [h]

theorem ret_bool {a b : Bool} (h : a = b) : Ending.returned (.bool a) = .returned (.bool b) := by rw [h]

/-- Where an argument holds no memory: what lies below the call's own blocks lies as it lay. -/
theorem post_of_kept {H : Type} {enc : TypeId × Value → H} {P : Program} {f : Func} {s : ChangeSpec} {apart fresh handsOn : Bool} {W W' : World} {args : Array Value} {v : Value} {ds gs : List (DataW H)} {before pa pv : List MemPlace}
    (hW : DataW.Whole enc P f.params.toList s.vars apart W args.toList ds gs before)
    (hres : ∀ (b : Nat) (sp : Nat → Bool) (hd : Bool), DataW.TrodAll enc P W' b sp hd f.resultTypes.toList (v.resultList f.resultTypes.size) (s.fn H (ds ++ gs)).results [])
    (hargs : ∀ sp : Nat → Bool, (∀ p ∈ before, sp p.block = true) → DataW.TrodAll enc P W' 0 sp true f.params.toList args.toList (s.fn H (ds ++ gs)).args pa)
    (hvars : ∀ sp : Nat → Bool, (∀ p ∈ before, sp p.block = true) → DataW.TrodVars enc P W' sp s.vars (s.fn H (ds ++ gs)).vars pv)
    (hps : before = pa ++ pv) (hk : W.keptBut W' (· ∈ before)) :
    s.post enc P f apart fresh handsOn false W args v W' := by
  have hold : ∀ p ∈ before, (fun b => decide (b < W.heap.size)) p.block = true := fun p hp => by simpa using hW.lt p hp
  refine ⟨ds, gs, before, [], pa, pv, hW, hres _ _ _, hargs _ hold, hvars _ hold, World.keptBut_mono (fun p hp => ⟨hp, ?_⟩) hk, fun h => by cases h⟩
  rw [hps, List.mem_append] at hp
  exact Or.inr hp

theorem below_trans {a b c : World} (h : Below a.heap.size a b) (k : Below b.heap.size b c) : Below a.heap.size a c := h.trans (k.mono h.size)

theorem below_drewN {B : Nat} {a b : World} (h : Below B a b) (n : Nat) : Below B a (b.drewN n) := ⟨h.os, h.tape, h.output, h.size, h.block⟩

theorem measK {k n : Nat} (h : k < n) : ((n : Int) - ((k : Int) + 1)).toNat < ((n : Int) - (k : Int)).toNat := by omega

/-- The call has returned whether P holds. -/
def Says (P : Prop) (e : Ending) : Prop := ∃ b : Bool, (b = true ↔ P) ∧ e = .returned (.bool b)

theorem Says.yes {P : Prop} (h : P) : Says P (.returned (.bool true)) := ⟨true, ⟨fun _ => h, fun _ => rfl⟩, rfl⟩

theorem Says.no {P : Prop} (h : ¬ P) : Says P (.returned (.bool false)) := ⟨false, ⟨fun h' => (by cases h'), fun h' => absurd h' h⟩, rfl⟩

theorem Says.get {P : Prop} {e : Ending} (h : Says P e) (hp : P) : e = .returned (.bool true) := by
  obtain ⟨b, hb, rfl⟩ := h
  rw [hb.2 hp]

theorem Says.not {P : Prop} {e : Ending} (h : Says P e) (hp : ¬ P) : e = .returned (.bool false) := by
  obtain ⟨b, hb, rfl⟩ := h
  cases b
  · rfl
  · exact absurd (hb.1 rfl) hp

/-! ### Boxes -/

/-- A block of cells, whole. -/
def BoxC (W : World) (B : Nat) (t : TypeId) (cs : Array Value) : Prop := W.heap[B]? = some (.cells cs t (0, 0))

theorem BoxC.lt {W : World} {B : Nat} {t : TypeId} {cs : Array Value} (h : BoxC W B t cs) : B < W.heap.size := (Array.getElem?_eq_some_iff.1 h).1

theorem BoxC.cell {W : World} {B : Nat} {t : TypeId} {cs : Array Value} (h : BoxC W B t cs) (i : Nat) : W.cell? ⟨B, i, none⟩ = cs[i]? := by simp [World.cell?, show W.heap[B]? = _ from h]

theorem BoxC.kept {W W' : World} {row : Option Nat} {B : Nat} {t : TypeId} {cs : Array Value} (h : BoxC W B t cs) (hg : W.grownBy W' row) (hne : some B ≠ row) : BoxC W' B t cs := (hg.block B h.lt hne).trans h

theorem BoxC.below {W W' : World} {n B : Nat} {t : TypeId} {cs : Array Value} (h : BoxC W B t cs) (hb : Below n W W') (hn : B < n) : BoxC W' B t cs := (hb.block B hn).trans h

theorem BoxC.alloc {W : World} {B : Nat} {t : TypeId} {cs : Array Value} (h : BoxC W B t cs) (o : Obj) : BoxC (W.alloc o) B t cs := h.kept (World.grownBy_alloc W o none) (by simp)

theorem BoxC.new (W : World) (t : TypeId) (cs : Array Value) : BoxC (W.alloc (.cells cs t)) W.heap.size t cs := World.alloc_heap_new W _

theorem BoxC.frozen {W : World} {B : Nat} {t : TypeId} {cs : Array Value} (h : BoxC W B t cs) (i : Nat) : W.frozen? ⟨B, i, none⟩ = false := by simp [World.frozen?, show W.heap[B]? = _ from h]

theorem BoxC.other {W : World} {B B' : Nat} {t : TypeId} {cs : Array Value} (h : BoxC W B t cs) (hne : B ≠ B') (i : Nat) (u : Value) : BoxC (W.setCell ⟨B', i, none⟩ u) B t cs := (Below.heap_setCell _ _ _ _ (by simpa using hne)).trans h

theorem BoxC.set {W : World} {B : Nat} {t : TypeId} {cs : Array Value} (h : BoxC W B t cs) (i : Nat) (u : Value) : BoxC (W.setCell ⟨B, i, none⟩ u) B t (cs.setIfInBounds i u) := by
  obtain ⟨hlt, hk⟩ := Array.getElem?_eq_some_iff.1 h
  show (W.heap.modify B _)[B]? = _
  rw [Array.getElem?_eq_getElem (by rw [Array.size_modify]; exact hlt), Array.getElem_modify_self, hk]
  rfl

theorem BoxC.set2 {W : World} {B : Nat} {t : TypeId} {a b : Value} (h : BoxC W B t #[a, b]) (a' b' : Value) : BoxC ((W.setCell ⟨B, 0, none⟩ a').setCell ⟨B, 1, none⟩ b') B t #[a', b'] := by
  have := (h.set 0 a').set 1 b'
  simpa using this

theorem boxes3 {w w1 : World} {t t' t'' : TypeId} {x y z : Array Value} (h : Below (((w.alloc (.cells x t)).alloc (.cells y t')).alloc (.cells z t'')).heap.size (((w.alloc (.cells x t)).alloc (.cells y t')).alloc (.cells z t'')) w1) :
    BoxC w1 w.heap.size t x ∧ BoxC w1 (w.heap.size + 1) t' y ∧ BoxC w1 (w.heap.size + 1 + 1) t'' z := by
  have b0 := ((BoxC.new w t x).alloc (.cells y t')).alloc (.cells z t'')
  have b1 := (BoxC.new (w.alloc (.cells x t)) t' y).alloc (.cells z t'')
  have b2 := BoxC.new ((w.alloc (.cells x t)).alloc (.cells y t')) t'' z
  simp only [World.size_alloc] at b1 b2 h
  exact ⟨b0.below h (by omega), b1.below h (by omega), b2.below h (by omega)⟩

theorem box_cells {W W' : World} {t : TypeId} {a b : Value} (h : Below (W.alloc (.cells #[a, b] t)).heap.size (W.alloc (.cells #[a, b] t)) W') :
    W'.cell? ⟨W.heap.size, 0, none⟩ = some a ∧ W'.cell? ⟨W.heap.size, 1, none⟩ = some b := by
  have hb := BoxC.new W t #[a, b]
  have c0 := hb.cell 0
  have c1 := hb.cell 1
  exact ⟨(h.cell (p := ⟨W.heap.size, 0, none⟩) (by simp)).trans c0, (h.cell (p := ⟨W.heap.size, 1, none⟩) (by simp)).trans c1⟩

/-! ### Rows of pairs -/

/-- A slice of two-cell structs reads as a list of pairs. -/
def PRow (W : World) (ao : Option Addr) (l : List (Int × Int)) : Prop :=
  (ao = none → l = []) ∧ ∀ ad, ao = some ad → ∀ j, j < l.length → W.cell? (ad.add (j * 2)) = some (.int .i64 (l.getD j (0, 0)).1) ∧ W.cell? (ad.add (j * 2 + 1)) = some (.int .i64 (l.getD j (0, 0)).2)

theorem add_two (ad : Addr) (k : Nat) : ad.add (k * 2 + 1) = { block := (ad.add (k * 2)).block, off := (ad.add (k * 2)).off + 1 } := by
  unfold Addr.add
  by_cases h : k * 2 = 0
  · simp [h]
  · simp [h]; omega

theorem add_block (ad : Addr) (i : Nat) : (ad.add i).block = ad.block := by
  unfold Addr.add; split <;> rfl

theorem prow_at {W : World} {ad : Addr} {l : List (Int × Int)} (h : PRow W (some ad) l) {j : Nat} (hj : j < l.length) :
    W.cell? (ad.add (j * 2)) = some (.int .i64 (l.getD j (0, 0)).1) ∧ W.cell? { block := (ad.add (j * 2)).block, off := (ad.add (j * 2)).off + 1 } = some (.int .i64 (l.getD j (0, 0)).2) := by
  obtain ⟨c1, c2⟩ := h.2 ad rfl j hj
  rw [add_two] at c2
  exact ⟨c1, c2⟩

theorem prow_none {W : World} {l : List (Int × Int)} (h : PRow W none l) {j : Nat} (hj : j < l.length) : False := by
  rw [h.1 rfl] at hj; simp at hj

/-- Where the row lies. -/
def Lies (W : World) (ao : Option Addr) (l : List (Int × Int)) : Prop := ∀ ad, ao = some ad → l = [] ∨ ad.block < W.heap.size

theorem Lies.below {W W' : World} {ao : Option Addr} {l : List (Int × Int)} {n : Nat} (h : Lies W ao l) (hb : Below n W W') : Lies W' ao l := fun ad e =>
  (h ad e).imp id (fun hl => Nat.lt_of_lt_of_le hl hb.size)

theorem prow_below {W W' : World} {ao : Option Addr} {l : List (Int × Int)} (h : PRow W ao l) (hb : Below W.heap.size W W') (hlt : Lies W ao l) : PRow W' ao l := by
  refine ⟨h.1, fun ad e j hj => ?_⟩
  have hl : ad.block < W.heap.size := by
    rcases hlt ad e with e' | e'
    · subst e'; simp at hj
    · exact e'
  obtain ⟨c1, c2⟩ := h.2 ad e j hj
  exact ⟨(hb.cell (p := ad.add (j * 2)) (by rw [add_block]; exact hl)).trans c1, (hb.cell (p := ad.add (j * 2 + 1)) (by rw [add_block]; exact hl)).trans c2⟩

theorem cell_lt {W : World} {a : Addr} {v : Value} (h : W.cell? a = some v) : a.block < W.heap.size := by
  unfold World.cell? at h
  cases hb : W.heap[a.block]? with
  | none => simp [hb] at h
  | some o => exact (Array.getElem?_eq_some_iff.1 hb).1

/-- What an argument's cells are, as a list of pairs of 64-bit numbers. -/
theorem pairs_view {H : Type} {enc : TypeId × Value → H} {P : Program} {W : World} {sp : Nat → Bool} {hd : Bool} {t te : TypeId} {f0 f1 : Field} {v : Value} {d : DataW H} {p : List MemPlace} (hsp : ∀ b, sp b = true)
    (ht : P.underlying t = some (.slice te)) (he : P.underlying te = some (.struct #[f0, f1])) (ce : P.cellsOf te = 2) (o0 : f0.offset = 0) (o1 : f1.offset = 1) (c0 : P.cellsOf f0.type = 1) (c1 : P.cellsOf f1.type = 1)
    (u0 : P.underlying f0.type = some (.int .i64)) (u1 : P.underlying f1.type = some (.int .i64))
    (h : DataW.Trod enc P W 0 sp hd t v d p) (hv : ∃ a len cap, v = .slice a len cap) :
    ∃ (bo : Option Addr) (cb : Nat) (l : List (Int × Int)), v = .slice bo l.length cb ∧ l.length ≤ 9223372036854775807 ∧ PRow W bo l ∧ Lies W bo l ∧
      (∀ j, j < l.length → -9223372036854775808 ≤ (l.getD j (0, 0)).1 ∧ (l.getD j (0, 0)).1 ≤ 9223372036854775807 ∧ -9223372036854775808 ≤ (l.getD j (0, 0)).2 ∧ (l.getD j (0, 0)).2 ≤ 9223372036854775807) ∧ l.length ≤ cb ∧ cb ≤ maxLen := by
  obtain ⟨a, len, cap, rfl⟩ := hv
  obtain ⟨fuel, hf⟩ := h
  rcases open_slice_pairs ht he ce o0 o1 c0 c1 hf with ⟨hc, hx⟩ | ⟨a', len', cap', m, n, V0, V1, D0, D1, P0, P1, hcs, hb, hl, hm, hmm, hx, hall⟩
  · simp [Value.cells] at hc
    obtain ⟨rfl, rfl, rfl⟩ := hc
    exact ⟨none, 0, [], rfl, by simp, ⟨fun _ => rfl, fun ad e => (by cases e)⟩, fun ad e => (by cases e), fun j hj => (by simp at hj), by simp, by simp⟩
  · simp [Value.cells] at hcs
    obtain ⟨rfl, rfl, rfl⟩ := hcs
    rw [if_pos (hsp _)] at hmm
    subst hmm
    have each : ∀ i, i < len → ∃ z : Int × Int, W.cell? (a'.add (i * 2)) = some (.int .i64 z.1) ∧ W.cell? (a'.add (i * 2 + 1)) = some (.int .i64 z.2) ∧ (-9223372036854775808 ≤ z.1 ∧ z.1 ≤ 9223372036854775807 ∧ -9223372036854775808 ≤ z.2 ∧ z.2 ≤ 9223372036854775807) := by
      intro i hi
      obtain ⟨c0, c1, t0, t1⟩ := hall i (by omega)
      obtain ⟨z0, e0, _, w0⟩ := DataW.trod_int u0 t0
      obtain ⟨z1, e1, _, w1⟩ := DataW.trod_int u1 t1
      simp at e0 e1
      rw [e0] at c0
      rw [e1] at c1
      refine ⟨(z0, z1), c0, c1, ?_⟩
      simp [Lit.wf] at w0 w1
      have m0 : IntKind.i64.min = -9223372036854775808 := by decide
      simp; omega
    obtain ⟨q, hq⟩ := choose_lt each
    have hlen : ((List.range len).map q).length = len := by simp
    have hget : ∀ j, j < len → ((List.range len).map q).getD j (0, 0) = q j := fun j hj => by simp [List.getD, hj]
    refine ⟨some a', m, (List.range len).map q, by rw [hlen], ?_, ⟨fun e => (by cases e), fun ad e j hj => ?_⟩, fun ad e => ?_, fun j hj => ?_, ?_, ?_⟩
    · rw [hlen]; unfold maxLen at hm; omega
    · obtain rfl : a' = ad := by simpa using e
      rw [hlen] at hj
      rw [hget j hj]
      exact ⟨(hq j hj).1, (hq j hj).2.1⟩
    · obtain rfl : a' = ad := by simpa using e
      rcases Nat.eq_zero_or_pos len with h0 | h0
      · subst h0; exact .inl rfl
      · right
        have hc := (hq 0 h0).1
        have hlt' := cell_lt hc
        rw [add_block] at hlt'
        exact hlt'
    · rw [hlen] at hj
      rw [hget j hj]
      exact (hq j hj).2.2
    · rw [hlen]; exact hl
    · exact hm

end Go.Proofs.Ytpnmepobdnclkaa.Base
