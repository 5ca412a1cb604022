/-
  Rows of lines that a call makes itself: append, and a cell of the last one written.
-/
import Derived.Test.YtmomlcibiklajaaCalls47
import Derived.Test.YtmomlcibiklajaaCalls39
import Derived.Laws.OwnMore
namespace Go.Proofs.Ytmomlcibiklajaa.Calls49
set_option linter.unusedVariables false
open Go.ChangeShapes Go.WideShapes Go.ChangeAt Go.RowKit Go.Deep Go.Proofs.Ytmomlcibiklajaa.Base Go.Proofs.Ytmomlcibiklajaa.Base2 Go.Proofs.Ytmomlcibiklajaa.Num Go.Proofs.Ytmomlcibiklajaa.Num13 Go.Proofs.Ytmomlcibiklajaa.Num19 Go.Proofs.Ytmomlcibiklajaa.Num31 Go.Proofs.Ytmomlcibiklajaa.Calls35 Go.Proofs.Ytmomlcibiklajaa.Calls36 Go.Proofs.Ytmomlcibiklajaa.Calls41 Go.Proofs.Ytmomlcibiklajaa.Calls42 Go.Proofs.Ytmomlcibiklajaa.Calls47

theorem infoL : (Try.prog.info? 36).map (fun i => (i.zero, i.size, i.bytes)) = some (some (.agg #[.int .i64 0, .int .i64 0, .slice none 0 0]), 3, 40) := by kernel_rfl

theorem infoJ : (Try.prog.info? 3).map (fun i => (i.zero, i.size, i.bytes)) = some (some (.int .i64 0), 1, 8) := by kernel_rfl

theorem irow_keptO {W W' : World} {ao : Option Addr} {l : List Int} {row : Option Nat} (h : IRow W ao l) (hg : W.grownBy W' row) (hne : ∀ ad, ao = some ad → l ≠ [] → row ≠ some ad.block) : IRow W' ao l := by
  refine ⟨h.1, fun ad e j hj => ?_⟩
  have c := h.2 ad e j hj
  have hl := cell_lt c
  have hl2 : ad.block < W.heap.size := by rwa [add_block] at hl
  have hb := hg.block ad.block hl2 (fun e2 => hne ad e (fun e' => by rw [e'] at hj; simp at hj) e2.symm)
  exact (World.cell?_of_block (a := ad.add j) (by rw [add_block]; exact hb)).trans c

theorem irow_lt {W : World} {ao : Option Addr} {l : List Int} (h : IRow W ao l) {ad : Addr} (e : ao = some ad) (hne : l ≠ []) : ad.block < W.heap.size := by
  have hp : 0 < l.length := List.length_pos_iff.2 hne
  have := cell_lt (h.2 ad e 0 hp)
  rwa [add_block] at this

/-- A line of the row. -/
def OLine (W : World) (cells : List Value) (bl : Option Nat) (j : Nat) (x : Ln) : Prop :=
  cells[j * 3]? = some (.int .i64 x.N) ∧ cells[j * 3 + 1]? = some (.int .i64 x.G) ∧ ∃ bo cb, cells[j * 3 + 2]? = some (.slice bo x.F.length cb) ∧ IRow W bo x.F ∧ x.F.length ≤ 1048576 ∧ ∀ ad, bo = some ad → x.F ≠ [] → bl ≠ some ad.block

/-- The call's own row of lines. -/
def ORow (W : World) (base : Nat) (v : Value) (ls : List Ln) : Prop :=
  ∃ cells, W.ownsRow base 36 3 v ls.length cells ∧ ∀ j, j < ls.length → OLine W cells v.ownBlock j (ls.getD j Ln0)

theorem orow_nil (W : World) (base : Nat) : ORow W base (.slice none 0 0) [] := ⟨[], World.ownsRow_nil _ _ _ _, fun j hj => (by simp at hj)⟩

theorem ORow.below {W W' : World} {base n : Nat} {v : Value} {ls : List Ln} (h : ORow W base v ls) (hb : Below n W W') (hn : W.heap.size ≤ n) : ORow W' base v ls := by
  obtain ⟨cells, h1, h2⟩ := h
  refine ⟨cells, Go.Proofs.Ytmomlcibiklajaa.Calls11.owns_below h1 (hb.mono hn), fun j hj => ?_⟩
  obtain ⟨k1, k2, bo, cb, k3, k4, k5⟩ := h2 j hj
  exact ⟨k1, k2, bo, cb, k3, irow_below k4 hb hn, k5⟩

theorem ORow.lt {W : World} {base : Nat} {v : Value} {ls : List Ln} (h : ORow W base v ls) : ∀ g, v.ownBlock = some g → base ≤ g ∧ g < W.heap.size := by
  obtain ⟨cells, h1, _⟩ := h
  exact h1.lt

theorem ORow.lrow {W : World} {base : Nat} {v : Value} {ls : List Ln} (h : ORow W base v ls) : ∃ ao cap, v = .slice ao ls.length cap ∧ LRow W ao ls ∧ ls.length ≤ cap := by
  obtain ⟨cells, h1, h2⟩ := h
  have h1' := h1
  rcases h1.2 with ⟨rfl, hn⟩ | ⟨g, cap, cur, rfl, hb, hg, hnc, hcm, hcs, htake⟩
  · have e : ls = [] := List.length_eq_zero_iff.1 hn
    subst e
    exact ⟨none, 0, rfl, ⟨fun _ => rfl, fun ad e => (by cases e)⟩, by simp⟩
  · refine ⟨some ⟨g, 0, none⟩, cap, rfl, ⟨fun e => (by cases e), fun ad e j hj => ?_⟩, hnc⟩
    obtain rfl : (⟨g, 0, none⟩ : Addr) = ad := by simpa using e
    obtain ⟨k1, k2, bo, cb, k3, k4, k5, _⟩ := h2 j hj
    have hl := h1'.1
    rw [Addr.add_lit, Nat.zero_add]
    refine ⟨?_, ?_, bo, cb, ?_, k4, by omega⟩
    · exact (World.ownsRow.cellAt h1' (j * 3) (by omega)).trans k1
    · exact (World.ownsRow.cellAt h1' (j * 3 + 1) (by omega)).trans k2
    · exact (World.ownsRow.cellAt h1' (j * 3 + 2) (by omega)).trans k3

/-- One more line. -/
theorem ORow.append {W W' : World} {base : Nat} {v : Value} {ls : List Ln} {cells : List Value} (h1 : W.ownsRow base 36 3 v ls.length cells) (h2 : ∀ j, j < ls.length → OLine W cells v.ownBlock j (ls.getD j Ln0)) {g cap : Nat} {x : Ln} {bo : Option Addr} {cb : Nat}
    (ho : W'.ownsRow base 36 3 (.slice (some ⟨g, 0, none⟩) (ls.length + 1) cap) (ls.length + 1) (cells ++ [.int .i64 x.N, .int .i64 x.G, .slice bo x.F.length cb])) (hg : W.grownBy W' v.ownBlock) (hat : v.ownBlock = some g ∨ g = W.heap.size)
    (hir : IRow W bo x.F) (hl : x.F.length ≤ 1048576) (hne : ∀ ad, bo = some ad → x.F ≠ [] → v.ownBlock ≠ some ad.block) : ORow W' base (.slice (some ⟨g, 0, none⟩) (ls.length + 1) cap) (ls ++ [x]) := by
  have hlen := h1.1
  have hnew : ∀ (bo : Option Addr) (F : List Int), IRow W bo F → (∀ ad, bo = some ad → F ≠ [] → v.ownBlock ≠ some ad.block) → ∀ ad, bo = some ad → F ≠ [] → (Value.slice (some ⟨g, 0, none⟩) (ls.length + 1) cap).ownBlock ≠ some ad.block := fun bo F hi hn ad e hF e2 => by
    have e3 : g = ad.block := by simpa [Value.ownBlock] using e2
    rcases hat with h | h
    · exact hn ad e hF (by rw [h, e3])
    · have := irow_lt hi e hF
      omega
  refine ⟨_, by rw [List.length_append]; exact ho, fun j hj => ?_⟩
  rw [List.length_append] at hj
  by_cases e : j = ls.length
  · subst e
    have e2 : (ls ++ [x]).getD ls.length Ln0 = x := by simp [List.getD]
    rw [e2]
    refine ⟨?_, ?_, bo, cb, ?_, irow_keptO hir hg hne, hl, hnew bo x.F hir hne⟩
    · rw [List.getElem?_append_right (by omega), show ls.length * 3 - cells.length = 0 by omega]; rfl
    · rw [List.getElem?_append_right (by omega), show ls.length * 3 + 1 - cells.length = 1 by omega]; rfl
    · rw [List.getElem?_append_right (by omega), show ls.length * 3 + 2 - cells.length = 2 by omega]; rfl
  · have hj' : j < ls.length := by simp at hj; omega
    have e2 : (ls ++ [x]).getD j Ln0 = ls.getD j Ln0 := by simp [List.getD, List.getElem?_append_left hj']
    rw [e2]
    obtain ⟨k1, k2, bo', cb', k3, k4, k5, k6⟩ := h2 j hj'
    refine ⟨by rw [List.getElem?_append_left (by omega)]; exact k1, by rw [List.getElem?_append_left (by omega)]; exact k2, bo', cb', by rw [List.getElem?_append_left (by omega)]; exact k3, irow_keptO k4 hg k6, k5, hnew bo' _ k4 k6⟩

/-- The last line's G is written. -/
theorem ORow.setG {W : World} {base g cap k : Nat} {ls : List Ln} {N G G' : Int} {F : List Int} (hk : ls.length = k) (h : ORow W base (.slice (some ⟨g, 0, none⟩) (k + 1) cap) (ls ++ [⟨N, G, F⟩])) :
    ORow (W.setCell ⟨g, k * 3 + 1, none⟩ (.int .i64 G')) base (.slice (some ⟨g, 0, none⟩) (k + 1) cap) (ls ++ [⟨N, G', F⟩]) ∧ W.grownBy (W.setCell ⟨g, k * 3 + 1, none⟩ (.int .i64 G')) (some g) ∧
    W.cell? ⟨g, k * 3 + 1, none⟩ = some (.int .i64 G) ∧ W.frozen? ⟨g, k * 3 + 1, none⟩ = false := by
  obtain ⟨cells, h1, h2⟩ := h
  rw [List.length_append, hk] at h1
  have hlen := h1.1
  obtain ⟨s1, s2⟩ := h1.stored (k * 3 + 1) (.int .i64 G')
  have hlast := h2 k (by rw [List.length_append, hk]; simp)
  have eg : ∀ G, (ls ++ [(⟨N, G, F⟩ : Ln)]).getD k Ln0 = ⟨N, G, F⟩ := fun G => by simp [List.getD, ← hk]
  rw [eg] at hlast
  refine ⟨⟨cells.set (k * 3 + 1) (.int .i64 G'), by rw [List.length_append, hk]; exact s1, fun j hj => ?_⟩, s2, ?_, ?_⟩
  · rw [List.length_append, hk] at hj
    by_cases e : j = k
    · subst e
      rw [eg]
      obtain ⟨k1, k2, bo, cb, k3, k4, k5, k6⟩ := hlast
      refine ⟨by rw [List.getElem?_set_ne (by omega)]; exact k1, by rw [List.getElem?_set_self (by simp at hlen; omega)], bo, cb, by rw [List.getElem?_set_ne (by omega)]; exact k3, irow_keptO k4 s2 (fun ad e hF e2 => k6 ad e hF (by simpa [Value.ownBlock] using e2)), k5, k6⟩
    · have hj' : j < ls.length := by simp at hj; omega
      have e2 : ∀ G, (ls ++ [(⟨N, G, F⟩ : Ln)]).getD j Ln0 = ls.getD j Ln0 := fun G => by simp [List.getD, List.getElem?_append_left hj']
      have hh := h2 j (by rw [List.length_append, hk]; exact hj)
      rw [e2] at hh ⊢
      obtain ⟨k1, k2, bo, cb, k3, k4, k5, k6⟩ := hh
      refine ⟨by rw [List.getElem?_set_ne (by omega)]; exact k1, by rw [List.getElem?_set_ne (by omega)]; exact k2, bo, cb, by rw [List.getElem?_set_ne (by omega)]; exact k3, irow_keptO k4 s2 (fun ad e hF e2 => k6 ad e hF (by simpa [Value.ownBlock] using e2)), k5, k6⟩
  · exact (World.ownsRow.cellAt h1 (k * 3 + 1) (by simp at hlen; omega)).trans hlast.2.1
  · rcases h1.2 with ⟨h', _⟩ | ⟨g', cap', cur, h', hb, hg, _⟩
    · cases h'
    · have e : g = g' := by simpa using (Value.slice.inj h').1
      subst e
      simp [World.frozen?, hg]

theorem grown_set (W : World) (B i : Nat) (u : Value) : W.grownBy (W.setCell ⟨B, i, none⟩ u) (some B) := ⟨rfl, rfl, rfl, by simp, fun k _ hne => Below.heap_setCell W ⟨B, i, none⟩ u k (fun e => hne (by rw [e]))⟩

theorem three_cells {W : World} {t : TypeId} {a b c : Value} : ∀ j u, ([a, b, c] : List Value)[j]? = some u → (W.alloc (.cells #[a, b, c] t)).cell? ((⟨W.heap.size, 0, none⟩ : Addr).add j) = some u := by
  have hb := BoxC.new W t #[a, b, c]
  intro j u hj
  rw [Addr.add_lit, Nat.zero_add, hb.cell j]
  match j, hj with
  | 0, hj => simpa using hj
  | 1, hj => simpa using hj
  | 2, hj => simpa using hj

end Go.Proofs.Ytmomlcibiklajaa.Calls49
