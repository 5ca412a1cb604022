/-
  Package parts: the product of shares: each party shares what its own shares make, and all of it is joined.
-/
import Derived.Test.YtpnmepobdnclkaaCalls186
import Derived.Test.YtpnmepobdnclkaaCalls180
namespace Go.Proofs.Ytpnmepobdnclkaa.Calls187
set_option linter.unusedVariables false
open Go.ChangeShapes Go.WideShapes Go.ChangeAt Go.RowKit Go.Deep Go.Proofs.Ytpnmepobdnclkaa.Base Go.Proofs.Ytpnmepobdnclkaa.Base2 Go.Proofs.Ytpnmepobdnclkaa.Num Go.Proofs.Ytpnmepobdnclkaa.Num13 Go.Proofs.Ytpnmepobdnclkaa.Num16 Go.Proofs.Ytpnmepobdnclkaa.Num17 Go.Proofs.Ytpnmepobdnclkaa.Num34 Go.Proofs.Ytpnmepobdnclkaa.Num35 Go.Proofs.Ytpnmepobdnclkaa.Num39 Go.Proofs.Ytpnmepobdnclkaa.Num61 Go.Proofs.Ytpnmepobdnclkaa.Num69 Go.Proofs.Ytpnmepobdnclkaa.Num70 Go.Proofs.Ytpnmepobdnclkaa.Base4 Go.Proofs.Ytpnmepobdnclkaa.Calls182 Go.Proofs.Ytpnmepobdnclkaa.Calls183 Go.Proofs.Ytpnmepobdnclkaa.Calls184 Go.Proofs.Ytpnmepobdnclkaa.Calls185 Go.Proofs.Ytpnmepobdnclkaa.Calls186
open Go.Proofs.Ytpnmepobdnclkaa.Calls71 (al)
open Go.Proofs.Ytpnmepobdnclkaa.Calls87 (ib)
open Go.Proofs.Ytpnmepobdnclkaa.Calls90 (InM)
open Go.Proofs.Ytpnmepobdnclkaa.Calls58 (mul_bd below_set)
open Go.Proofs.Ytpnmepobdnclkaa.Calls59 (own1_made)
open Go.Proofs.Ytpnmepobdnclkaa.Calls180 (infoLS_ex)
open Go.Proofs.Ytpnmepobdnclkaa.Calls181 (g_trans g_set g_drewN g_below)

theorem g_more {w wr W : World} {row : Option Nat} (h : w.grownBy wr row) (hB : Below w.heap.size wr W) : w.grownBy W row :=
  ⟨hB.os.trans h.os, hB.tape.trans h.tape, hB.output.trans h.output, Nat.le_trans h.size hB.size, fun b hb hne => (hB.block b hb).trans (h.block b hb hne)⟩

theorem owns_kept {W W' : World} {base : Nat} {e : TypeId} {size : Nat} {v : Value} {n : Nat} {xs : List Value} {row : Option Nat} (h : W.ownsRow base e size v n xs) (hg : W.grownBy W' row) (hne : ∀ x, v.ownBlock = some x → some x ≠ row) : W'.ownsRow base e size v n xs := by
  refine ⟨h.1, ?_⟩
  rcases h.2 with ⟨rfl, hn⟩ | ⟨g, cap, cur, rfl, hb', hg', rest⟩
  · exact .inl ⟨rfl, hn⟩
  · exact .inr ⟨g, cap, cur, rfl, hb', (hg.block g (Array.getElem?_eq_some_iff.1 hg').1 (hne g rfl)).trans hg', rest⟩

/-! ### rows of the call's own, one behind each place of a row -/

/-- Such a table: row j holds so many numbers; no two rows lie in one block, none in the table's own, none in q. -/
def GT (W : World) (base q G V : Nat) (cnt : Nat → Nat) (T : Nat → Nat → Int) : Prop :=
  ∃ vs : Nat → Value, W.ownsRow base 22 1 (.slice (some ⟨G, 0, none⟩) V V) V ((List.range V).map vs) ∧
    (∀ j, j < V → W.ownsRow base 2 1 (vs j) (cnt j) (ivals (mk (cnt j) (T j))) ∧ (vs j).ownBlock ≠ some G ∧ (vs j).ownBlock ≠ some q) ∧
    ∀ i j, i < V → j < V → i ≠ j → ∀ g, (vs i).ownBlock = some g → (vs j).ownBlock ≠ some g

theorem GT.below {W W' : World} {base q G V : Nat} {cnt : Nat → Nat} {T : Nat → Nat → Int} (h : GT W base q G V cnt T) (hB : Below W.heap.size W W') : GT W' base q G V cnt T := by
  obtain ⟨vs, h1, h2, h3⟩ := h
  exact ⟨vs, owns_below h1 hB, fun j hj => ⟨owns_below (h2 j hj).1 hB, (h2 j hj).2⟩, h3⟩

theorem GT.kept {W W' : World} {base q G V k : Nat} {cnt : Nat → Nat} {T : Nat → Nat → Int} (h : GT W base q G V cnt T) (hg : W.grownBy W' (some k)) (hk : k < base) : GT W' base q G V cnt T := by
  obtain ⟨vs, h1, h2, h3⟩ := h
  refine ⟨vs, owns_kept h1 hg (fun x e e' => ?_), fun j hj => ⟨owns_kept (h2 j hj).1 hg (fun x e e' => ?_), (h2 j hj).2⟩, h3⟩
  · have := (World.ownsRow.lt h1 x e).1
    have := Option.some.inj e'
    omega
  · have := (World.ownsRow.lt (h2 j hj).1 x e).1
    have := Option.some.inj e'
    omega

theorem GT.congr {W : World} {base q G V : Nat} {cnt cnt' : Nat → Nat} {T : Nat → Nat → Int} (h : GT W base q G V cnt T) (e : ∀ j, j < V → cnt j = cnt' j) : GT W base q G V cnt' T := by
  obtain ⟨vs, h1, h2, h3⟩ := h
  exact ⟨vs, h1, fun j hj => by rw [← e j hj]; exact h2 j hj, h3⟩

/-- A block that came later is none of theirs. -/
theorem GT.away {W : World} {base q q' G V : Nat} {cnt : Nat → Nat} {T : Nat → Nat → Int} (h : GT W base q G V cnt T) (hq : W.heap.size ≤ q') : GT W base q' G V cnt T := by
  obtain ⟨vs, h1, h2, h3⟩ := h
  refine ⟨vs, h1, fun j hj => ⟨(h2 j hj).1, (h2 j hj).2.1, fun e => ?_⟩, h3⟩
  have := (World.ownsRow.lt (h2 j hj).1 _ e).2
  omega

theorem GT.home {W : World} {base q G V : Nat} {cnt : Nat → Nat} {T : Nat → Nat → Int} (h : GT W base q G V cnt T) : GT W base G G V cnt T := by
  obtain ⟨vs, h1, h2, h3⟩ := h
  exact ⟨vs, h1, fun j hj => ⟨(h2 j hj).1, (h2 j hj).2.1, (h2 j hj).2.1⟩, h3⟩

theorem GT.lt {W : World} {base q G V : Nat} {cnt : Nat → Nat} {T : Nat → Nat → Int} (h : GT W base q G V cnt T) : base ≤ G ∧ G < W.heap.size := by
  obtain ⟨vs, h1, _⟩ := h
  exact World.ownsRow.lt h1 G rfl

theorem tab_cell {W : World} {base G V : Nat} {vs : Nat → Value} (h : W.ownsRow base 22 1 (.slice (some ⟨G, 0, none⟩) V V) V ((List.range V).map vs)) {j : Nat} (hj : j < V) : W.cell? ⟨G, j, none⟩ = some (vs j) := by
  refine (World.ownsRow.cellAt h j (by omega)).trans ?_
  rw [List.getElem?_map, List.getElem?_range hj]
  rfl

theorem tab_set (V : Nat) (vs : Nat → Value) (j : Nat) (v : Value) : ((List.range V).map vs).set j v = (List.range V).map (fun i => if i = j then v else vs i) := by
  apply List.ext_getElem?
  intro i
  rw [List.getElem?_set, List.length_map, List.length_range]
  by_cases hi : i < V
  · rw [List.getElem?_map, List.getElem?_map, List.getElem?_range hi]
    by_cases e : j = i
    · subst e; simp [hi]
    · have e' : ¬ i = j := fun h => e h.symm
      simp [e, e']
  · rw [List.getElem?_eq_none (l := (List.range V).map (fun i => if i = j then v else vs i)) (by simp; omega), List.getElem?_eq_none (l := (List.range V).map vs) (by simp; omega)]
    by_cases e : j = i
    · rw [if_pos e, if_neg (by omega)]
    · rw [if_neg e]

theorem gt_step {W W2 : World} {base q G V : Nat} {cnt : Nat → Nat} {T : Nat → Nat → Int} {vs : Nat → Value} (hG : W.ownsRow base 22 1 (.slice (some ⟨G, 0, none⟩) V V) V ((List.range V).map vs))
    (hR : ∀ j, j < V → W.ownsRow base 2 1 (vs j) (cnt j) (ivals (mk (cnt j) (T j))) ∧ (vs j).ownBlock ≠ some G ∧ (vs j).ownBlock ≠ some q) (hD : ∀ i j, i < V → j < V → i ≠ j → ∀ g, (vs i).ownBlock = some g → (vs j).ownBlock ≠ some g)
    (hq : q < W.heap.size) {j : Nat} (hj : j < V) {tmp : Obj} {g cap : Nat} (h1 : W2.ownsRow base 2 1 (.slice (some ⟨g, 0, none⟩) (cnt j + 1) cap) (cnt j + 1) (ivals (mk (cnt j) (T j)) ++ [.int .i64 (T j (cnt j))]))
    (hg : (W.alloc tmp).grownBy W2 (vs j).ownBlock) (hor : (vs j).ownBlock = some g ∨ g = (W.alloc tmp).heap.size) :
    (W2.ownsRow base 22 1 (.slice (some ⟨G, 0, none⟩) V V) V ((List.range V).map vs)) ∧ GT (W2.setCell ⟨G, j, none⟩ (.slice (some ⟨g, 0, none⟩) (cnt j + 1) cap)) base q G V (fun i => if i = j then cnt i + 1 else cnt i) T := by
  have hGl := World.ownsRow.lt hG G rfl
  have ha : W.grownBy (W.alloc tmp) none := World.grownBy_alloc W tmp none
  have kA : ∀ {e : TypeId} {size : Nat} {v : Value} {n : Nat} {xs : List Value}, W.ownsRow base e size v n xs → (W.alloc tmp).ownsRow base e size v n xs := fun h => h.alloc tmp
  have hG2 : W2.ownsRow base 22 1 (.slice (some ⟨G, 0, none⟩) V V) V ((List.range V).map vs) := owns_kept (kA hG) hg (fun x e e' => (hR j hj).2.1 (by rw [← e', ← e]; rfl))
  refine ⟨hG2, ?_⟩
  have hgG : g ≠ G := fun e => by
    subst e
    rcases hor with h | h
    · exact (hR j hj).2.1 h
    · rw [World.size_alloc] at h; omega
  have hgq : g ≠ q := fun e => by
    subst e
    rcases hor with h | h
    · exact (hR j hj).2.2 h
    · rw [World.size_alloc] at h; omega
  have hgo : ∀ i, i < V → i ≠ j → (vs i).ownBlock ≠ some g := fun i hi hne e => by
    rcases hor with h | h
    · exact hD j i hj hi (fun e => hne e.symm) g h e
    · have := (World.ownsRow.lt (hR i hi).1 g e).2
      rw [World.size_alloc] at h; omega
  refine ⟨fun i => if i = j then .slice (some ⟨g, 0, none⟩) (cnt j + 1) cap else vs i, ?_, fun i hi => ?_, fun i i' hi hi' hne x e => ?_⟩
  · have h := (World.ownsRow.stored hG2 j (.slice (some ⟨g, 0, none⟩) (cnt j + 1) cap)).1
    rw [tab_set] at h
    exact h
  · by_cases e : i = j
    · subst e
      simp only [if_pos]
      refine ⟨owns_kept ?_ (g_set W2 G i _) (fun x e e' => ?_), fun e => ?_, fun e => ?_⟩
      · have e2 : ivals (mk (cnt i + 1) (T i)) = ivals (mk (cnt i) (T i)) ++ [.int .i64 (T i (cnt i))] := by rw [mk_succ, ivals_snoc]
        rw [e2]; exact h1
      · have e1 : g = x := Option.some.inj e
        have := Option.some.inj e'
        omega
      · exact hgG (Option.some.inj e)
      · exact hgq (Option.some.inj e)
    · simp only [if_neg e]
      refine ⟨owns_kept (owns_kept (kA (hR i hi).1) hg (fun x e1 e2 => ?_)) (g_set W2 G j _) (fun x e1 e2 => ?_), (hR i hi).2⟩
      · exact hD i j hi hj e x e1 e2.symm
      · exact (hR i hi).2.1 (by rw [e1, e2])
  · by_cases e1 : i = j
    · subst e1
      simp only [if_pos] at e
      simp only [if_neg (show ¬ i' = i from fun h => hne h.symm)]
      have : g = x := Option.some.inj e
      subst this
      exact hgo i' hi' (fun h => hne h.symm)
    · simp only [if_neg e1] at e
      by_cases e2 : i' = j
      · subst e2
        simp only [if_pos]
        intro e3
        have : g = x := Option.some.inj e3
        subst this
        exact hgo i hi e1 e
      · simp only [if_neg e2]
        exact hD i i' hi hi' hne x e

theorem made_nils (n : Nat) : (madeCells (Value.slice none 0 0).cells (n * 1)).toList = (List.range n).map (fun _ => Value.slice none 0 0) := by
  have hc : (Value.slice none 0 0).cells = #[Value.slice none 0 0] := by kernel_rfl
  rw [hc]
  unfold madeCells
  rw [Array.toList_map, Array.toList_range, Nat.mul_one]
  refine List.map_congr_left fun i _ => ?_
  simp [Nat.mod_one]

theorem gt_made {W : World} {base G V : Nat} {T : Nat → Nat → Int} (h : W.ownsRow base 22 1 (.slice (some ⟨G, 0, none⟩) V V) V (madeCells (Value.slice none 0 0).cells (V * 1)).toList) : GT W base G G V (fun _ => 0) T := by
  rw [made_nils] at h
  refine ⟨fun _ => .slice none 0 0, h, fun j hj => ⟨?_, fun e => (by cases e), fun e => (by cases e)⟩, fun i j _ _ _ g e => (by cases e)⟩
  exact World.ownsRow_nil _ _ _ _

/-- Such a row reads as its numbers. -/
theorem GT.at {W : World} {base q G V n : Nat} {cnt : Nat → Nat} {T : Nat → Nat → Int} (h : GT W base q G V cnt T) {j : Nat} (hj : j < V) (hc : cnt j = n) : ∃ vo vc, W.cell? ⟨G, j, none⟩ = some (.slice vo n vc) ∧ n ≤ vc ∧ IRow W vo (mk n (T j)) := by
  obtain ⟨vs, h1, h2, h3⟩ := h
  have h4 := (h2 j hj).1
  rw [hc] at h4
  obtain ⟨vo, vc, e, hcap, hr⟩ := irow_owns h4
  rw [mk_length] at e hcap
  exact ⟨vo, vc, by rw [tab_cell h1 hj, e], hcap, hr⟩

end Go.Proofs.Ytpnmepobdnclkaa.Calls187
