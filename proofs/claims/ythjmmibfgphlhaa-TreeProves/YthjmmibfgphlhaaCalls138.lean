/-
  The proof of a leaf: package tree's Prove.
-/
import Derived.Test.YthjmmibfgphlhaaCalls137
import Derived.Deep.RegionLaw
namespace Go.Proofs.Ythjmmibfgphlhaa.Calls138
set_option linter.unusedVariables false
open Go.ChangeShapes Go.WideShapes Go.ChangeAt Go.RowKit Go.Deep Go.Proofs.Ythjmmibfgphlhaa.Base Go.Proofs.Ythjmmibfgphlhaa.Base2 Go.Proofs.Ythjmmibfgphlhaa.Base7 Go.Proofs.Ythjmmibfgphlhaa.Base8 Go.Proofs.Ythjmmibfgphlhaa.Base9 Go.Proofs.Ythjmmibfgphlhaa.Num55 Go.Proofs.Ythjmmibfgphlhaa.Num60 Go.Proofs.Ythjmmibfgphlhaa.Calls126 Go.Proofs.Ythjmmibfgphlhaa.Calls128 Go.Proofs.Ythjmmibfgphlhaa.Calls133 Go.Proofs.Ythjmmibfgphlhaa.Calls134 Go.Proofs.Ythjmmibfgphlhaa.Calls135 Go.Proofs.Ythjmmibfgphlhaa.Calls136 Go.Proofs.Ythjmmibfgphlhaa.Calls137

/-- The nodes that are needed, of the first rows. -/
def pf (n i : Nat) (L : Nat → Nat) : Nat → List Nat
  | 0 => []
  | k + 1 => if ix i k % 2 = 1 ∨ ix i k + 1 < mn n k then pf n i L k ++ [nd sum n L k (ot i k)] else pf n i L k

theorem pf_need {n i k : Nat} {L : Nat → Nat} (h : Need n i k) : pf n i L (k + 1) = pf n i L k ++ [nd sum n L k (ot i k)] := if_pos h

theorem pf_not {n i k : Nat} {L : Nat → Nat} (h : ¬ Need n i k) : pf n i L (k + 1) = pf n i L k := if_neg h

theorem pf_is (n i : Nat) (L : Nat → Nat) : ∀ k, IsPrf sum n i L k (pf n i L k)
  | 0 => ⟨rfl, fun j hj => by omega⟩
  | k + 1 => by
    rcases need_dec n i k with e | e
    · rw [pf_need e]; exact (pf_is n i L k).next e
    · rw [pf_not e]; exact (pf_is n i L k).skip e

theorem pf_length (n i : Nat) (L : Nat → Nat) (k : Nat) : (pf n i L k).length = us n i k := (pf_is n i L k).1

theorem pf_lt {n i : Nat} {L : Nat → Nat} (hL : ∀ i, L i < 65536) : ∀ k, ∀ x ∈ pf n i L k, x < 65536
  | 0 => fun x hx => by cases hx
  | k + 1 => fun x hx => by
    rcases need_dec n i k with e | e
    · rw [pf_need e] at hx
      rcases List.mem_append.1 hx with h | h
      · exact pf_lt hL k x h
      · have : x = nd sum n L k (ot i k) := by simpa using h
        rw [this]
        exact nd_lt hL _ _
    · rw [pf_not e] at hx; exact pf_lt hL k x hx

theorem pf_top {n i h : Nat} {L : Nat → Nat} (hi : i < n) (ht : Top n h) : pf n i L (h + 1) = pf n i L h := by
  refine pf_not fun hN => ?_
  have := ix_top hi ht.1
  rcases hN with e | e
  · rw [this] at e; omega
  · rw [this, ht.1] at e; omega

theorem us_top {n i h : Nat} (hi : i < n) (ht : Top n h) (h6 : h ≤ 6) : us n i h ≤ 6 := Nat.le_trans (us_le h) h6

/-! ### what one row does -/

theorem owns_at {W W' : World} {b : Nat} {e : TypeId} {size : Nat} {v : Value} {n : Nat} {xs : List Value} (h : W.ownsRow b e size v n xs) (he : ∀ g, v.ownBlock = some g → W'.heap[g]? = W.heap[g]?) : W'.ownsRow b e size v n xs := by
  refine ⟨h.1, ?_⟩
  rcases h.2 with ⟨rfl, h'⟩ | ⟨g, cap, cur, rfl, hb, hg, rest⟩
  · exact .inl ⟨rfl, h'⟩
  · exact .inr ⟨g, cap, cur, rfl, hb, (he g rfl).trans hg, rest⟩

/-- What lies there while a row is taken: two boxes, the proof so far, the row. -/
structure Lay (W : World) (B0 B1 B2 b G cap : Nat) (v : Value) (q k : Nat) (xs : List Value) (r : List Nat) : Prop where
  l1 : B0 ≤ B1
  l2 : B1 < B2
  l3 : B2 < b
  box1 : BoxC W B1 31 #[v]
  box2 : BoxC W B2 3 #[.int .i64 (q : Int)]
  own : W.ownsRow (B2 + 1) 23 1 v k xs
  low : ∀ g, v.ownBlock = some g → g < b
  row : OwnU W b G cap r

/-- Behind an append to the proof. -/
theorem Lay.grown {W w5 : World} {B0 B1 B2 b G cap : Nat} {v : Value} {q k : Nat} {xs : List Value} {r : List Nat} (h : Lay W B0 B1 B2 b G cap v q k xs r) {tmp : Obj} (hg : (W.alloc tmp).drew.grownBy w5 v.ownBlock) :
    BoxC w5 B1 31 #[v] ∧ BoxC w5 B2 3 #[.int .i64 (q : Int)] ∧ OwnU w5 b G cap r ∧ Below B0 W w5 ∧ b ≤ w5.heap.size := by
  have hne : ∀ {B : Nat}, B < B2 + 1 → some B ≠ v.ownBlock := fun hB e => by
    have := (h.own.lt _ e.symm).1
    omega
  have hG := h.row.lt
  have hs : (W.alloc tmp).drew.heap.size = W.heap.size + 1 := by simp
  have a1 : BoxC (W.alloc tmp).drew B1 31 #[v] := h.box1.alloc tmp
  have a2 : BoxC (W.alloc tmp).drew B2 3 #[.int .i64 (q : Int)] := h.box2.alloc tmp
  have hsz := hg.size
  rw [hs] at hsz
  refine ⟨a1.kept hg (hne (by have := h.l2; omega)), a2.kept hg (hne (by omega)), own_at h.row ?_, ?_, by omega⟩
  · have e1 : (W.alloc tmp).heap[G]? = W.heap[G]? := (World.grownBy_alloc W tmp none).block G hG.2 (by simp)
    refine (hg.block G (by rw [hs]; omega) (fun e => ?_)).trans e1
    have := h.low G e.symm
    omega
  · refine (((Below.refl B0 W).alloc (by have := h.l1; have := h.l2; have := h.l3; omega) tmp).drew).grown hg (by rw [hs]; have := h.l1; have := h.l2; have := h.l3; omega) fun j ej => ?_
    have := (h.own.lt j ej).1
    have := h.l1
    have := h.l2
    omega

theorem box_at {W W' : World} {B : Nat} {t : TypeId} {cs : Array Value} (h : BoxC W B t cs) (e : W'.heap[B]? = W.heap[B]?) : BoxC W' B t cs := e.trans h

/-- What the function value leaves behind. -/
def BehP (B0 B1 B2 b G cap : Nat) (q k : Nat) (ys : List Value) (r : List Nat) (W W' : World) : Prop :=
  ∃ v', BoxC W' B1 31 #[v'] ∧ BoxC W' B2 3 #[.int .i64 (q : Int)] ∧ W'.ownsRow (B2 + 1) 23 1 v' k ys ∧ OwnU W' b G cap r ∧ Below B0 W W'

theorem left_grown {W w5 : World} {B0 B1 B2 b G cap : Nat} {v v' : Value} {q k : Nat} (q' : Nat) {xs ys : List Value} {r : List Nat} {k' : Nat} (h : Lay W B0 B1 B2 b G cap v q k xs r)
    (g1 : BoxC w5 B1 31 #[v]) (g2 : BoxC w5 B2 3 #[.int .i64 (q : Int)]) (g3 : OwnU w5 b G cap r) (g4 : Below B0 W w5) (ho : w5.ownsRow (B2 + 1) 23 1 v' k' ys) :
    BehP B0 B1 B2 b G cap q' k' ys r W ((w5.setCell ⟨B1, 0, none⟩ v').setCell ⟨B2, 0, none⟩ (.int .i64 (q' : Int))) := by
  have hl1 := h.l1
  have hl2 := h.l2
  have hl3 := h.l3
  have hG := g3.lt
  have e1 : ∀ k, k ≠ B1 → k ≠ B2 → ((w5.setCell ⟨B1, 0, none⟩ v').setCell ⟨B2, 0, none⟩ (.int .i64 (q' : Int))).heap[k]? = w5.heap[k]? := fun k h1 h2 =>
    (Below.heap_setCell _ _ _ _ h2).trans (Below.heap_setCell _ _ _ _ h1)
  refine ⟨v', ?_, ?_, owns_at ho (fun g hg => ?_), own_at g3 (e1 G (by omega) (by omega)), ?_⟩
  · have := (g1.set 0 v').other (B' := B2) (by omega) 0 (.int .i64 (q' : Int))
    simpa using this
  · have := (g2.other (B' := B1) (by omega) 0 v').set 0 (.int .i64 (q' : Int))
    simpa using this
  · have := (ho.lt g hg).1
    exact e1 g (by omega) (by omega)
  · exact v_set (v_set g4 hl1 0 v') (by omega) 0 _

theorem left_same {W : World} {B0 B1 B2 b G cap : Nat} {v : Value} {q k : Nat} (q' : Nat) {xs : List Value} {r : List Nat} (h : Lay W B0 B1 B2 b G cap v q k xs r) :
    BehP B0 B1 B2 b G cap q' k xs r W (W.setCell ⟨B2, 0, none⟩ (.int .i64 (q' : Int))) := by
  have hl1 := h.l1
  have hl2 := h.l2
  have hl3 := h.l3
  have hG := h.row.lt
  have e1 : ∀ k, k ≠ B2 → (W.setCell ⟨B2, 0, none⟩ (.int .i64 (q' : Int))).heap[k]? = W.heap[k]? := fun k h2 => Below.heap_setCell _ _ _ _ h2
  refine ⟨v, h.box1.other (B' := B2) (by omega) 0 _, ?_, owns_at h.own (fun g hg => ?_), own_at h.row (e1 G (by omega)), v_set (Below.refl _ _) (by omega) 0 _⟩
  · have := h.box2.set 0 (.int .i64 (q' : Int))
    simpa using this
  · have := (h.own.lt g hg).1
    exact e1 g (by omega)

set_option maxRecDepth 100000 in
theorem prove1_not (B0 B1 B2 b G cap : Nat) (v : Value) (q k : Nat) (xs : List Value) (r : List Nat) (w : World) (h : Lay w B0 B1 B2 b G cap v q k xs r) (hq : q < 64) (hr : r.length ≤ bsd q) :
    Calls Try.prog 30 #[.slice (some ⟨G, 0, none⟩) r.length cap, .pointer (some ⟨B2, 0, none⟩), .pointer (some ⟨B1, 0, none⟩)] w fun e w' => e = .returned (.tuple #[]) ∧ BehP B0 B1 B2 b G cap (q / 2) k xs r w w' := by
  have cB := beside_any q hq w
  have hL := hid (left_same (q / 2) h)
  have hr' : ¬ ((bsd q : Nat) : Int) < (r.length : Int) := by omega
  have c2 := h.box2.cell 0
  have f2 := h.box2.frozen 0
  generalize bsd q = o at *
  generalize r.length = m at *
  rw [show ((q / 2 : Nat) : Int) = (q : Int) / 2 by omega] at hL
  clear h
  go_enter Try.func30, Try.ntmps30
  go_wp2_with (go_at_call 31; refine cB.mono ?_; rintro e w1 ⟨rfl, hw⟩; subst w1)
  first | go_end0 | refine bodyPost_ret (results_none rfl _ _ _) rfl ?_
  exact ⟨rfl, hL.out⟩

set_option maxRecDepth 100000 in
set_option maxHeartbeats 1000000 in
theorem prove1_yes (B0 B1 B2 b G cap : Nat) (v : Value) (q k : Nat) (xs : List Value) (r : List Nat) (w : World) (h : Lay w B0 B1 B2 b G cap v q k xs r) (hq : q < 64) (hk : k ≤ 64) (hr : bsd q < r.length) :
    Calls Try.prog 30 #[.slice (some ⟨G, 0, none⟩) r.length cap, .pointer (some ⟨B2, 0, none⟩), .pointer (some ⟨B1, 0, none⟩)] w fun e w' => e = .returned (.tuple #[]) ∧ BehP B0 B1 B2 b G cap (q / 2) (k + 1) (xs ++ [.int .u32 ((yb r (bsd q) : Nat) : Int)]) r w w' := by
  obtain ⟨i0, hi, hz0, hz1, hz2⟩ := infoU32
  have cB := beside_any q hq w
  have HL := hid h
  have hr' : ((bsd q : Nat) : Int) < (r.length : Int) := by omega
  have hrc := h.row.row.2
  have c1 := h.box1.cell 0
  have f1 := h.box1.frozen 0
  have c2 := h.box2.cell 0
  have c3 := urow_cell h.row.row.1 hr
  rw [v_zero] at c3
  have c1a := fun o => (h.box1.alloc o).cell 0
  have hsz : B2 + 1 ≤ w.heap.size := h.box2.lt
  have hq2 : ((q / 2 : Nat) : Int) = (q : Int) / 2 := by omega
  have HQ2 := hid hq2
  clear hq2
  have ho0 : (0 : Int) ≤ ((bsd q : Nat) : Int) := by omega
  generalize bsd q = o at *
  generalize yb r o = x at *
  have c1b : (w.alloc (.cells #[.int .u32 (x : Int)] 23)).cell? ⟨B1, 0, none⟩ = some v := c1a _
  clear c1a
  obtain ⟨m, hm⟩ : ∃ m, m = r.length := ⟨_, rfl⟩
  rw [← hm] at hr hr' hrc ⊢
  clear hm h
  go_enter Try.func30, Try.ntmps30
  go_wp2_with (go_at_call 31; refine cB.mono ?_; rintro e w1 ⟨rfl, hw⟩; subst w1)
  go_region_law ((refine step_append_lies _ (by rfl) _ _ _ (by rfl) (B2 + 1) 23 i0 (.int .u32 0) 1 4 Try.underlying31 hi hz0 hz1 hz2 rfl (by decide) v k xs (by rfl) ((HL.out.own.alloc _).drew) ⟨w.heap.size, 0, none⟩ 1 1 [.int .u32 (x : Int)] (by rfl) (by rfl) (fun j u hj => v_one j u hj) (by simp [Value.oneCell']) (by omega) (by unfold maxLen; omega) (by omega) (by simp; omega) (w.heap.size + 1) (by simp) ?_; intro g5 c5 w5 hown5 hgrow5 hat5 hlt5; have HG := hid (HL.out.grown hgrow5); have d1 := HG.out.1.cell 0; have e1 := HG.out.1.frozen 0; have d2 : (w5.setCell ⟨B1, 0, none⟩ (.slice (some ⟨g5, 0, none⟩) (k + 1) c5)).cell? ⟨B2, 0, none⟩ = some (.int .i64 (q : Int)) := (HG.out.2.1.other (by have := HL.out.l2; omega) 0 _).cell 0; have e2 : (w5.setCell ⟨B1, 0, none⟩ (.slice (some ⟨g5, 0, none⟩) (k + 1) c5)).frozen? ⟨B2, 0, none⟩ = false := (HG.out.2.1.other (by have := HL.out.l2; omega) 0 _).frozen 0; have HF := hid (left_grown (q / 2) HL.out HG.out.1 HG.out.2.1 HG.out.2.2.1 HG.out.2.2.2.1 hown5); rw [HQ2.out] at HF; clear hown5 hgrow5 hat5))
  all_goals go_wp2
  all_goals (first | go_end0 | refine bodyPost_ret (results_none rfl _ _ _) rfl ?_)
  all_goals exact ⟨rfl, HF.out⟩

end Go.Proofs.Ythjmmibfgphlhaa.Calls138
