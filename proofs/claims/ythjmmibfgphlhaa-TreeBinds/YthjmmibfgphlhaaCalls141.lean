/-
  The way from a leaf to the root: its texts, and package tree's wayUp.
-/
import Derived.Test.YthjmmibfgphlhaaCalls135
namespace Go.Proofs.Ythjmmibfgphlhaa.Calls141
set_option linter.unusedVariables false
open Go.ChangeShapes Go.WideShapes Go.ChangeAt Go.RowKit Go.Deep Go.Proofs.Ythjmmibfgphlhaa.Base Go.Proofs.Ythjmmibfgphlhaa.Base2 Go.Proofs.Ythjmmibfgphlhaa.Base7 Go.Proofs.Ythjmmibfgphlhaa.Base8 Go.Proofs.Ythjmmibfgphlhaa.Base9 Go.Proofs.Ythjmmibfgphlhaa.Num55 Go.Proofs.Ythjmmibfgphlhaa.Num60 Go.Proofs.Ythjmmibfgphlhaa.Calls126 Go.Proofs.Ythjmmibfgphlhaa.Calls128 Go.Proofs.Ythjmmibfgphlhaa.Calls133 Go.Proofs.Ythjmmibfgphlhaa.Calls134 Go.Proofs.Ythjmmibfgphlhaa.Calls135

/-- The node behind so many rows. -/
def kn (n i : Nat) (p a : List Nat) (k : Nat) : Nat := nk sum n i (yb p) (sum (lft a)) k

/-- The text at a row. -/
def kt (n i : Nat) (p a : List Nat) (k : Nat) : List Nat := tx sum n i (yb p) (sum (lft a)) k

/-- The texts on the way, of the first rows. -/
def wl (n i : Nat) (p a : List Nat) : Nat → List (List Nat)
  | 0 => [lft a]
  | k + 1 => if ix i k % 2 = 1 ∨ ix i k + 1 < mn n k then wl n i p a k ++ [kt n i p a k] else wl n i p a k

theorem wl_need {n i k : Nat} {p a : List Nat} (h : Need n i k) : wl n i p a (k + 1) = wl n i p a k ++ [kt n i p a k] := if_pos h

theorem wl_not {n i k : Nat} {p a : List Nat} (h : ¬ Need n i k) : wl n i p a (k + 1) = wl n i p a k := if_neg h

theorem wl_length (n i : Nat) (p a : List Nat) : ∀ k, (wl n i p a k).length = us n i k + 1
  | 0 => rfl
  | k + 1 => by
    rcases need_dec n i k with e | e
    · rw [wl_need e, us_need e, List.length_append, wl_length n i p a k]; rfl
    · rw [wl_not e, us_not e, wl_length n i p a k]

theorem yr_left {A B : List (List Nat)} {j : Nat} (h : j < A.length) : yr (A ++ B) j = yr A j := by simp [yr, List.getD, List.getElem?_append_left h]

theorem yr_end (A : List (List Nat)) (t : List Nat) : yr (A ++ [t]) A.length = t := by simp [yr, List.getD]

theorem wl_pre {n i k : Nat} {p a : List Nat} {j : Nat} (hj : j < us n i k + 1) : ∀ d, yr (wl n i p a (k + d)) j = yr (wl n i p a k) j
  | 0 => rfl
  | d + 1 => by
    have ih := wl_pre (p := p) (a := a) hj d
    have hm := us_mono (n := n) (i := i) (k := k) d
    show yr (wl n i p a (k + d + 1)) j = _
    rcases need_dec n i (k + d) with e | e
    · rw [wl_need e, yr_left (by rw [wl_length]; omega), ih]
    · rw [wl_not e, ih]

theorem wl_zero (n i : Nat) (p a : List Nat) (h : Nat) : yr (wl n i p a h) 0 = lft a := by
  have := wl_pre (n := n) (i := i) (k := 0) (p := p) (a := a) (j := 0) (by omega) h
  rw [Nat.zero_add] at this
  exact this

theorem wl_at {n i k h : Nat} {p a : List Nat} (hk : k < h) (hN : Need n i k) : yr (wl n i p a h) (us n i k + 1) = kt n i p a k := by
  have := wl_pre (n := n) (i := i) (k := k + 1) (p := p) (a := a) (j := us n i k + 1) (by rw [us_need hN]; omega) (h - (k + 1))
  rw [show k + 1 + (h - (k + 1)) = h by omega] at this
  rw [this, wl_need hN]
  have e := yr_end (wl n i p a k) (kt n i p a k)
  rw [wl_length] at e
  exact e

/-- The last text's sum is the node at hand. -/
theorem wl_end (n i : Nat) (p a : List Nat) : ∀ k, sum (yr (wl n i p a k) (us n i k)) = kn n i p a k
  | 0 => rfl
  | k + 1 => by
    rcases need_dec n i k with e | e
    · rw [us_need e, wl_at (Nat.lt_succ_self k) e]
      exact (nk_need e).symm
    · rw [us_not e, wl_not e, wl_end n i p a k]
      exact (nk_not e).symm

theorem kn_lt (n i : Nat) (p a : List Nat) (k : Nat) : kn n i p a k < 65536 := nk_lt (fun l => sum_lt l) (sum_lt _) k

theorem wl_mem {n i : Nat} {p a t : List Nat} : ∀ {k : Nat}, t ∈ wl n i p a k → t = lft a ∨ ∃ x y, t = prt x y
  | 0, h => .inl (by simpa [wl] using h)
  | k + 1, h => by
    rcases need_dec n i k with e | e
    · rw [wl_need e] at h
      rcases List.mem_append.1 h with h | h
      · exact wl_mem h
      · refine .inr ?_
        have ht : t = kt n i p a k := by simpa using h
        rw [ht]
        unfold kt tx
        split
        · exact ⟨_, _, rfl⟩
        · exact ⟨_, _, rfl⟩
    · rw [wl_not e] at h; exact wl_mem h

theorem wl_fit {n i : Nat} {p a : List Nat} (ha : a.length ≤ 4095) (hb : Byt a) {k : Nat} : ∀ t ∈ wl n i p a k, t.length ≤ 4096 ∧ Byt t ∧ 1 ≤ t.length := fun t ht => by
  rcases wl_mem ht with rfl | ⟨x, y, rfl⟩
  · exact ⟨by rw [lft_length]; omega, lft_byt hb, by rw [lft_length]; omega⟩
  · exact ⟨by rw [prt_length]; omega, prt_byt x y, by rw [prt_length]; omega⟩

theorem wl_at_fit {n i : Nat} {p a : List Nat} (ha : a.length ≤ 4095) (hb : Byt a) {k j : Nat} (hj : j ≤ us n i k) : (yr (wl n i p a k) j).length ≤ 4096 ∧ Byt (yr (wl n i p a k) j) ∧ 1 ≤ (yr (wl n i p a k) j).length :=
  wl_fit ha hb _ (yr_mem (by rw [wl_length]; omega))

/-! ### the row of texts -/

/-- The texts on the way, in memory. -/
def WTab (W : World) (base : Nat) (v : Value) (k : Nat) (A : List (List Nat)) : Prop := VTab 37 W base v k (fun j => yv (yr A j))

theorem WTab.below {W W' : World} {base : Nat} {v : Value} {k : Nat} {A : List (List Nat)} (h : WTab W base v k A) (hB : Below W.heap.size W W') : WTab W' base v k A := VTab.below h hB

theorem WTab.text {W : World} {base : Nat} {v : Value} {k : Nat} {A : List (List Nat)} (h : WTab W base v k A) {j : Nat} (hj : j < k) :
    ∃ G C, v = .slice (some ⟨G, 0, none⟩) k C ∧ k ≤ C ∧ ∃ g c, W.cell? ⟨G, j, none⟩ = some (.slice (some ⟨g, 0, none⟩) (yr A j).length c) ∧ (yr A j).length ≤ c ∧ YRow W (some ⟨g, 0, none⟩) (yr A j) := by
  obtain ⟨G, C, h1, h2, g, c, h3, h4, h5⟩ := VTab.at h hj
  rw [yv_length] at h3 h4
  refine ⟨G, C, h1, h2, g, c, h3, h4, fun e => (by cases e), fun ad e j u hu => ?_⟩
  obtain rfl : (⟨g, 0, none⟩ : Addr) = ad := by simpa using e
  rw [v_zero]
  exact h5 j u hu

/-- A text that has just been made, as one of the rows. -/
theorem vat_new {W : World} {own : Option Nat} {g c b : Nat} {l : List Nat} (hr : YRow W (some ⟨g, 0, none⟩) l) (hg : b ≤ g) (hg2 : g < W.heap.size) (hc : l.length ≤ c) (hown : ∀ j, own = some j → j < b) : VAt W own (some (.slice (some ⟨g, 0, none⟩) l.length c)) (yv l) := by
  refine ⟨g, c, by rw [yv_length], by rw [yv_length]; exact hc, fun e => ?_, hg2, fun i x hx => ?_⟩
  · have := hown g e; omega
  · have := hr.2 _ rfl i x hx
    rw [v_zero] at this
    exact this

theorem infoBsm : (Try.prog.info? 37).map (fun i => (i.zero, i.size, i.bytes)) = some (some (.slice none 0 0), 1, 24) := by kernel_rfl

theorem infoBs : ∃ i, Try.prog.info? 37 = some i ∧ i.zero = some (.slice none 0 0) ∧ i.size = 1 ∧ i.bytes = 24 := by
  have h := infoBsm
  cases e : Try.prog.info? 37 with
  | none => rw [e] at h; simp at h
  | some i => rw [e] at h; simp at h; exact ⟨i, rfl, h.1, h.2.1, h.2.2⟩

/-- A row of one text, just laid. -/
theorem wtab_one {W : World} {B g c : Nat} {t : List Nat} {A : List (List Nat)} (hB : B ≤ W.heap.size) (hr : YRow W (some ⟨g, 0, none⟩) t) (hg2 : g < W.heap.size) (hc : t.length ≤ c) (h0 : yr A 0 = t) :
    WTab (W.alloc (.cells #[.slice (some ⟨g, 0, none⟩) t.length c] 37)) B (.slice (some ⟨W.heap.size, 0, none⟩) 1 1) 1 A := by
  have hown : (W.alloc (.cells #[.slice (some ⟨g, 0, none⟩) t.length c] 37)).ownsRow B 37 1 (.slice (some ⟨W.heap.size, 0, none⟩) 1 1) 1 [.slice (some ⟨g, 0, none⟩) t.length c] :=
    ⟨by simp, .inr ⟨W.heap.size, 1, #[.slice (some ⟨g, 0, none⟩) t.length c], rfl, hB, World.alloc_heap_new W _, Nat.le_refl _, by unfold maxLen; omega, by simp, by simp⟩⟩
  have hBl : Below W.heap.size W (W.alloc (.cells #[.slice (some ⟨g, 0, none⟩) t.length c] 37)) := (Below.refl _ _).alloc (Nat.le_refl _) _
  refine ⟨_, hown, fun j hj => ?_⟩
  obtain rfl : j = 0 := by omega
  show VAt _ (some W.heap.size) _ (yv (yr A 0))
  rw [h0]
  refine ⟨g, c, by rw [yv_length]; rfl, by rw [yv_length]; exact hc, fun e => ?_, by simp; omega, fun i x hx => ?_⟩
  · have : W.heap.size = g := Option.some.inj e
    omega
  · have := (yrow_below hr hBl).2 _ rfl i x hx
    rw [v_zero] at this
    exact this

set_option maxRecDepth 100000 in
theorem end_any (B : Nat) (v : Value) (u : Nat) (A : List (List Nat)) (hu : u ≤ 64) (w : World) (h : WTab w B v (u + 1) A) (hl : (yr A u).length ≤ 4096) (hb : Byt (yr A u)) :
    Calls Try.prog 34 #[v] w fun e w' => e = .returned (.int .u32 ((sum (yr A u) : Nat) : Int)) ∧ Below w.heap.size w w' := by
  obtain ⟨G, C, rfl, hC, g, c, c1, hgc, hr⟩ := h.text (j := u) (by omega)
  have cN := node_any _ c _ hl hb w hr
  generalize sum (yr A u) = s at *
  generalize (yr A u).length = n at *
  clear hr h hb
  obtain ⟨K, hK⟩ : ∃ K, K = u + 1 := ⟨_, rfl⟩
  rw [← hK] at hC ⊢
  have h1 : (0 : Int) ≤ (u : Int) := by omega
  have h2 : (K : Int) - 1 = (u : Int) := by omega
  have h3 : u < K := by omega
  have h4 : (u : Int) < (K : Int) := by omega
  have h5 : (u : Int) ≤ 64 := by omega
  clear hK
  go_enter Try.func34, Try.ntmps34
  go_wp2_with (go_at_call 36; refine cN.mono ?_; rintro e w1 ⟨rfl, hB⟩; have HB := hid hB; clear hB)
  go_ret
  exact ⟨rfl, HB.out⟩

end Go.Proofs.Ythjmmibfgphlhaa.Calls141
