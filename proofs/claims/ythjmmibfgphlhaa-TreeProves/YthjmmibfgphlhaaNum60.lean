/-
  Plain arithmetic of trees: rows, the way up from a leaf, where two ways clash.
-/
namespace Go.Proofs.Ythjmmibfgphlhaa.Num60
set_option linter.unusedVariables false

/-- The text of a leaf, and that of two nodes. -/
def lft (l : List Nat) : List Nat := 0 :: l
def prt (a b : Nat) : List Nat := [1, a % 256, a / 256 % 256, b % 256, b / 256 % 256]

theorem prt_inj {a b c d : Nat} (ha : a < 65536) (hb : b < 65536) (hc : c < 65536) (hd : d < 65536) (h : prt a b = prt c d) : a = c ∧ b = d := by
  unfold prt at h
  simp only [List.cons.injEq, and_true, true_and] at h
  omega

theorem lft_inj {l m : List Nat} (h : lft l = lft m) : l = m := (List.cons.inj h).2

/-- How many nodes a row has. -/
def mn (n : Nat) : Nat → Nat
  | 0 => n
  | k + 1 => (mn n k + 1) / 2

theorem mn_pos {n : Nat} (h : 1 ≤ n) : ∀ k, 1 ≤ mn n k
  | 0 => h
  | k + 1 => by
    have := mn_pos h k
    show 1 ≤ (mn n k + 1) / 2
    omega

theorem mn_one {n : Nat} {k : Nat} (h : mn n k = 1) : ∀ d, mn n (k + d) = 1
  | 0 => h
  | d + 1 => by
    show (mn n (k + d) + 1) / 2 = 1
    rw [mn_one h d]

theorem mn_le {n : Nat} : ∀ k, mn n k * 2 ^ k ≤ n + 2 ^ k - 1
  | 0 => by show n * 2 ^ 0 ≤ n + 2 ^ 0 - 1; omega
  | k + 1 => by
    have ih := mn_le (n := n) k
    show (mn n k + 1) / 2 * 2 ^ (k + 1) ≤ n + 2 ^ (k + 1) - 1
    have hp : 2 ^ (k + 1) = 2 * 2 ^ k := by rw [Nat.pow_succ, Nat.mul_comm]
    have hq : 1 ≤ 2 ^ k := Nat.pow_pos (by omega)
    have h1 : (mn n k + 1) / 2 * 2 ^ (k + 1) ≤ (mn n k + 1) * 2 ^ k := by
      rw [hp, ← Nat.mul_assoc]
      exact Nat.mul_le_mul_right _ (Nat.div_mul_le_self _ 2)
    rw [Nat.add_mul, Nat.one_mul] at h1
    omega

/-- At most so many rows above the lowest one. -/
theorem mn_end {n k : Nat} (h1 : 1 ≤ n) (h2 : n ≤ 2 ^ k) : mn n k = 1 := by
  have h := mn_le (n := n) k
  have hp := mn_pos h1 k
  have hq : 1 ≤ 2 ^ k := Nat.pow_pos (by omega)
  rcases Nat.lt_or_ge (mn n k) 2 with e | e
  · omega
  · have := Nat.mul_le_mul_right (2 ^ k) e
    omega

/-- The row that has just one node, and none below it has. -/
def Top (n h : Nat) : Prop := mn n h = 1 ∧ ∀ k, k < h → 1 < mn n k

theorem Top.uniq {n h h' : Nat} (a : Top n h) (b : Top n h') : h = h' := by
  rcases Nat.lt_trichotomy h h' with e | e | e
  · have := b.2 h e; have := a.1; omega
  · exact e
  · have := a.2 h' e; have := b.1; omega

theorem top_ex {n : Nat} (h1 : 1 ≤ n) : ∀ k, mn n k = 1 → ∃ h, h ≤ k ∧ Top n h
  | 0, h => ⟨0, Nat.le_refl _, h, fun k hk => absurd hk (by omega)⟩
  | k + 1, h => by
    by_cases e : mn n k = 1
    · obtain ⟨t, a, b⟩ := top_ex h1 k e
      exact ⟨t, by omega, b⟩
    · refine ⟨k + 1, Nat.le_refl _, h, fun j hj => ?_⟩
      have hp := mn_pos h1 j
      rcases Nat.lt_or_ge 1 (mn n j) with g | g
      · exact g
      · have hj1 : mn n j = 1 := by omega
        have := mn_one hj1 (k - j)
        rw [show j + (k - j) = k by omega] at this
        exact absurd this e

/-- The place in a row. -/
def ix (i : Nat) : Nat → Nat
  | 0 => i
  | k + 1 => ix i k / 2

theorem ix_lt {n i : Nat} (h : i < n) : ∀ k, ix i k < mn n k
  | 0 => h
  | k + 1 => by
    have := ix_lt h k
    show ix i k / 2 < (mn n k + 1) / 2
    omega

/-- In a row the place has another one beside it. -/
def Need (n i k : Nat) : Prop := ix i k % 2 = 1 ∨ ix i k + 1 < mn n k

theorem need_dec (n i k : Nat) : Need n i k ∨ ¬ Need n i k := Classical.em _

/-- How many nodes of a proof the first rows take. -/
def us (n i : Nat) : Nat → Nat
  | 0 => 0
  | k + 1 => if ix i k % 2 = 1 ∨ ix i k + 1 < mn n k then us n i k + 1 else us n i k

theorem us_need {n i k : Nat} (h : Need n i k) : us n i (k + 1) = us n i k + 1 := if_pos h
theorem us_not {n i k : Nat} (h : ¬ Need n i k) : us n i (k + 1) = us n i k := if_neg h

theorem us_le {n i : Nat} : ∀ k, us n i k ≤ k
  | 0 => Nat.le_refl _
  | k + 1 => by
    have ih := us_le (n := n) (i := i) k
    rcases need_dec n i k with e | e
    · rw [us_need e]; omega
    · rw [us_not e]; omega

theorem us_mono {n i k : Nat} : ∀ d, us n i k ≤ us n i (k + d)
  | 0 => Nat.le_refl _
  | d + 1 => by
    have ih := us_mono (n := n) (i := i) (k := k) d
    show us n i k ≤ us n i (k + d + 1)
    rcases need_dec n i (k + d) with e | e
    · rw [us_need e]; omega
    · rw [us_not e]; omega

/-- The text that is summed at a row, and the node behind so many rows; p are the proof's nodes. -/
def nk (S : List Nat → Nat) (n i : Nat) (p : Nat → Nat) (x : Nat) : Nat → Nat
  | 0 => x
  | k + 1 => if ix i k % 2 = 1 then S (prt (p (us n i k)) (nk S n i p x k)) else if ix i k + 1 < mn n k then S (prt (nk S n i p x k) (p (us n i k))) else nk S n i p x k

def tx (S : List Nat → Nat) (n i : Nat) (p : Nat → Nat) (x k : Nat) : List Nat :=
  if ix i k % 2 = 1 then prt (p (us n i k)) (nk S n i p x k) else prt (nk S n i p x k) (p (us n i k))

theorem nk_need {S : List Nat → Nat} {n i : Nat} {p : Nat → Nat} {x k : Nat} (h : Need n i k) : nk S n i p x (k + 1) = S (tx S n i p x k) := by
  unfold tx
  show (if _ then _ else _) = _
  by_cases e : ix i k % 2 = 1
  · rw [if_pos e, if_pos e]
  · rw [if_neg e, if_neg e, if_pos (h.resolve_left e)]

theorem nk_not {S : List Nat → Nat} {n i : Nat} {p : Nat → Nat} {x k : Nat} (h : ¬ Need n i k) : nk S n i p x (k + 1) = nk S n i p x k := by
  show (if _ then _ else _) = _
  rw [if_neg (fun e => h (.inl e)), if_neg (fun e => h (.inr e))]

theorem nk_congr {S : List Nat → Nat} {n i : Nat} {p q : Nat → Nat} {x : Nat} : ∀ {k : Nat}, (∀ j, j < us n i k → p j = q j) → nk S n i p x k = nk S n i q x k
  | 0, _ => rfl
  | k + 1, h => by
    rcases need_dec n i k with e | e
    · rw [us_need e] at h
      have ih := nk_congr (S := S) (n := n) (i := i) (p := p) (q := q) (x := x) (k := k) (fun j hj => h j (by omega))
      rw [nk_need e, nk_need e]
      unfold tx
      rw [ih, h _ (by omega)]
    · rw [us_not e] at h
      rw [nk_not e, nk_not e, nk_congr h]

/-- The nodes of the rows. -/
def nd (S : List Nat → Nat) (n : Nat) (L : Nat → Nat) : Nat → Nat → Nat
  | 0, i => L i
  | k + 1, i => if 2 * i + 1 < mn n k then S (prt (nd S n L k (2 * i)) (nd S n L k (2 * i + 1))) else nd S n L k (2 * i)

/-- The other one of the two. -/
def ot (i k : Nat) : Nat := if ix i k % 2 = 1 then ix i k - 1 else ix i k + 1

theorem ot_lt {n i k : Nat} (hi : i < n) (h : Need n i k) : ot i k < mn n k := by
  have := ix_lt hi k
  unfold ot
  split
  · omega
  · rename_i e
    exact h.resolve_left e

theorem need_iff {n i k : Nat} (hi : i < n) : Need n i k ↔ ot i k < mn n k := by
  refine ⟨ot_lt hi, fun h => ?_⟩
  unfold ot at h
  by_cases e : ix i k % 2 = 1
  · exact .inl e
  · rw [if_neg e] at h; exact .inr h

/-- MERKLE: a proof leads to the nodes of all rows. -/
theorem proves {S : List Nat → Nat} {n i : Nat} {L p : Nat → Nat} (hi : i < n) : ∀ k, (∀ j, j < k → Need n i j → p (us n i j) = nd S n L j (ot i j)) → nk S n i p (L i) k = nd S n L k (ix i k)
  | 0, _ => rfl
  | k + 1, h => by
    have ih := proves hi k (fun j hj => h j (by omega))
    have hx := ix_lt hi k
    show nk S n i p (L i) (k + 1) = if 2 * (ix i k / 2) + 1 < mn n k then S (prt (nd S n L k (2 * (ix i k / 2))) (nd S n L k (2 * (ix i k / 2) + 1))) else nd S n L k (2 * (ix i k / 2))
    by_cases e : ix i k % 2 = 1
    · have hn : Need n i k := .inl e
      have hp := h k (by omega) hn
      have ho : ot i k = ix i k - 1 := by unfold ot; rw [if_pos e]
      rw [nk_need hn]
      unfold tx
      rw [if_pos e, ih, hp, ho, if_pos (by omega), show 2 * (ix i k / 2) = ix i k - 1 by omega, show ix i k - 1 + 1 = ix i k by omega]
    · by_cases e2 : ix i k + 1 < mn n k
      · have hn : Need n i k := .inr e2
        have hp := h k (by omega) hn
        have ho : ot i k = ix i k + 1 := by unfold ot; rw [if_neg e]
        rw [nk_need hn]
        unfold tx
        rw [if_neg e, ih, hp, ho, if_pos (by omega), show 2 * (ix i k / 2) = ix i k by omega]
      · have hn : ¬ Need n i k := fun h => h.elim e e2
        rw [nk_not hn, ih, if_neg (by omega), show 2 * (ix i k / 2) = ix i k by omega]

theorem ix_top {n i h : Nat} (hi : i < n) (ht : mn n h = 1) : ix i h = 0 := by
  have := ix_lt hi h
  omega

/-- The proof's nodes, one behind the other. -/
def IsPrf (S : List Nat → Nat) (n i : Nat) (L : Nat → Nat) (h : Nat) (p : List Nat) : Prop :=
  p.length = us n i h ∧ ∀ j, j < h → Need n i j → p.getD (us n i j) 0 = nd S n L j (ot i j)

theorem IsPrf.next {S : List Nat → Nat} {n i : Nat} {L : Nat → Nat} {h : Nat} {p : List Nat} (H : IsPrf S n i L h p) (hn : Need n i h) : IsPrf S n i L (h + 1) (p ++ [nd S n L h (ot i h)]) := by
  refine ⟨by rw [us_need hn, List.length_append, H.1]; rfl, fun j hj hN => ?_⟩
  by_cases e : j = h
  · subst e
    rw [← H.1]
    simp [List.getD]
  · have hlt : us n i j < p.length := by
      rw [H.1]
      have h1 := us_need hN
      have h2 := us_mono (n := n) (i := i) (k := j + 1) (h - (j + 1))
      rw [show j + 1 + (h - (j + 1)) = h by omega] at h2
      omega
    have := H.2 j (by omega) hN
    rw [← this]
    simp [List.getD, List.getElem?_append_left hlt]

theorem IsPrf.skip {S : List Nat → Nat} {n i : Nat} {L : Nat → Nat} {h : Nat} {p : List Nat} (H : IsPrf S n i L h p) (hn : ¬ Need n i h) : IsPrf S n i L (h + 1) p := by
  refine ⟨by rw [us_not hn, H.1], fun j hj hN => ?_⟩
  by_cases e : j = h
  · subst e; exact absurd hN hn
  · exact H.2 j (by omega) hN

theorem IsPrf.root {S : List Nat → Nat} {n i : Nat} {L : Nat → Nat} {h : Nat} {p : List Nat} (H : IsPrf S n i L h p) (hi : i < n) (ht : mn n h = 1) : nk S n i (fun j => p.getD j 0) (L i) h = nd S n L h 0 := by
  rw [proves hi h H.2, ix_top hi ht]

/-! ### where two ways clash -/

/-- Bounds of what comes. -/
theorem nk_lt {S : List Nat → Nat} (hS : ∀ l, S l < 65536) {n i : Nat} {p : Nat → Nat} {x : Nat} (hx : x < 65536) : ∀ k, nk S n i p x k < 65536
  | 0 => hx
  | k + 1 => by
    rcases need_dec n i k with e | e
    · rw [nk_need e]; exact hS _
    · rw [nk_not e]; exact nk_lt hS hx k

/-- The first row at which two ways are the same, that were not so below: there two texts that are not the same have one sum. -/
theorem clash_row {S : List Nat → Nat} (hS : ∀ l, S l < 65536) {n i : Nat} {p q : Nat → Nat} {x y : Nat} (hp : ∀ j, p j < 65536) (hq : ∀ j, q j < 65536) (hx : x < 65536) (hy : y < 65536) {k : Nat}
    (h0 : nk S n i p x k ≠ nk S n i q y k) (h1 : nk S n i p x (k + 1) = nk S n i q y (k + 1)) :
    Need n i k ∧ tx S n i p x k ≠ tx S n i q y k ∧ S (tx S n i p x k) = S (tx S n i q y k) := by
  rcases need_dec n i k with e | e
  · refine ⟨e, fun ht => ?_, by
      have a := nk_need (S := S) (p := p) (x := x) e
      have b := nk_need (S := S) (p := q) (x := y) e
      rw [← a, ← b]; exact h1⟩
    unfold tx at ht
    by_cases g : ix i k % 2 = 1
    · rw [if_pos g, if_pos g] at ht
      exact h0 (prt_inj (hp _) (nk_lt hS hx k) (hq _) (nk_lt hS hy k) ht).2
    · rw [if_neg g, if_neg g] at ht
      exact h0 (prt_inj (nk_lt hS hx k) (hp _) (nk_lt hS hy k) (hq _) ht).1
  · rw [nk_not e, nk_not e] at h1
    exact absurd h1 h0

theorem row_ex {S : List Nat → Nat} {n i : Nat} {p q : Nat → Nat} {x y : Nat} (h0 : x ≠ y) (h : Nat) (e : nk S n i p x h = nk S n i q y h) : ∃ k, k < h ∧ (∀ j, j ≤ k → nk S n i p x j ≠ nk S n i q y j) ∧ nk S n i p x (k + 1) = nk S n i q y (k + 1) := by
  induction h using Nat.strongRecOn with
  | ind h ih =>
    rcases h with _ | h
    · exact absurd e h0
    · by_cases g2 : ∀ j, j ≤ h → nk S n i p x j ≠ nk S n i q y j
      · exact ⟨h, by omega, g2, e⟩
      · obtain ⟨j, hj⟩ := Classical.not_forall.1 g2
        obtain ⟨hj1, hj2⟩ := Classical.not_imp.1 hj
        obtain ⟨k, a, b⟩ := ih j (by omega) (Classical.not_not.1 hj2)
        exact ⟨k, by omega, b⟩

end Go.Proofs.Ythjmmibfgphlhaa.Num60
