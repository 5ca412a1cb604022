/-
  Plain arithmetic: rows of equations as two words of 64 bits, at most one of each degree; the rule that they tell.
-/
import Derived.Test.YtfomanpehfdnbaaNum54
namespace Go.Proofs.Ytfomanpehfdnbaa.Num65
set_option linter.unusedVariables false
open Go.Proofs.Ytfomanpehfdnbaa.Num44 Go.Proofs.Ytfomanpehfdnbaa.Num54

/-! ### two words -/

/-- The bit i of two words. -/
def pb (a b i : Nat) : Bool := if i < 64 then a.testBit i else b.testBit (i - 64)

def Wd (a b : Nat) : Prop := a < 18446744073709551616 ∧ b < 18446744073709551616

theorem bit_far {a i : Nat} (h : a < 18446744073709551616) (hi : 64 ≤ i) : a.testBit i = false := by
  refine Nat.testBit_lt_two_pow (Nat.lt_of_lt_of_le (show a < 2 ^ 64 from h) (Nat.pow_le_pow_right (by decide) hi))

theorem pb_far {a b i : Nat} (h : Wd a b) (hi : 128 ≤ i) : pb a b i = false := by
  unfold pb
  rw [if_neg (by omega)]
  exact bit_far h.2 (by omega)

theorem pb_zero (i : Nat) : pb 0 0 i = false := by
  unfold pb; split <;> simp

theorem bit_with (a i j : Nat) : (a ||| 2 ^ i).testBit j = (a.testBit j || decide (j = i)) := by
  rw [Nat.testBit_or, Nat.testBit_two_pow]
  by_cases h : i = j
  · subst h; simp
  · simp [h]; intro e; exact absurd e.symm h

theorem pb_with_lo {a b i : Nat} (hi : i < 64) (j : Nat) : pb (a ||| 2 ^ i) b j = (pb a b j || decide (j = i)) := by
  unfold pb
  by_cases h : j < 64
  · rw [if_pos h, if_pos h, bit_with]
  · rw [if_neg h, if_neg h]
    have : decide (j = i) = false := by simp; omega
    rw [this, Bool.or_false]

theorem pb_with_hi {a b i : Nat} (hi : 64 ≤ i) (j : Nat) : pb a (b ||| 2 ^ (i - 64)) j = (pb a b j || decide (j = i)) := by
  unfold pb
  by_cases h : j < 64
  · rw [if_pos h, if_pos h]
    have : decide (j = i) = false := by simp; omega
    rw [this, Bool.or_false]
  · rw [if_neg h, if_neg h, bit_with]
    congr 1
    simp; omega

theorem wd_with_lo {a b i : Nat} (h : Wd a b) (hi : i < 64) : Wd (a ||| 2 ^ i) b :=
  ⟨Nat.or_lt_two_pow (n := 64) h.1 (Nat.pow_lt_pow_right (by decide) hi), h.2⟩

theorem wd_with_hi {a b i : Nat} (h : Wd a b) (hi : 64 ≤ i) (h2 : i < 128) : Wd a (b ||| 2 ^ (i - 64)) :=
  ⟨h.1, Nat.or_lt_two_pow (n := 64) h.2 (Nat.pow_lt_pow_right (by decide) (by omega))⟩

theorem pb_plus (a b c d i : Nat) : pb (a ^^^ c) (b ^^^ d) i = xor (pb a b i) (pb c d i) := by
  unfold pb
  split <;> rw [Nat.testBit_xor]

theorem wd_plus {a b c d : Nat} (h : Wd a b) (h2 : Wd c d) : Wd (a ^^^ c) (b ^^^ d) :=
  ⟨Nat.xor_lt_two_pow (n := 64) h.1 h2.1, Nat.xor_lt_two_pow (n := 64) h.2 h2.2⟩

/-- The degree: the greatest bit that is set, or -1. -/
def Dg (a b : Nat) (d : Int) : Prop := (∀ i : Nat, d < (i : Int) → pb a b i = false) ∧ (d = -1 ∨ ∃ k : Nat, d = k ∧ pb a b k = true)

theorem Dg.uniq {a b : Nat} {d d' : Int} (h : Dg a b d) (h' : Dg a b d') : d = d' := by
  have key : ∀ {d d' : Int}, Dg a b d → Dg a b d' → ¬ d < d' := fun {d d'} h h' hlt => by
    rcases h'.2 with e | ⟨k, e, hk⟩
    · rcases h.2 with e2 | ⟨k2, e2, _⟩ <;> omega
    · have := h.1 k (by omega)
      rw [hk] at this; cases this
  have h1 := key h h'
  have h2 := key h' h
  omega

/-- How many bits a word has. -/
def Ln (x l : Nat) : Prop := x < 2 ^ l ∧ (l = 0 ∨ 2 ^ (l - 1) ≤ x)

theorem ln_bit {x l : Nat} (h : Ln x l) : (∀ i, l ≤ i → x.testBit i = false) ∧ (l = 0 ∨ x.testBit (l - 1) = true) := by
  refine ⟨fun i hi => Nat.testBit_lt_two_pow (Nat.lt_of_lt_of_le h.1 (Nat.pow_le_pow_right (by decide) hi)), ?_⟩
  rcases h.2 with e | e
  · exact .inl e
  · by_cases hl : l = 0
    · exact .inl hl
    · refine .inr ?_
      have h1 : x < 2 ^ (l - 1 + 1) := by rw [Nat.sub_add_cancel (by omega)]; exact h.1
      rw [Nat.testBit_eq_decide_div_mod_eq]
      have hp := Nat.two_pow_pos (l - 1)
      have h2 : x / 2 ^ (l - 1) = 1 := by
        rw [Nat.pow_succ] at h1
        refine Nat.le_antisymm (Nat.le_of_lt_succ (Nat.div_lt_of_lt_mul (by omega))) ?_
        exact (Nat.le_div_iff_mul_le hp).2 (by omega)
      rw [h2]; rfl

theorem dg_hi {a b l : Nat} (h : Wd a b) (hl : Ln b l) (h0 : b ≠ 0) : Dg a b (63 + (l : Int)) := by
  obtain ⟨h1, h2⟩ := ln_bit hl
  have hl0 : l ≠ 0 := fun e => by
    subst e
    have := hl.1
    simp at this; omega
  refine ⟨fun i hi => ?_, .inr ⟨63 + l, by omega, ?_⟩⟩
  · unfold pb
    rw [if_neg (by omega)]
    exact h1 _ (by omega)
  · unfold pb
    rw [if_neg (by omega), show 63 + l - 64 = l - 1 by omega]
    exact h2.resolve_left hl0

theorem dg_lo {a l : Nat} (hl : Ln a l) (hl2 : l ≤ 64) : Dg a 0 ((l : Int) - 1) := by
  obtain ⟨h1, h2⟩ := ln_bit hl
  refine ⟨fun i hi => ?_, ?_⟩
  · unfold pb
    by_cases h : i < 64
    · rw [if_pos h]; exact h1 _ (by omega)
    · rw [if_neg h]; simp
  · rcases h2 with h2 | h2
    · exact .inl (by omega)
    · by_cases h0 : l = 0
      · exact .inl (by omega)
      · refine .inr ⟨l - 1, by omega, ?_⟩
        unfold pb
        rw [if_pos (by omega)]
        exact h2

theorem dg_bd {a b : Nat} {d : Int} (h : Wd a b) (hd : Dg a b d) : -1 ≤ d ∧ d ≤ 127 := by
  rcases hd.2 with e | ⟨k, e, hk⟩
  · omega
  · refine ⟨by omega, ?_⟩
    by_cases hk2 : 128 ≤ k
    · rw [pb_far h hk2] at hk; cases hk
    · omega

/-! ### sums over both -/

theorem xs_more {n : Nat} {f : Nat → Bool} (d : Nat) (h : ∀ k, n ≤ k → k < n + d → f k = false) : xs (n + d) f = xs n f := by
  rw [xs_add, xs_false (n := d) (fun k hk => h (n + k) (by omega) (by omega))]
  cases xs n f <;> rfl

theorem xs_upto {n m : Nat} {f : Nat → Bool} (hnm : n ≤ m) (h : ∀ k, n ≤ k → f k = false) : xs m f = xs n f := by
  obtain ⟨d, rfl⟩ : ∃ d, m = n + d := ⟨m - n, by omega⟩
  exact xs_more d (fun k hk _ => h k hk)

/-- The bits that are set in both, of two words each. -/
theorem xs_words (a b c d : Nat) : xs 64 (fun i => ((a &&& c) ^^^ (b &&& d)).testBit i) = xs 128 (fun i => pb a b i && pb c d i) := by
  rw [show 128 = 64 + 64 from rfl, xs_add, ← xs_xor]
  refine xs_congr (fun k hk => ?_)
  rw [Nat.testBit_xor, Nat.testBit_and, Nat.testBit_and]
  unfold pb
  rw [if_pos hk, if_pos hk, if_neg (by omega), if_neg (by omega), Nat.add_sub_cancel_left]

/-! ### rows of each degree -/

/-- The rule holds to a row. -/
def Hl (M : Nat) (r P : Nat → Bool) : Prop := xs (M + 1) (fun i => P i && r i) = false

theorem Hl.congr {M : Nat} {r P P' : Nat → Bool} (h : ∀ i, i ≤ M → P i = P' i) : Hl M r P ↔ Hl M r P' := by
  unfold Hl
  rw [xs_congr (f := fun i => P i && r i) (g := fun i => P' i && r i) (fun i hi => by rw [h i (by omega)])]

theorem hl_plus {M : Nat} {r P Q : Nat → Bool} (hQ : Hl M r Q) : Hl M r (fun i => xor (P i) (Q i)) ↔ Hl M r P := by
  unfold Hl at *
  rw [xs_congr (f := fun i => (xor (P i) (Q i)) && r i) (g := fun i => xor (P i && r i) (Q i && r i)) (fun i _ => by cases P i <;> cases Q i <;> cases r i <;> rfl), xs_xor, hQ]
  cases xs (M + 1) (fun i => P i && r i) <;> decide

theorem hl_none {M : Nat} {r P : Nat → Bool} (h : ∀ i, P i = false) : Hl M r P := by
  unfold Hl
  exact xs_false (fun i _ => by rw [h i]; rfl)

theorem hl_one {M : Nat} {r P : Nat → Bool} (h0 : P 0 = true) (h : ∀ i, 0 < i → P i = false) (hr : r 0 = true) : ¬ Hl M r P := by
  unfold Hl
  rw [xs_front, h0, hr, xs_false (fun k _ => by rw [h (k + 1) (by omega)]; rfl)]
  decide

/-- The row of the bit i. -/
def rwp (l : Nat → Bool) (M i : Nat) : Nat → Bool := fun j => if j ≤ M then l (i - j) else false

theorem hl_dl {l r : Nat → Bool} {M i : Nat} : Hl M r (rwp l M i) ↔ Dl l r M i = false := by
  unfold Hl Dl
  rw [xs_congr (f := fun j => rwp l M i j && r j) (g := fun j => r j && l (i - j)) (fun j hj => by unfold rwp; rw [if_pos (by omega)]; exact Bool.and_comm _ _)]

/-- A table of rows: at most one of each degree. -/
abbrev Tbl := Nat → Option (Nat × Nat)

/-- All of the table hold. -/
def AllT (M : Nat) (f : Tbl) (r : Nat → Bool) : Prop := ∀ k a b, f k = some (a, b) → Hl M r (pb a b)

/-- What is so of a table, behind the rows of all bits below p. -/
structure Ech (l : Nat → Bool) (M p : Nat) (f : Tbl) : Prop where
  wd : ∀ k a b, f k = some (a, b) → Wd a b
  lo : ∀ k a b, f k = some (a, b) → 1 ≤ k ∧ k ≤ M
  top : ∀ k a b, f k = some (a, b) → pb a b k = true ∧ ∀ i, k < i → pb a b i = false
  iff : ∀ r : Nat → Bool, r 0 = true → (AllT M f r ↔ ∀ i, M ≤ i → i < p → Hl M r (rwp l M i))

theorem Ech.start (l : Nat → Bool) (M : Nat) : Ech l M M (fun _ => none) :=
  ⟨fun _ _ _ h => (by cases h), fun _ _ _ h => (by cases h), fun _ _ _ h => (by cases h), fun r _ => ⟨fun _ i h1 h2 => by omega, fun _ k a b h => (by cases h)⟩⟩

/-- What is so of the row that is at hand. -/
structure Cur (l : Nat → Bool) (M p : Nat) (f : Tbl) (a b : Nat) : Prop where
  wd : Wd a b
  far : ∀ i, M < i → pb a b i = false
  iff : ∀ r : Nat → Bool, r 0 = true → AllT M f r → (Hl M r (pb a b) ↔ Hl M r (rwp l M p))

theorem Cur.start {l : Nat → Bool} {M p : Nat} {f : Tbl} {a b : Nat} (h : Wd a b) (hr : ∀ i, pb a b i = rwp l M p i) : Cur l M p f a b := by
  refine ⟨h, fun i hi => by rw [hr]; unfold rwp; rw [if_neg (by omega)], fun r _ _ => Hl.congr (fun i _ => hr i)⟩

/-- A row of the same degree is added. -/
theorem Cur.step {l : Nat → Bool} {M p : Nat} {f : Tbl} {a b k c d : Nat} (hE : Ech l M p f) (h : Cur l M p f a b) (hf : f k = some (c, d)) : Cur l M p f (a ^^^ c) (b ^^^ d) := by
  refine ⟨wd_plus h.wd (hE.wd k c d hf), fun i hi => ?_, fun r hr hA => ?_⟩
  · rw [pb_plus, h.far i hi, (hE.top k c d hf).2 i (by have := hE.lo k c d hf; omega)]; rfl
  · rw [← h.iff r hr hA]
    exact (Hl.congr (fun i _ => pb_plus a b c d i)).trans (hl_plus (hA k c d hf))

theorem Cur.less {l : Nat → Bool} {M p : Nat} {f : Tbl} {a b k c d : Nat} (hE : Ech l M p f) (hd : Dg a b (k : Int)) (hf : f k = some (c, d)) {e : Int} (he : Dg (a ^^^ c) (b ^^^ d) e) : e < (k : Int) := by
  rcases he.2 with h | ⟨j, h, hj⟩
  · omega
  · rcases Nat.lt_or_ge j k with hlt | hge
    · omega
    · exfalso
      rw [pb_plus] at hj
      have htop := hE.top k c d hf
      by_cases ejk : j = k
      · subst ejk
        have h1 : pb a b j = true := by
          rcases hd.2 with e1 | ⟨k', e1, hk'⟩
          · omega
          · obtain rfl : j = k' := by omega
            exact hk'
        rw [h1, htop.1] at hj; cases hj
      · rw [hd.1 j (by omega), htop.2 j (by omega)] at hj; cases hj

/-- The row tells nothing new. -/
theorem Ech.same {l : Nat → Bool} {M p : Nat} {f : Tbl} {a b : Nat} (hE : Ech l M p f) (h : Cur l M p f a b) (hM : M ≤ p) (hd : Dg a b (-1)) : Ech l M (p + 1) f := by
  refine ⟨hE.wd, hE.lo, hE.top, fun r hr => ?_⟩
  constructor
  · intro hA i h1 h2
    by_cases e : i = p
    · subst e
      exact (h.iff r hr hA).1 (hl_none (fun j => hd.1 j (by omega)))
    · exact (hE.iff r hr).1 hA i h1 (by omega)
  · exact fun hA => (hE.iff r hr).2 (fun i h1 h2 => hA i h1 (by omega))

/-- The row can't be held to. -/
theorem Ech.never {l : Nat → Bool} {M p N : Nat} {f : Tbl} {a b : Nat} (hE : Ech l M p f) (h : Cur l M p f a b) (hM : M ≤ p) (hN : p < N) (hd : Dg a b 0) : ¬ ∃ t, Makes l M N t := by
  rintro ⟨t, ht⟩
  have hk := makes_mk.1 ht
  have hr := (makes_rl M t).1
  generalize (fun j => if j = 0 then true else if j ≤ M then t (j - 1) else false) = r at *
  have hall : ∀ i, M ≤ i → i < N → Hl M r (rwp l M i) := fun i h1 h2 => hl_dl.2 (hk i h1 h2)
  have hA := (hE.iff r hr).2 (fun i h1 h2 => hall i h1 (by omega))
  have h0 : pb a b 0 = true := by
    rcases hd.2 with e | ⟨k, e, hk⟩
    · omega
    · obtain rfl : k = 0 := by omega
      exact hk
  exact hl_one h0 (fun i hi => hd.1 i (by omega)) hr ((h.iff r hr hA).2 (hall p hM hN))

/-- A row more. -/
def addT (f : Tbl) (k a b : Nat) : Tbl := fun j => if j = k then some (a, b) else f j

theorem Ech.add {l : Nat → Bool} {M p : Nat} {f : Tbl} {a b k : Nat} (hE : Ech l M p f) (h : Cur l M p f a b) (hM : M ≤ p) (hd : Dg a b (k : Int)) (hk : 1 ≤ k) (hf : f k = none) : Ech l M (p + 1) (addT f k a b) := by
  have htop : pb a b k = true := by
    rcases hd.2 with e | ⟨k', e, hk'⟩
    · omega
    · obtain rfl : k = k' := by omega
      exact hk'
  have hkM : k ≤ M := by
    rcases Nat.lt_or_ge M k with h1 | h1
    · rw [h.far k h1] at htop; cases htop
    · exact h1
  have inv : ∀ j c d, addT f k a b j = some (c, d) → (j = k ∧ c = a ∧ d = b) ∨ (j ≠ k ∧ f j = some (c, d)) := fun j c d e => by
    unfold addT at e
    by_cases ej : j = k
    · rw [if_pos ej] at e
      have := Option.some.inj e
      exact .inl ⟨ej, (Prod.mk.inj this).1.symm, (Prod.mk.inj this).2.symm⟩
    · rw [if_neg ej] at e; exact .inr ⟨ej, e⟩
  have hAll : ∀ r, AllT M (addT f k a b) r ↔ AllT M f r ∧ Hl M r (pb a b) := fun r => by
    constructor
    · intro hA
      refine ⟨fun j c d e => hA j c d ?_, hA k a b (by unfold addT; rw [if_pos rfl])⟩
      unfold addT
      rw [if_neg (fun ej => by rw [ej, hf] at e; cases e)]
      exact e
    · rintro ⟨hA, hB⟩ j c d e
      rcases inv j c d e with ⟨_, rfl, rfl⟩ | ⟨_, e2⟩
      · exact hB
      · exact hA j c d e2
  refine ⟨fun j c d e => ?_, fun j c d e => ?_, fun j c d e => ?_, fun r hr => ?_⟩
  · rcases inv j c d e with ⟨rfl, rfl, rfl⟩ | ⟨_, e2⟩
    · exact h.wd
    · exact hE.wd j c d e2
  · rcases inv j c d e with ⟨rfl, rfl, rfl⟩ | ⟨_, e2⟩
    · exact ⟨hk, hkM⟩
    · exact hE.lo j c d e2
  · rcases inv j c d e with ⟨rfl, rfl, rfl⟩ | ⟨_, e2⟩
    · exact ⟨htop, fun i hi => hd.1 i (by omega)⟩
    · exact hE.top j c d e2
  · rw [hAll]
    constructor
    · rintro ⟨hA, hB⟩ i h1 h2
      by_cases e : i = p
      · subst e; exact (h.iff r hr hA).1 hB
      · exact (hE.iff r hr).1 hA i h1 (by omega)
    · intro hA
      have hA' := (hE.iff r hr).2 (fun i h1 h2 => hA i h1 (by omega))
      exact ⟨hA', (h.iff r hr hA').2 (hA p hM (by omega))⟩

/-! ### the least rule -/

/-- The rule so far: all taps ahead of i. -/
structure Lst (f : Tbl) (i a b : Nat) : Prop where
  wd : Wd a b
  zero : pb a b 0 = true
  far : ∀ j, i ≤ j → 0 < j → pb a b j = false
  hold : ∀ k c d, k < i → f k = some (c, d) → xs (k + 1) (fun j => pb c d j && pb a b j) = false
  must : ∀ k, 1 ≤ k → k < i → pb a b k = true → ∃ c d, f k = some (c, d) ∧ xs k (fun j => pb c d j && pb a b j) = true

theorem Lst.start {f : Tbl} {l : Nat → Bool} {M p : Nat} (hE : Ech l M p f) {a b : Nat} (h : Wd a b) (hb : ∀ j, pb a b j = decide (j = 0)) : Lst f 1 a b :=
  ⟨h, by rw [hb]; rfl, fun j _ h0 => by rw [hb]; simp; omega, fun k c d hk e => by have := hE.lo k c d e; omega, fun k h1 h2 _ => by omega⟩

theorem odd_at {f : Tbl} {l : Nat → Bool} {M p i a b c d : Nat} (hE : Ech l M p f) (h : Lst f i a b) (hi : i ≤ 127) (hi1 : 1 ≤ i) (hf : f i = some (c, d)) : xs 128 (fun j => pb c d j && pb a b j) = xs i (fun j => pb c d j && pb a b j) :=
  xs_upto (by omega) (fun k hk => by rw [h.far k hk (by omega)]; cases pb c d k <;> rfl)

/-- The tap is set. -/
theorem Lst.set {f : Tbl} {l : Nat → Bool} {M p i a b c d a' b' : Nat} (hE : Ech l M p f) (h : Lst f i a b) (hi1 : 1 ≤ i) (hf : f i = some (c, d)) (hodd : xs i (fun j => pb c d j && pb a b j) = true) (hw : Wd a' b') (hb : ∀ j, pb a' b' j = (pb a b j || decide (j = i))) : Lst f (i + 1) a' b' := by
  have low : ∀ j, j < i → pb a' b' j = pb a b j := fun j hj => by
    rw [hb]
    have : decide (j = i) = false := by simp; omega
    rw [this, Bool.or_false]
  have top : pb a' b' i = true := by rw [hb]; simp
  refine ⟨hw, by rw [low 0 (by omega)]; exact h.zero, fun j hj h0 => ?_, fun k x y hk e => ?_, fun k h1 h2 hk => ?_⟩
  · rw [hb, h.far j (by omega) h0]; simp; omega
  · by_cases ek : k = i
    · subst ek
      rw [hf] at e
      obtain ⟨rfl, rfl⟩ := Prod.mk.inj (Option.some.inj e)
      show xor (xs k (fun j => pb c d j && pb a' b' j)) (pb c d k && pb a' b' k) = false
      rw [xs_congr (f := fun j => pb c d j && pb a' b' j) (g := fun j => pb c d j && pb a b j) (fun j hj => by rw [low j hj]), hodd, top, (hE.top k c d hf).1]
      rfl
    · rw [xs_congr (f := fun j => pb x y j && pb a' b' j) (g := fun j => pb x y j && pb a b j) (fun j hj => by rw [low j (by omega)])]
      exact h.hold k x y (by omega) e
  · by_cases ek : k = i
    · subst ek
      refine ⟨c, d, hf, ?_⟩
      rw [xs_congr (f := fun j => pb c d j && pb a' b' j) (g := fun j => pb c d j && pb a b j) (fun j hj => by rw [low j hj])]
      exact hodd
    · rw [low k (by omega)] at hk
      obtain ⟨x, y, e1, e2⟩ := h.must k h1 (by omega) hk
      refine ⟨x, y, e1, ?_⟩
      rw [xs_congr (f := fun j => pb x y j && pb a' b' j) (g := fun j => pb x y j && pb a b j) (fun j hj => by rw [low j (by omega)])]
      exact e2

/-- The tap is not set. -/
theorem Lst.skip {f : Tbl} {i a b : Nat} (h : Lst f i a b) (hi1 : 1 ≤ i) (hf : ∀ c d, f i = some (c, d) → xs i (fun j => pb c d j && pb a b j) = false) : Lst f (i + 1) a b := by
  refine ⟨h.wd, h.zero, fun j hj h0 => h.far j (by omega) h0, fun k x y hk e => ?_, fun k h1 h2 hk => ?_⟩
  · by_cases ek : k = i
    · subst ek
      show xor (xs k (fun j => pb x y j && pb a b j)) (pb x y k && pb a b k) = false
      rw [hf x y e, h.far k (by omega) (by omega)]
      cases pb x y k <;> rfl
    · exact h.hold k x y (by omega) e
  · by_cases ek : k = i
    · subst ek
      rw [h.far k (by omega) (by omega)] at hk; cases hk
    · exact h.must k h1 (by omega) hk

/-- The rule that is told. -/
theorem Lst.first {l : Nat → Bool} {M N a b : Nat} {f : Tbl} (hE : Ech l M N f) (h : Lst f (M + 1) a b) : FirstOf l M N (fun k => pb a b (k + 1)) := by
  have hA : AllT M f (pb a b) := fun k c d e => by
    have hlo := hE.lo k c d e
    unfold Hl
    rw [xs_upto (n := k + 1) (by omega) (fun j hj => by rw [(hE.top k c d e).2 j (by omega)]; rfl)]
    exact h.hold k c d (by omega) e
  have hrows := (hE.iff _ h.zero).1 hA
  refine ⟨makes_mk.2 (fun i h1 h2 => ?_), fun j hj htj => ?_⟩
  · have := hl_dl.1 (hrows i h1 h2)
    refine Eq.trans ?_ this
    unfold Dl
    refine xs_congr (fun j hj => ?_)
    show ((if j = 0 then true else if j ≤ M then pb a b (j - 1 + 1) else false) && l (i - j)) = (pb a b j && l (i - j))
    by_cases e : j = 0
    · subst e; rw [if_pos rfl, h.zero]
    · rw [if_neg e, if_pos (by omega), show j - 1 + 1 = j by omega]
  · rintro ⟨t', ht', hlow, hoff⟩
    obtain ⟨c, d, hf, hodd⟩ := h.must (j + 1) (by omega) (by omega) htj
    have hk := makes_mk.1 ht'
    have hr := (makes_rl M t').1
    have hr1 : ∀ i, i ≤ j → (fun j => if j = 0 then true else if j ≤ M then t' (j - 1) else false) i = pb a b i := fun i hi => by
      show (if i = 0 then true else if i ≤ M then t' (i - 1) else false) = _
      by_cases e : i = 0
      · subst e; rw [if_pos rfl, h.zero]
      · rw [if_neg e, if_pos (by omega), hlow (i - 1) (by omega)]
        show pb a b (i - 1 + 1) = _
        rw [show i - 1 + 1 = i by omega]
    have hr2 : (fun j => if j = 0 then true else if j ≤ M then t' (j - 1) else false) (j + 1) = false := by
      show (if j + 1 = 0 then true else if j + 1 ≤ M then t' (j + 1 - 1) else false) = _
      rw [if_neg (by omega), if_pos (by omega), Nat.add_sub_cancel, hoff]
    generalize (fun j => if j = 0 then true else if j ≤ M then t' (j - 1) else false) = r at *
    have hA' := (hE.iff r hr).2 (fun i h1 h2 => hl_dl.2 (hk i h1 h2))
    have hh := hA' (j + 1) c d hf
    unfold Hl at hh
    rw [xs_upto (n := j + 2) (by omega) (fun i hi => by rw [(hE.top (j + 1) c d hf).2 i (by omega)]; rfl)] at hh
    have hh2 : xor (xs (j + 1) (fun i => pb c d i && r i)) (pb c d (j + 1) && r (j + 1)) = false := hh
    rw [hr2, Bool.and_false, Bool.xor_false, xs_congr (f := fun i => pb c d i && r i) (g := fun i => pb c d i && pb a b i) (fun i hi => by rw [hr1 i (by omega)]), hodd] at hh2
    cases hh2

/-- .. when none with fewer taps is. -/
theorem Lst.short {l : Nat → Bool} {M N a b : Nat} {f : Tbl} (hE : Ech l M N f) (h : Lst f (M + 1) a b) (hmin : ∀ T, T < M → ¬ ∃ t, Makes l T N t) : ShortIs l N M (fun k => pb a b (k + 1)) := by
  refine ⟨h.first hE, fun T' t' ht' => ?_⟩
  rcases Nat.lt_or_ge T' M with h1 | h1
  · exact absurd ⟨t', ht'⟩ (hmin T' h1)
  · exact h1

theorem Lst.ex {l : Nat → Bool} {M N : Nat} {f : Tbl} (hE : Ech l M N f) : ∀ i : Nat, i ≤ 127 → ∃ a b, Lst f (i + 1) a b
  | 0, _ => ⟨0 ||| 2 ^ 0, 0, Lst.start hE (wd_with_lo ⟨by decide, by decide⟩ (by decide)) (fun j => by rw [pb_with_lo (by decide), pb_zero, Bool.false_or])⟩
  | i + 1, hi => by
    obtain ⟨a, b, h⟩ := Lst.ex hE i (by omega)
    rcases Classical.em (∃ c d, f (i + 1) = some (c, d) ∧ xs (i + 1) (fun j => pb c d j && pb a b j) = true) with ⟨c, d, h1, h2⟩ | hno
    · by_cases h64 : i + 1 < 64
      · exact ⟨_, _, h.set hE (by omega) h1 h2 (wd_with_lo h.wd h64) (fun j => pb_with_lo h64 j)⟩
      · exact ⟨_, _, h.set hE (by omega) h1 h2 (wd_with_hi h.wd (by omega) (by omega)) (fun j => pb_with_hi (by omega) j)⟩
    · refine ⟨a, b, h.skip (by omega) (fun c d hf => ?_)⟩
      cases hx : xs (i + 1) (fun j => pb c d j && pb a b j) with
      | false => rfl
      | true => exact absurd ⟨c, d, hf, hx⟩ hno

theorem ech_ex {l : Nat → Bool} {M N : Nat} {f : Tbl} (hM : M ≤ 127) (hE : Ech l M N f) : ∃ t, Makes l M N t := by
  obtain ⟨a, b, h⟩ := Lst.ex hE M hM
  exact ⟨_, (h.first hE).1⟩

/-- Of several rules with as many taps there is one whose first taps are not set. -/
theorem first_ex {l : Nat → Bool} {T N : Nat} (h : ∃ t, Makes l T N t) : ∃ t, FirstOf l T N t := by
  have key : ∀ m : Nat, m ≤ T → ∃ b : Nat → Bool, (∃ t, Makes l T N t ∧ ∀ k, k < m → t k = b k) ∧ ∀ j, j < m → b j = true → ¬ ∃ t', Makes l T N t' ∧ (∀ k, k < j → t' k = b k) ∧ t' j = false := by
    intro m
    induction m with
    | zero =>
      intro _
      obtain ⟨t, ht⟩ := h
      exact ⟨t, ⟨t, ht, fun k hk => by omega⟩, fun j hj => by omega⟩
    | succ m ih =>
      intro hm
      obtain ⟨b, hb, hmin⟩ := ih (by omega)
      have hs := first_step (show m < T by omega) hb
      have low : ∀ v k, k < m → put b m v k = b k := fun v k hk => by unfold put; rw [if_neg (by omega)]
      rcases Classical.em (∃ t, Makes l T N t ∧ ∀ k, k < m + 1 → t k = put b m false k) with h1 | h1
      · refine ⟨put b m false, h1, fun j hj hbj => ?_⟩
        by_cases e : j = m
        · subst e; unfold put at hbj; rw [if_pos rfl] at hbj; cases hbj
        · rw [low _ _ (by omega)] at hbj
          rintro ⟨t', k1, k2, k3⟩
          exact hmin j (by omega) hbj ⟨t', k1, fun k hk => by rw [k2 k hk, low _ _ (by omega)], k3⟩
      · obtain ⟨h2, h3⟩ := hs.2 h1
        refine ⟨put b m true, h2, fun j hj hbj => ?_⟩
        by_cases e : j = m
        · subst e
          rintro ⟨t', k1, k2, k3⟩
          exact h3 ⟨t', k1, fun k hk => by rw [k2 k hk, low _ _ hk], k3⟩
        · rw [low _ _ (by omega)] at hbj
          rintro ⟨t', k1, k2, k3⟩
          exact hmin j (by omega) hbj ⟨t', k1, fun k hk => by rw [k2 k hk, low _ _ (by omega)], k3⟩
  obtain ⟨b, ⟨t, h1, h2⟩, h3⟩ := key T (Nat.le_refl T)
  refine ⟨b, (makes_congr h2).1 h1, h3⟩

/-- At as many taps as bits no row is asked: so there is always one. -/
theorem makes_all (l : Nat → Bool) (N : Nat) : ∃ t, Makes l N N t := ⟨fun _ => false, fun i h1 h2 => by omega⟩

/-- There is a shortest rule, with no more taps than bits. -/
theorem short_ex (l : Nat → Bool) (N : Nat) : ∃ T t, ShortIs l N T t ∧ T ≤ N := by
  have key : ∀ n : Nat, (∃ t, Makes l n N t) → ∃ T, T ≤ n ∧ (∃ t, Makes l T N t) ∧ ∀ T', T' < T → ¬ ∃ t, Makes l T' N t := by
    intro n
    induction n using Nat.strongRecOn with
    | ind n ih =>
      intro h
      rcases Classical.em (∃ T', T' < n ∧ ∃ t, Makes l T' N t) with ⟨T', h1, h2⟩ | hno
      · obtain ⟨T, k1, k2, k3⟩ := ih T' h1 h2
        exact ⟨T, by omega, k2, k3⟩
      · exact ⟨n, Nat.le_refl _, h, fun T' h1 h2 => hno ⟨T', h1, h2⟩⟩
  obtain ⟨T, h1, h2, h3⟩ := key N (makes_all l N)
  obtain ⟨t, ht⟩ := first_ex h2
  refine ⟨T, t, ⟨ht, fun T' t' ht' => ?_⟩, h1⟩
  rcases Nat.lt_or_ge T' T with h4 | h4
  · exact absurd ⟨t', ht'⟩ (h3 T' h4)
  · exact h4

end Go.Proofs.Ytfomanpehfdnbaa.Num65
