/-
  Plain arithmetic: the shortest rule of a row of bits: Berlekamp, Massey.
-/
namespace Go.Proofs.Ytfomanpehfdnbaa.Num44
set_option linter.unusedVariables false

/-! ### whether an odd number of them is set -/

def xs : Nat → (Nat → Bool) → Bool
  | 0, _ => false
  | n + 1, f => xor (xs n f) (f n)

theorem xs_congr : ∀ {n : Nat} {f g : Nat → Bool}, (∀ k, k < n → f k = g k) → xs n f = xs n g
  | 0, _, _, _ => rfl
  | n + 1, f, g, h => by
    show xor (xs n f) (f n) = xor (xs n g) (g n)
    rw [xs_congr (fun k hk => h k (by omega)), h n (by omega)]

theorem xs_false : ∀ {n : Nat} {f : Nat → Bool}, (∀ k, k < n → f k = false) → xs n f = false
  | 0, _, _ => rfl
  | n + 1, f, h => by
    show xor (xs n f) (f n) = false
    rw [xs_false (fun k hk => h k (by omega)), h n (by omega)]; rfl

theorem xs_xor : ∀ (n : Nat) (f g : Nat → Bool), xs n (fun k => xor (f k) (g k)) = xor (xs n f) (xs n g)
  | 0, _, _ => rfl
  | n + 1, f, g => by
    show xor (xs n (fun k => xor (f k) (g k))) (xor (f n) (g n)) = xor (xor (xs n f) (f n)) (xor (xs n g) (g n))
    rw [xs_xor n f g]
    cases xs n f <;> cases xs n g <;> cases f n <;> cases g n <;> rfl

theorem xs_and (c : Bool) : ∀ (n : Nat) (f : Nat → Bool), xs n (fun k => c && f k) = (c && xs n f)
  | 0, _ => by cases c <;> rfl
  | n + 1, f => by
    show xor (xs n (fun k => c && f k)) (c && f n) = (c && xor (xs n f) (f n))
    rw [xs_and c n f]
    cases c <;> cases xs n f <;> cases f n <;> rfl

theorem xs_comm (m : Nat) : ∀ (n : Nat) (f : Nat → Nat → Bool), xs n (fun a => xs m (fun b => f a b)) = xs m (fun b => xs n (fun a => f a b))
  | 0, f => (xs_false (fun _ _ => rfl)).symm
  | n + 1, f => by
    show xor (xs n (fun a => xs m (fun b => f a b))) (xs m (fun b => f n b)) = xs m (fun b => xor (xs n (fun a => f a b)) (f n b))
    rw [xs_comm m n f, xs_xor]

theorem xs_add (a : Nat) (f : Nat → Bool) : ∀ b : Nat, xs (a + b) f = xor (xs a f) (xs b (fun j => f (a + j)))
  | 0 => by show xs a f = xor (xs a f) false; cases xs a f <;> rfl
  | b + 1 => by
    show xor (xs (a + b) f) (f (a + b)) = xor (xs a f) (xor (xs b (fun j => f (a + j))) (f (a + b)))
    rw [xs_add a f b]
    cases xs a f <;> cases xs b (fun j => f (a + j)) <;> cases f (a + b) <;> rfl

theorem xs_front (n : Nat) (f : Nat → Bool) : xs (n + 1) f = xor (f 0) (xs n (fun k => f (k + 1))) := by
  have h := xs_add 1 f n
  rw [Nat.add_comm 1 n] at h
  rw [h]
  have e : xs 1 f = f 0 := by show xor false (f 0) = f 0; cases f 0 <;> rfl
  have e2 : (fun j => f (1 + j)) = (fun k => f (k + 1)) := by funext k; rw [Nat.add_comm]
  rw [e, e2]

/-! ### rules -/

/-- A rule with L taps, a 1 ahead of them. -/
def Rl (C : Nat → Bool) (L : Nat) : Prop := C 0 = true ∧ ∀ j, L < j → C j = false

/-- By how much the bit i is off. -/
def Dl (s C : Nat → Bool) (L i : Nat) : Bool := xs (L + 1) (fun j => C j && s (i - j))

/-- The rule makes the first N bits. -/
def Mk (s C : Nat → Bool) (L N : Nat) : Prop := ∀ i, L ≤ i → i < N → Dl s C L i = false

theorem Dl_more {s C : Nat → Bool} {L M : Nat} (hC : Rl C L) (h : L ≤ M) (i : Nat) : Dl s C M i = Dl s C L i := by
  unfold Dl
  obtain ⟨d, rfl⟩ : ∃ d, M = L + d := ⟨M - L, by omega⟩
  rw [show L + d + 1 = (L + 1) + d by omega, xs_add]
  rw [xs_false (n := d) (fun k _ => by show (C (L + 1 + k) && _) = false; rw [hC.2 (L + 1 + k) (by omega)]; rfl)]
  cases xs (L + 1) (fun j => C j && s (i - j)) <;> rfl

theorem Mk.less {s C : Nat → Bool} {L N N' : Nat} (h : Mk s C L N) (hN : N' ≤ N) : Mk s C L N' := fun i h1 h2 => h i h1 (by omega)

/-- MASSEY: what makes one bit more than a rule that fails there. -/
theorem lower {s C C' : Nat → Bool} {L L' N : Nat} (hC : Rl C L) (hL : L ≤ N) (hM : Mk s C L N) (hD : Dl s C L N = true) (hC' : Rl C' L') (hM' : Mk s C' L' (N + 1)) : N + 1 ≤ L + L' := by
  rcases Nat.lt_or_ge N (L + L') with h | h
  · omega
  exfalso
  have h1 : xs (L + 1) (fun j => C j && Dl s C' L' (N - j)) = false := xs_false (fun j hj => by
    rw [hM' (N - j) (by omega) (by omega)]
    cases C j <;> rfl)
  have h2 : xs (L' + 1) (fun j => C' j && Dl s C L (N - j)) = true := by
    rw [xs_front]
    have e : xs L' (fun k => C' (k + 1) && Dl s C L (N - (k + 1))) = false := xs_false (fun k hk => by
      rw [hM (N - (k + 1)) (by omega) (by omega)]
      cases C' (k + 1) <;> rfl)
    rw [e, hC'.1, Nat.sub_zero, hD]; rfl
  have e1 : xs (L + 1) (fun j => C j && Dl s C' L' (N - j)) = xs (L + 1) (fun j => xs (L' + 1) (fun k => C j && (C' k && s (N - j - k)))) := xs_congr (fun j _ => by
    unfold Dl
    rw [← xs_and])
  have e2 : xs (L' + 1) (fun j => C' j && Dl s C L (N - j)) = xs (L' + 1) (fun k => xs (L + 1) (fun j => C j && (C' k && s (N - j - k)))) := xs_congr (fun k _ => by
    unfold Dl
    rw [← xs_and]
    refine xs_congr (fun j _ => ?_)
    rw [show N - k - j = N - j - k by omega]
    cases C j <;> cases C' k <;> rfl)
  rw [e1, xs_comm] at h1
  rw [e2] at h2
  rw [h1] at h2
  cases h2

/-! ### the shortest -/

/-- L taps are the fewest by which the first N bits can be made. -/
def Least (s : Nat → Bool) (N L : Nat) : Prop := (∃ C, Rl C L ∧ Mk s C L N) ∧ ∀ L' C', Rl C' L' → Mk s C' L' N → L ≤ L'

theorem Least.uniq {s : Nat → Bool} {N L L' : Nat} (h : Least s N L) (h' : Least s N L') : L = L' := by
  obtain ⟨⟨C, h1, h2⟩, h3⟩ := h
  obtain ⟨⟨C', k1, k2⟩, k3⟩ := h'
  have := h3 L' C' k1 k2
  have := k3 L C h1 h2
  omega

/-- What Berlekamp and Massey carry along. -/
def Bm (s : Nat → Bool) (N : Nat) (C : Nat → Bool) (L : Nat) : Prop :=
  Rl C L ∧ Mk s C L N ∧ L ≤ N ∧ (∀ L' C', Rl C' L' → Mk s C' L' N → L ≤ L') ∧
    (L = 0 ∨ ∃ m B K, m < N ∧ Rl B K ∧ K ≤ m ∧ Mk s B K m ∧ Dl s B K m = true ∧ L + K = m + 1)

def shf (t : Nat) (B : Nat → Bool) : Nat → Bool := fun j => if j < t then false else B (j - t)

theorem Dl_shf (s B : Nat → Bool) (t K i : Nat) : Dl s (shf t B) (t + K) i = Dl s B K (i - t) := by
  unfold Dl
  rw [show t + K + 1 = t + (K + 1) by omega, xs_add, xs_false (n := t) (fun k hk => by
    show (shf t B k && _) = false
    unfold shf
    rw [if_pos hk]; rfl)]
  have e : xs (K + 1) (fun j => shf t B (t + j) && s (i - (t + j))) = xs (K + 1) (fun j => B j && s (i - t - j)) := xs_congr (fun j _ => by
    unfold shf
    rw [if_neg (by omega), show t + j - t = j by omega, show i - (t + j) = i - t - j by omega])
  rw [e]
  cases xs (K + 1) (fun j => B j && s (i - t - j)) <;> rfl

theorem Dl_xor (s C B : Nat → Bool) (L i : Nat) : Dl s (fun j => xor (C j) (B j)) L i = xor (Dl s C L i) (Dl s B L i) := by
  unfold Dl
  rw [← xs_xor]
  refine xs_congr (fun j _ => ?_)
  show (xor (C j) (B j) && s (i - j)) = xor (C j && s (i - j)) (B j && s (i - j))
  cases C j <;> cases B j <;> cases s (i - j) <;> rfl

/-- The rule when a bit is off: it is mended by the rule before. -/
def mend (N m : Nat) (C B : Nat → Bool) : Nat → Bool := fun j => xor (C j) (shf (N - m) B j)

theorem shf_out {B : Nat → Bool} {K t : Nat} (hB : Rl B K) {j : Nat} (h : t + K < j) : shf t B j = false := by
  unfold shf
  rw [if_neg (by omega), hB.2 _ (by omega)]

theorem Bm.start (s : Nat → Bool) : Bm s 0 (fun j => decide (j = 0)) 0 :=
  ⟨⟨rfl, fun j hj => by simp; omega⟩, fun i _ h => absurd h (by omega), Nat.le_refl _, fun _ _ _ _ => Nat.zero_le _, .inl rfl⟩

theorem Bm.same {s : Nat → Bool} {N : Nat} {C : Nat → Bool} {L : Nat} (h : Bm s N C L) (hD : Dl s C L N = false) : Bm s (N + 1) C L := by
  obtain ⟨h1, h2, h3, h4, h5⟩ := h
  refine ⟨h1, fun i hi hN => ?_, by omega, fun L' C' k1 k2 => h4 L' C' k1 (k2.less (by omega)), ?_⟩
  · by_cases e : i = N
    · rw [e]; exact hD
    · exact h2 i hi (by omega)
  · rcases h5 with h5 | ⟨m, B, K, g1, g⟩
    · exact .inl h5
    · exact .inr ⟨m, B, K, by omega, g⟩

/-- At least so many, when it fails. -/
theorem fails_lower {s : Nat → Bool} {N : Nat} {C : Nat → Bool} {L : Nat} (hC : Rl C L) (hL : L ≤ N) (hM : Mk s C L N) (hD : Dl s C L N = true) {L' : Nat} {C' : Nat → Bool} (k1 : Rl C' L') (k2 : Mk s C' L' (N + 1)) : N + 1 - L ≤ L' := by
  have := lower hC hL hM hD k1 k2
  omega

theorem Bm.next {s : Nat → Bool} {N : Nat} {C : Nat → Bool} {L : Nat} (h : Bm s N C L) (hD : Dl s C L N = true) :
    ∃ C', Bm s (N + 1) C' (max L (N + 1 - L)) ∧ (L = 0 → C' = C) ∧ ∀ m B K, m < N → Rl B K → K ≤ m → Mk s B K m → Dl s B K m = true → L + K = m + 1 → L ≠ 0 → Rl (mend N m C B) (max L (N + 1 - L)) ∧ Mk s (mend N m C B) (max L (N + 1 - L)) (N + 1) := by
  obtain ⟨h1, h2, h3, h4, h5⟩ := h
  have low : ∀ L' C', Rl C' L' → Mk s C' L' (N + 1) → max L (N + 1 - L) ≤ L' := fun L' C' k1 k2 => by
    have a := h4 L' C' k1 (k2.less (by omega))
    have b := fails_lower h1 h3 h2 hD k1 k2
    omega
  have good : ∀ m B K, m < N → Rl B K → K ≤ m → Mk s B K m → Dl s B K m = true → L + K = m + 1 → L ≠ 0 → Rl (mend N m C B) (max L (N + 1 - L)) ∧ Mk s (mend N m C B) (max L (N + 1 - L)) (N + 1) := fun m B K g1 g2 g3 g4 g5 g6 hL0 => by
    have hsh : Rl (mend N m C B) (max L (N + 1 - L)) := by
      refine ⟨?_, fun j hj => ?_⟩
      · show xor (C 0) (shf (N - m) B 0) = true
        unfold shf
        rw [if_pos (by omega), h1.1]; rfl
      · show xor (C j) (shf (N - m) B j) = false
        rw [h1.2 j (by omega), shf_out g2 (by omega)]; rfl
    refine ⟨hsh, fun i hi hN => ?_⟩
    have hs2 : ∀ j, N - m + K < j → shf (N - m) B j = false := fun j hj => shf_out g2 hj
    have e1 : Dl s C (max L (N + 1 - L)) i = Dl s C L i := Dl_more h1 (by omega) i
    have e2 : Dl s (shf (N - m) B) (max L (N + 1 - L)) i = Dl s B K (i - (N - m)) := by
      rw [← Dl_shf]
      unfold Dl
      obtain ⟨d, hd⟩ : ∃ d, max L (N + 1 - L) = (N - m + K) + d := ⟨max L (N + 1 - L) - (N - m + K), by omega⟩
      rw [hd, show N - m + K + d + 1 = (N - m + K + 1) + d by omega, xs_add, xs_false (n := d) (fun k _ => by
        show (shf (N - m) B (N - m + K + 1 + k) && _) = false
        rw [hs2 _ (by omega)]; rfl)]
      cases xs (N - m + K + 1) (fun j => shf (N - m) B j && s (i - j)) <;> rfl
    show Dl s (fun j => xor (C j) (shf (N - m) B j)) (max L (N + 1 - L)) i = false
    rw [Dl_xor, e1, e2]
    by_cases e : i = N
    · subst e
      rw [hD, show i - (i - m) = m by omega, g5]; rfl
    · rw [h2 i (by omega) (by omega), g4 (i - (N - m)) (by omega) (by omega)]; rfl
  by_cases hL0 : L = 0
  · subst hL0
    have e0 : max 0 (N + 1 - 0) = N + 1 := by omega
    rw [e0]
    refine ⟨C, ⟨⟨h1.1, fun j hj => h1.2 j (by omega)⟩, fun i hi hN => by omega, Nat.le_refl _, fun L' C' k1 k2 => by have := low L' C' k1 k2; omega, .inr ⟨N, C, 0, by omega, h1, by omega, h2, hD, by omega⟩⟩, fun _ => rfl, fun m B K _ _ _ _ _ _ hL0 => absurd rfl hL0⟩
  · obtain ⟨m, B, K, g1, g2, g3, g4, g5, g6⟩ := h5.resolve_left hL0
    obtain ⟨k1, k2⟩ := good m B K g1 g2 g3 g4 g5 g6 hL0
    refine ⟨mend N m C B, ⟨k1, k2, by omega, low, ?_⟩, fun e => absurd e hL0, good⟩
    by_cases hc : N + 1 - L ≤ L
    · refine .inr ⟨m, B, K, by omega, g2, g3, g4, g5, by omega⟩
    · exact .inr ⟨N, C, L, by omega, h1, h3, h2, hD, by omega⟩

theorem bm_ex (s : Nat → Bool) : ∀ N, ∃ C L, Bm s N C L
  | 0 => ⟨_, 0, Bm.start s⟩
  | N + 1 => by
    obtain ⟨C, L, h⟩ := bm_ex s N
    cases hD : Dl s C L N with
    | false => exact ⟨C, L, h.same hD⟩
    | true =>
      obtain ⟨C', h', _⟩ := h.next hD
      exact ⟨C', _, h'⟩

theorem Bm.least {s : Nat → Bool} {N : Nat} {C : Nat → Bool} {L : Nat} (h : Bm s N C L) : Least s N L := ⟨⟨C, h.1, h.2.1⟩, h.2.2.2.1⟩

/-- MASSEY: one bit more: it is made, too. -/
theorem grows_same {s : Nat → Bool} {N L : Nat} (h : Least s N L) {C : Nat → Bool} (hC : Rl C L) (hM : Mk s C L (N + 1)) : Least s (N + 1) L :=
  ⟨⟨C, hC, hM⟩, fun L' C' k1 k2 => h.2 L' C' k1 (k2.less (by omega))⟩

/-- MASSEY: one bit more: it is another one. -/
theorem grows {s : Nat → Bool} {N L : Nat} (h : Least s N L) {C : Nat → Bool} (hC : Rl C L) (hM : Mk s C L N) (hD : Dl s C L N = true) : Least s (N + 1) (max L (N + 1 - L)) ∧ L ≤ N := by
  obtain ⟨C0, L0, hB⟩ := bm_ex s N
  have e := hB.least.uniq h
  subst e
  have hLN := hB.2.2.1
  refine ⟨?_, hLN⟩
  have low : ∀ L' C', Rl C' L' → Mk s C' L' (N + 1) → max L0 (N + 1 - L0) ≤ L' := fun L' C' k1 k2 => by
    have a := h.2 L' C' k1 (k2.less (by omega))
    have b := fails_lower hC hLN hM hD k1 k2
    omega
  cases hD0 : Dl s C0 L0 N with
  | true =>
    obtain ⟨C', h', _⟩ := hB.next hD0
    exact h'.least
  | false =>
    have h' := (hB.same hD0).least
    obtain ⟨⟨C1, k1, k2⟩, k3⟩ := h'
    have := low L0 C1 k1 k2
    have e : max L0 (N + 1 - L0) = L0 := by omega
    rw [e]
    exact ⟨⟨C1, k1, k2⟩, k3⟩

/-- MASSEY: no other one. -/
theorem only {s : Nat → Bool} {N L : Nat} (h : Least s N L) (h2 : 2 * L ≤ N) {C C' : Nat → Bool} (hC : Rl C L) (hM : Mk s C L N) (hC' : Rl C' L) (hM' : Mk s C' L N) : ∀ j, C j = C' j := by
  rcases Classical.em (∀ j, C j = C' j) with k | k
  · exact k
  exfalso
  have hex : ∃ j, C j ≠ C' j := by
    rcases Classical.em (∃ j, C j ≠ C' j) with q | q
    · exact q
    · exact absurd (fun j => by
        rcases Classical.em (C j = C' j) with r | r
        · exact r
        · exact absurd ⟨j, r⟩ q) k
  -- the first place where they differ
  have hfirst : ∀ n, (∃ j, j < n ∧ C j ≠ C' j) → ∃ j, C j ≠ C' j ∧ ∀ i, i < j → C i = C' i := fun n => by
    induction n with
    | zero => rintro ⟨j, hj, _⟩; omega
    | succ n ih =>
      rintro ⟨j, hj, hne⟩
      rcases Classical.em (∃ j, j < n ∧ C j ≠ C' j) with q | q
      · exact ih q
      · refine ⟨j, hne, fun i hi => ?_⟩
        rcases Classical.em (C i = C' i) with r | r
        · exact r
        · exact absurd ⟨i, by omega, r⟩ q
  obtain ⟨j0, hj0⟩ := hex
  obtain ⟨k0, hne, hlow⟩ := hfirst (j0 + 1) ⟨j0, by omega, hj0⟩
  have hk0 : 1 ≤ k0 ∧ k0 ≤ L := by
    constructor
    · rcases Nat.eq_zero_or_pos k0 with e | e
      · subst e; rw [hC.1, hC'.1] at hne; exact absurd rfl hne
      · exact e
    · rcases Nat.lt_or_ge L k0 with e | e
      · rw [hC.2 k0 e, hC'.2 k0 e] at hne; exact absurd rfl hne
      · exact e
  -- the shorter rule
  have hR : Rl (fun j => xor (C (k0 + j)) (C' (k0 + j))) (L - k0) := by
    refine ⟨?_, fun j hj => ?_⟩
    · show xor (C (k0 + 0)) (C' (k0 + 0)) = true
      rw [Nat.add_zero]
      cases hc : C k0 <;> cases hc' : C' k0 <;> simp_all
    · show xor (C (k0 + j)) (C' (k0 + j)) = false
      rw [hC.2 _ (by omega), hC'.2 _ (by omega)]; rfl
  have hD : ∀ i, L ≤ i → i < N → Dl s (fun j => xor (C (k0 + j)) (C' (k0 + j))) (L - k0) (i - k0) = false := fun i h1 h2 => by
    have e := Dl_xor s C C' L i
    rw [hM i h1 h2, hM' i h1 h2] at e
    unfold Dl at e ⊢
    rw [show L + 1 = k0 + (L - k0 + 1) by omega, xs_add, xs_false (n := k0) (fun j hj => by
      show (xor (C j) (C' j) && s (i - j)) = false
      rw [hlow j hj]
      cases C' j <;> rfl)] at e
    have e2 : xs (L - k0 + 1) (fun j => xor (C (k0 + j)) (C' (k0 + j)) && s (i - k0 - j)) = xs (L - k0 + 1) (fun j => xor (C (k0 + j)) (C' (k0 + j)) && s (i - (k0 + j))) := xs_congr (fun j _ => by rw [show i - k0 - j = i - (k0 + j) by omega])
    rw [e2]
    generalize xs (L - k0 + 1) (fun j => xor (C (k0 + j)) (C' (k0 + j)) && s (i - (k0 + j))) = z at *
    cases z
    · rfl
    · exact absurd e (by decide)
  have hMs : Mk s (fun j => xor (C (k0 + j)) (C' (k0 + j))) (L - k0) (N - k0) := fun i h1 h2 => by
    have := hD (i + k0) (by omega) (by omega)
    rwa [show i + k0 - k0 = i by omega] at this
  -- where it fails
  have hfail : ∀ d, (Mk s (fun j => xor (C (k0 + j)) (C' (k0 + j))) (L - k0) (N - k0 + d) → False) → ∃ n, N - k0 ≤ n ∧ n < N - k0 + d ∧ Mk s (fun j => xor (C (k0 + j)) (C' (k0 + j))) (L - k0) n ∧ Dl s (fun j => xor (C (k0 + j)) (C' (k0 + j))) (L - k0) n = true := fun d => by
    induction d with
    | zero => intro q; exact absurd hMs q
    | succ d ih =>
      intro q
      rcases Classical.em (Mk s (fun j => xor (C (k0 + j)) (C' (k0 + j))) (L - k0) (N - k0 + d)) with r | r
      · refine ⟨N - k0 + d, by omega, by omega, r, ?_⟩
        cases hz : Dl s (fun j => xor (C (k0 + j)) (C' (k0 + j))) (L - k0) (N - k0 + d) with
        | true => rfl
        | false =>
          exact absurd (fun i h1 h2 => by
            by_cases e : i = N - k0 + d
            · rw [e]; exact hz
            · exact r i h1 (by omega)) q
      · obtain ⟨n, a1, a2, a3, a4⟩ := ih r
        exact ⟨n, a1, by omega, a3, a4⟩
  obtain ⟨n, a1, a2, a3, a4⟩ := hfail k0 (fun q => by
    have := h.2 (L - k0) _ hR (q.less (by omega))
    omega)
  have := lower hR (by omega) a3 a4 hC (hM.less (by omega))
  omega

end Go.Proofs.Ytfomanpehfdnbaa.Num44
