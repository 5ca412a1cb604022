/-
  Plain arithmetic: primes, Euler, roots by a prime, squares, liars.
-/

namespace Go.Proofs.Ytpnmepobdnclkaa.Num
set_option linter.unusedVariables false

/-- A prime. -/
def Pr (n : Nat) : Prop := 2 ≤ n ∧ ∀ d, d ∣ n → d = 1 ∨ d = n

theorem Pr.two {p : Nat} (h : Pr p) : 2 ≤ p := h.1

theorem Pr.dvd_mul {p a b : Nat} (h : Pr p) (hd : p ∣ a * b) : p ∣ a ∨ p ∣ b := by
  rcases h.2 (Nat.gcd p a) (Nat.gcd_dvd_left p a) with e | e
  · right
    exact Nat.Coprime.dvd_of_dvd_mul_left e hd
  · left
    rw [← e]
    exact Nat.gcd_dvd_right p a

theorem Pr.dvd_pow {p q : Nat} (h : Pr p) : ∀ {k : Nat}, p ∣ q ^ k → p ∣ q
  | 0, hd => by
    have := Nat.le_of_dvd (by simp) hd
    have := h.1
    simp at *
    omega
  | k + 1, hd => by
    rw [Nat.pow_succ] at hd
    rcases h.dvd_mul hd with h1 | h1
    · exact Pr.dvd_pow h h1
    · exact h1

theorem Pr.eq_of_dvd {p q : Nat} (h : Pr p) (hq : Pr q) (hd : p ∣ q) : p = q := by
  rcases hq.2 p hd with e | e
  · have := h.1; omega
  · exact e

/-- What nothing from 2 up to its root divides is a prime. -/
theorem pr_of_small {n : Nat} (h2 : 2 ≤ n) (h : ∀ d, 2 ≤ d → d * d ≤ n → ¬ d ∣ n) : Pr n := by
  refine ⟨h2, fun d hd => ?_⟩
  obtain ⟨e, rfl⟩ := hd
  by_cases h1 : d = 1
  · exact .inl h1
  · right
    have hd0 : d ≠ 0 := by intro h0; subst h0; simp at h2
    have he0 : e ≠ 0 := by intro h0; subst h0; simp at h2
    by_cases he1 : e = 1
    · subst he1; simp
    · exfalso
      by_cases hle : d ≤ e
      · exact h d (by omega) (Nat.mul_le_mul_left d hle) (Nat.dvd_mul_right d e)
      · exact h e (by omega) (Nat.mul_le_mul_right e (by omega)) (Nat.dvd_mul_left e d)

theorem not_pr_of_dvd {n d : Nat} (h2 : 2 ≤ d) (hlt : d < n) (hd : d ∣ n) : ¬ Pr n := by
  intro h
  rcases h.2 d hd with e | e <;> omega

/-- The product of a list of powers. -/
def pd : List (Nat × Nat) → Nat
  | [] => 1
  | x :: xs => x.1 ^ x.2 * pd xs

theorem pd_append (l m : List (Nat × Nat)) : pd (l ++ m) = pd l * pd m := by
  induction l with
  | nil => simp [pd]
  | cons x xs ih => simp [pd, ih, Nat.mul_assoc]

theorem pd_snoc (l : List (Nat × Nat)) (p k : Nat) : pd (l ++ [(p, k)]) = pd l * p ^ k := by
  rw [pd_append]; simp [pd]

/-- The primes of a number, rising, each with how often it divides. -/
def Fac (n : Nat) (l : List (Nat × Nat)) : Prop :=
  (∀ x ∈ l, Pr x.1 ∧ 1 ≤ x.2) ∧ l.Pairwise (fun x y => x.1 < y.1) ∧ pd l = n

theorem pd_pos {l : List (Nat × Nat)} (h : ∀ x ∈ l, Pr x.1 ∧ 1 ≤ x.2) : 1 ≤ pd l := by
  induction l with
  | nil => simp [pd]
  | cons x xs ih =>
    have h1 := ih (fun y hy => h y (by simp [hy]))
    have h2 : 1 ≤ x.1 ^ x.2 := Nat.pow_pos (by have := (h x (by simp)).1.1; omega)
    exact Nat.mul_le_mul h2 h1

theorem two_pow_le {p k : Nat} (h : 2 ≤ p) : 2 ^ k ≤ p ^ k := Nat.pow_le_pow_left h k

theorem two_le_pow {p k : Nat} (h : 2 ≤ p) (hk : 1 ≤ k) : 2 ≤ p ^ k := by
  have h1 : p ^ 1 ≤ p ^ k := Nat.pow_le_pow_right (by omega) hk
  simp at h1; omega

theorem pd_len {l : List (Nat × Nat)} (h : ∀ x ∈ l, Pr x.1 ∧ 1 ≤ x.2) : 2 ^ l.length ≤ pd l := by
  induction l with
  | nil => simp [pd]
  | cons x xs ih =>
    have h1 := ih (fun y hy => h y (by simp [hy]))
    have h2 := two_le_pow (h x (by simp)).1.1 (h x (by simp)).2
    rw [List.length_cons, Nat.pow_succ, Nat.mul_comm]
    exact Nat.mul_le_mul h2 h1

theorem pr_dvd_pd {p : Nat} (hp : Pr p) {l : List (Nat × Nat)} (h : ∀ x ∈ l, Pr x.1 ∧ 1 ≤ x.2) (hd : p ∣ pd l) : ∃ x ∈ l, x.1 = p := by
  induction l with
  | nil =>
    have := Nat.le_of_dvd (by simp [pd]) hd
    have := hp.1
    simp [pd] at *; omega
  | cons x xs ih =>
    rcases hp.dvd_mul hd with h1 | h1
    · exact ⟨x, by simp, ((hp.eq_of_dvd (h x (by simp)).1 (hp.dvd_pow h1))).symm⟩
    · obtain ⟨y, hy, e⟩ := ih (fun y hy => h y (by simp [hy])) h1
      exact ⟨y, by simp [hy], e⟩

theorem mem_dvd_pd {l : List (Nat × Nat)} (h : ∀ x ∈ l, Pr x.1 ∧ 1 ≤ x.2) {x : Nat × Nat} (hx : x ∈ l) : x.1 ∣ pd l := by
  induction l with
  | nil => simp at hx
  | cons y ys ih =>
    rcases List.mem_cons.1 hx with e | hm
    · subst e
      have h1 : x.1 ∣ x.1 ^ x.2 := by
        have := Nat.pow_dvd_pow x.1 (h x (by simp)).2
        simpa using this
      exact Nat.dvd_trans h1 (Nat.dvd_mul_right _ _)
    · exact Nat.dvd_trans (ih (fun z hz => h z (by simp [hz])) hm) (Nat.dvd_mul_left _ _)

theorem pow_split {p a b A B : Nat} (hp : 2 ≤ p) (hA : ¬ p ∣ A) (hB : ¬ p ∣ B) (e : p ^ a * A = p ^ b * B) : a = b ∧ A = B := by
  induction a generalizing b with
  | zero =>
    cases b with
    | zero => simpa using e
    | succ b =>
      exfalso; apply hA
      simp at e
      rw [e, Nat.pow_succ, Nat.mul_assoc]
      exact Nat.dvd_trans (Nat.dvd_mul_right p B) (Nat.dvd_mul_left _ _)
  | succ a ih =>
    cases b with
    | zero =>
      exfalso; apply hB
      simp at e
      rw [← e, Nat.pow_succ, Nat.mul_assoc]
      exact Nat.dvd_trans (Nat.dvd_mul_right p A) (Nat.dvd_mul_left _ _)
    | succ b =>
      have h : p * (p ^ a * A) = p * (p ^ b * B) := by
        rw [Nat.pow_succ, Nat.pow_succ] at e
        have e1 : p ^ a * p * A = p * (p ^ a * A) := by rw [Nat.mul_comm (p ^ a) p, Nat.mul_assoc]
        have e2 : p ^ b * p * B = p * (p ^ b * B) := by rw [Nat.mul_comm (p ^ b) p, Nat.mul_assoc]
        rw [← e1, ← e2]; exact e
      obtain ⟨h1, h2⟩ := ih (Nat.eq_of_mul_eq_mul_left (by omega) h)
      exact ⟨by omega, h2⟩

theorem Fac.tail {n : Nat} {x : Nat × Nat} {l : List (Nat × Nat)} (h : Fac n (x :: l)) : Fac (pd l) l :=
  ⟨fun y hy => h.1 y (by simp [hy]), (List.pairwise_cons.1 h.2.1).2, rfl⟩

theorem Fac.head_not {n : Nat} {x : Nat × Nat} {l : List (Nat × Nat)} (h : Fac n (x :: l)) : ¬ x.1 ∣ pd l := by
  intro hd
  obtain ⟨y, hy, e⟩ := pr_dvd_pd (h.1 x (by simp)).1 (fun y hy => h.1 y (by simp [hy])) hd
  have := (List.pairwise_cons.1 h.2.1).1 y hy
  omega

theorem Fac.head_le {n : Nat} {x y : Nat × Nat} {l m : List (Nat × Nat)} (h : Fac n (x :: l)) (h' : Fac n (y :: m)) : y.1 ≤ x.1 := by
  have hd : x.1 ∣ pd (y :: m) := by rw [h'.2.2, ← h.2.2]; exact mem_dvd_pd h.1 (by simp)
  obtain ⟨z, hz, e⟩ := pr_dvd_pd (h.1 x (by simp)).1 h'.1 hd
  rcases List.mem_cons.1 hz with e' | hm
  · subst e'; omega
  · have := (List.pairwise_cons.1 h'.2.1).1 z hm
    omega

/-- There is at most one. -/
theorem Fac.unique {n : Nat} {l m : List (Nat × Nat)} (h : Fac n l) (h' : Fac n m) : l = m := by
  induction l generalizing n m with
  | nil =>
    cases m with
    | nil => rfl
    | cons y ys =>
      exfalso
      have h1 := pd_len h'.1
      have h2 := h.2.2
      have h3 := h'.2.2
      simp [pd] at h2
      have h4 : 2 ^ 1 ≤ 2 ^ (y :: ys).length := Nat.pow_le_pow_right (by omega) (by simp)
      omega
  | cons x xs ih =>
    cases m with
    | nil =>
      exfalso
      have h1 := pd_len h.1
      have h2 := h'.2.2
      have h3 := h.2.2
      simp [pd] at h2
      have h4 : 2 ^ 1 ≤ 2 ^ (x :: xs).length := Nat.pow_le_pow_right (by omega) (by simp)
      omega
    | cons y ys =>
      have e : x.1 = y.1 := Nat.le_antisymm (h'.head_le h) (h.head_le h')
      have hx := h.head_not
      have hy := h'.head_not
      have hn : x.1 ^ x.2 * pd xs = y.1 ^ y.2 * pd ys := h.2.2.trans h'.2.2.symm
      rw [← e] at hn hy
      obtain ⟨e2, e3⟩ := pow_split (h.1 x (by simp)).1.1 hx hy hn
      have ht := h'.tail
      rw [← e3] at ht
      rw [ih h.tail ht, show x = y from Prod.ext e e2]

/-- A number from 2 on has a prime, below which nothing from 2 on divides it. -/
theorem least_prime {n : Nat} (h : 2 ≤ n) : ∃ p, Pr p ∧ p ∣ n ∧ ∀ d, 2 ≤ d → d ∣ n → p ≤ d := by
  have key : ∀ k, ∀ p, p + k = n → (∀ d, 2 ≤ d → d < p → ¬ d ∣ n) → 2 ≤ p → ∃ p, Pr p ∧ p ∣ n ∧ ∀ d, 2 ≤ d → d ∣ n → p ≤ d := by
    intro k
    induction k with
    | zero =>
      intro p hp hnone h2
      have : p = n := by omega
      subst this
      refine ⟨p, ⟨h2, fun d hd => ?_⟩, Nat.dvd_refl _, fun d h2 hd => ?_⟩
      · have := Nat.le_of_dvd (by omega) hd
        have hd0 : d ≠ 0 := by intro e; subst e; simp at hd; omega
        by_cases h1 : d = 1
        · exact .inl h1
        · by_cases h3 : d < p
          · exact absurd hd (hnone d (by omega) h3)
          · right; omega
      · by_cases h3 : d < p
        · exact absurd hd (hnone d h2 h3)
        · omega
    | succ k ih =>
      intro p hp hnone h2
      by_cases hd : p ∣ n
      · refine ⟨p, ⟨h2, fun d hdp => ?_⟩, hd, fun d h2 hd => ?_⟩
        · have := Nat.le_of_dvd (by omega) hdp
          have hd0 : d ≠ 0 := by intro e; subst e; simp at hdp; omega
          by_cases h1 : d = 1
          · exact .inl h1
          · by_cases h3 : d < p
            · exact absurd (Nat.dvd_trans hdp hd) (hnone d (by omega) h3)
            · right; omega
        · by_cases h3 : d < p
          · exact absurd hd (hnone d h2 h3)
          · omega
      · refine ih (p + 1) (by omega) (fun d h2 h3 => ?_) (by omega)
        by_cases e : d = p
        · subst e; exact hd
        · exact hnone d h2 (by omega)
  exact key (n - 2) 2 (by omega) (fun d h1 h2 => by omega) (by omega)

theorem pow_out {p : Nat} (hp : 2 ≤ p) : ∀ (n : Nat), 1 ≤ n → ∃ k m, n = p ^ k * m ∧ ¬ p ∣ m ∧ 1 ≤ m := by
  intro n
  induction n using Nat.strongRecOn with
  | ind n ih =>
    intro hn
    by_cases hd : p ∣ n
    · obtain ⟨m, rfl⟩ := hd
      have hm : 1 ≤ m := by
        rcases Nat.eq_zero_or_pos m with e | e
        · subst e; simp at hn
        · exact e
      have hlt : m < p * m := by
        have : 2 * m ≤ p * m := Nat.mul_le_mul_right m hp
        omega
      obtain ⟨k, m', e, h1, h2⟩ := ih m hlt hm
      refine ⟨k + 1, m', ?_, h1, h2⟩
      rw [Nat.pow_succ, Nat.mul_comm (p ^ k) p, Nat.mul_assoc, ← e]
    · exact ⟨0, n, by simp, hd, hn⟩

/-- There is one. -/
theorem Fac.exists : ∀ (n : Nat), 1 ≤ n → ∃ l, Fac n l := by
  intro n
  induction n using Nat.strongRecOn with
  | ind n ih =>
    intro hn
    by_cases h1 : n = 1
    · subst h1; exact ⟨[], by simp [Fac, pd]⟩
    · obtain ⟨p, hp, hd, hl⟩ := least_prime (n := n) (by omega)
      obtain ⟨k, m, e, hm, hm1⟩ := pow_out hp.1 n hn
      have hk : 1 ≤ k := by
        rcases Nat.eq_zero_or_pos k with e0 | e0
        · subst e0; simp at e; subst e; exact absurd hd hm
        · exact e0
      have h2 := two_le_pow hp.1 hk
      have hlt : m < n := by
        have : 2 * m ≤ p ^ k * m := Nat.mul_le_mul_right m h2
        omega
      obtain ⟨l, hl'⟩ := ih m hlt hm1
      refine ⟨(p, k) :: l, ?_, ?_, ?_⟩
      · intro x hx
        rcases List.mem_cons.1 hx with rfl | hx
        · exact ⟨hp, hk⟩
        · exact hl'.1 x hx
      · refine List.pairwise_cons.2 ⟨fun x hx => ?_, hl'.2.1⟩
        have hdx : x.1 ∣ m := by have := mem_dvd_pd hl'.1 hx; rwa [hl'.2.2] at this
        have h3 := hl x.1 (hl'.1 x hx).1.1 (by rw [e]; exact Nat.dvd_trans hdx (Nat.dvd_mul_left _ _))
        have h4 : p ≠ x.1 := by intro e4; rw [← e4] at hdx; exact hm hdx
        simp; omega
      · simp [pd, hl'.2.2]; exact e.symm

theorem Fac.prime {p : Nat} (h : Pr p) : Fac p [(p, 1)] := by
  refine ⟨?_, ?_, ?_⟩
  · intro x hx; simp at hx; subst hx; exact ⟨h, Nat.le_refl _⟩
  · simp
  · simp [pd]

/-- What trial division has so far: the powers, what is left, and how far it has come. -/
structure Trial (n : Nat) (pre : List (Nat × Nat)) (rest p : Nat) : Prop where
  two : 2 ≤ p
  pos : 1 ≤ rest
  prod : pd pre * rest = n
  all : ∀ x ∈ pre, Pr x.1 ∧ 1 ≤ x.2
  rise : pre.Pairwise (fun x y => x.1 < y.1)
  low : ∀ x ∈ pre, x.1 < p
  none : ∀ d, 2 ≤ d → d < p → ¬ d ∣ rest

theorem Trial.start {n : Nat} (h : 1 ≤ n) : Trial n [] n 2 :=
  ⟨by omega, h, by simp [pd], by simp, by simp, by simp, fun d h1 h2 => by omega⟩

theorem Trial.le {n : Nat} {pre : List (Nat × Nat)} {rest p : Nat} (h : Trial n pre rest p) : rest ≤ n := by
  have h1 := pd_pos h.all
  have h2 : 1 * rest ≤ pd pre * rest := Nat.mul_le_mul_right rest h1
  have := h.prod
  omega

theorem Trial.len {n : Nat} {pre : List (Nat × Nat)} {rest p : Nat} (h : Trial n pre rest p) (hn : n ≤ 1048576) : pre.length ≤ 20 := by
  have h1 := pd_len h.all
  have h2 : pd pre * 1 ≤ pd pre * rest := Nat.mul_le_mul_left _ h.pos
  rw [h.prod] at h2
  have h3 : 2 ^ pre.length ≤ 2 ^ 20 := by
    have : (2 : Nat) ^ 20 = 1048576 := by decide
    omega
  exact (Nat.pow_le_pow_iff_right (by omega)).1 h3

theorem Trial.skip {n : Nat} {pre : List (Nat × Nat)} {rest p : Nat} (h : Trial n pre rest p) (hd : ¬ p ∣ rest) : Trial n pre rest (p + 1) :=
  ⟨by have := h.two; omega, h.pos, h.prod, h.all, h.rise, fun x hx => by have := h.low x hx; omega, fun d h1 h2 => by
    by_cases e : d = p
    · subst e; exact hd
    · exact h.none d h1 (by omega)⟩

theorem Trial.pr {n : Nat} {pre : List (Nat × Nat)} {rest p : Nat} (h : Trial n pre rest p) (hd : p ∣ rest) : Pr p := by
  refine ⟨h.two, fun d hdp => ?_⟩
  have h2 := h.two
  have := Nat.le_of_dvd (by omega) hdp
  have hd0 : d ≠ 0 := by intro e; subst e; simp at hdp; omega
  by_cases h1 : d = 1
  · exact .inl h1
  · by_cases h3 : d < p
    · exact absurd (Nat.dvd_trans hdp hd) (h.none d (by omega) h3)
    · right; omega

theorem Trial.take {n : Nat} {pre : List (Nat × Nat)} {rest p k rest' : Nat} (h : Trial n pre rest p) (hk : 1 ≤ k) (e : rest = p ^ k * rest') (hd : ¬ p ∣ rest') : Trial n (pre ++ [(p, k)]) rest' (p + 1) := by
  have hdv : p ∣ rest := by
    rw [e]
    have : p ^ 1 ∣ p ^ k := Nat.pow_dvd_pow p hk
    rw [Nat.pow_one] at this
    exact Nat.dvd_trans this (Nat.dvd_mul_right _ _)
  have hpr := h.pr hdv
  refine ⟨by have := h.two; omega, ?_, ?_, ?_, ?_, ?_, ?_⟩
  · rcases Nat.eq_zero_or_pos rest' with e0 | e0
    · subst e0; simp at hd
    · exact e0
  · rw [pd_snoc, Nat.mul_assoc, ← e]; exact h.prod
  · intro x hx
    rcases List.mem_append.1 hx with hx | hx
    · exact h.all x hx
    · simp at hx; subst hx; exact ⟨hpr, hk⟩
  · refine List.pairwise_append.2 ⟨h.rise, by simp, fun x hx y hy => ?_⟩
    simp at hy; subst hy; exact h.low x hx
  · intro x hx
    rcases List.mem_append.1 hx with hx | hx
    · have := h.low x hx; omega
    · simp at hx; subst hx; simp
  · intro d h1 h2
    by_cases e1 : d = p
    · subst e1; exact hd
    · intro hdd
      exact h.none d h1 (by omega) (by rw [e]; exact Nat.dvd_trans hdd (Nat.dvd_mul_left _ _))

/-- What is left when the root is passed is 1 or a prime. -/
theorem Trial.done1 {n : Nat} {pre : List (Nat × Nat)} {p : Nat} (h : Trial n pre 1 p) : Fac n pre :=
  ⟨h.all, h.rise, by have := h.prod; omega⟩

theorem Trial.done {n : Nat} {pre : List (Nat × Nat)} {rest p : Nat} (h : Trial n pre rest p) (hr : 2 ≤ rest) (hp : rest < p * p) : Fac n (pre ++ [(rest, 1)]) := by
  have hpr : Pr rest := pr_of_small hr (fun d h2 hd hdv => by
    by_cases hlt : d < p
    · exact h.none d h2 hlt hdv
    · have : p * p ≤ d * d := Nat.mul_le_mul (by omega) (by omega)
      omega)
  refine ⟨?_, ?_, ?_⟩
  · intro x hx
    rcases List.mem_append.1 hx with hx | hx
    · exact h.all x hx
    · simp at hx; subst hx; exact ⟨hpr, Nat.le_refl _⟩
  · refine List.pairwise_append.2 ⟨h.rise, by simp, fun x hx y hy => ?_⟩
    simp at hy; subst hy
    have h1 := h.low x hx
    by_cases hlt : rest < p
    · exact absurd (Nat.dvd_refl rest) (h.none rest hr hlt)
    · simp; omega
  · rw [pd_snoc]; simpa using h.prod

/-- What came so far is how the list of all begins. -/
theorem Trial.pre {n : Nat} {pre : List (Nat × Nat)} {rest p : Nat} (h : Trial n pre rest p) : ∃ l, Fac n (pre ++ l) := by
  obtain ⟨l, hl⟩ := Fac.exists rest h.pos
  refine ⟨l, ?_, ?_, ?_⟩
  · intro x hx
    rcases List.mem_append.1 hx with hx | hx
    · exact h.all x hx
    · exact hl.1 x hx
  · refine List.pairwise_append.2 ⟨h.rise, hl.2.1, fun x hx y hy => ?_⟩
    have h1 := h.low x hx
    have h2 : y.1 ∣ rest := by have := mem_dvd_pd hl.1 hy; rwa [hl.2.2] at this
    by_cases hlt : y.1 < p
    · exact absurd h2 (h.none y.1 (hl.1 y hy).1.1 hlt)
    · omega
  · rw [pd_append, hl.2.2]; exact h.prod

/-- The product of so many numbers behind c. -/
def up : Nat → Nat → Nat
  | _, 0 => 1
  | c, n + 1 => (c + 1) * up (c + 1) n

theorem up_le {l : List (Nat × Nat)} : ∀ {c : Nat}, (∀ x ∈ l, Pr x.1 ∧ 1 ≤ x.2) → l.Pairwise (fun x y => x.1 < y.1) → (∀ x ∈ l, c < x.1) → up c l.length ≤ pd l := by
  induction l with
  | nil => intro c _ _ _; exact Nat.le_refl _
  | cons x xs ih =>
    intro c h1 h2 h3
    have hx := h3 x (by simp)
    have h4 := ih (c := c + 1) (fun y hy => h1 y (by simp [hy])) (List.pairwise_cons.1 h2).2 (fun y hy => by have := (List.pairwise_cons.1 h2).1 y hy; omega)
    have h5 : x.1 ^ 1 ≤ x.1 ^ x.2 := Nat.pow_le_pow_right (by omega) (h1 x (by simp)).2
    rw [Nat.pow_one] at h5
    exact Nat.mul_le_mul (by omega) h4

theorem len8 {l : List (Nat × Nat)} (h1 : ∀ x ∈ l, Pr x.1 ∧ 1 ≤ x.2) (h2 : l.Pairwise (fun x y => x.1 < y.1)) (h3 : pd l ≤ 1048576) : l.length ≤ 8 := by
  rcases Nat.lt_or_ge l.length 9 with h | h
  · omega
  · exfalso
    have hm : ∀ n c, 1 ≤ up c n := by
      intro n
      induction n with
      | zero => intro c; exact Nat.le_refl _
      | succ n ih => intro c; exact Nat.mul_le_mul (show 1 ≤ c + 1 by omega) (ih (c + 1))
    have h4 : up 1 9 ≤ up 1 l.length := by
      have mono : ∀ n d c, up c n ≤ up c (n + d) := by
        intro n
        induction n with
        | zero => intro d c; exact hm _ _
        | succ n ih =>
          intro d c
          rw [show n + 1 + d = (n + d) + 1 by omega]
          exact Nat.mul_le_mul_left _ (ih d (c + 1))
      have := mono 9 (l.length - 9) 1
      rwa [show 9 + (l.length - 9) = l.length by omega] at this
    have h5 := up_le (c := 1) h1 h2 (fun x hx => by have := (h1 x hx).1.1; omega)
    have h6 : up 1 9 = 3628800 := by decide
    omega

theorem Trial.len8 {n : Nat} {pre : List (Nat × Nat)} {rest p : Nat} (h : Trial n pre rest p) (hn : n ≤ 1048576) : pre.length ≤ 8 := by
  refine Num.len8 h.all h.rise ?_
  have h2 : pd pre * 1 ≤ pd pre * rest := Nat.mul_le_mul_left _ h.pos
  rw [h.prod] at h2
  omega

theorem exp_le {p k m n : Nat} (hp : 2 ≤ p) (hm : 1 ≤ m) (e : p ^ k * m = n) (hn : n ≤ 1048576) : k ≤ 20 := by
  have h1 := two_pow_le (k := k) hp
  have h2 : p ^ k * 1 ≤ p ^ k * m := Nat.mul_le_mul_left _ hm
  have h3 : 2 ^ k ≤ 2 ^ 20 := by
    have : (2 : Nat) ^ 20 = 1048576 := by decide
    omega
  exact (Nat.pow_le_pow_iff_right (by omega)).1 h3

end Go.Proofs.Ytpnmepobdnclkaa.Num

namespace Go.Proofs.Ytpnmepobdnclkaa.Num2
set_option linter.unusedVariables false
open Go.Proofs.Ytpnmepobdnclkaa.Num

theorem bez (a b : Nat) : ∃ u v : Int, u * (a : Int) + v * (b : Int) = (Nat.gcd a b : Int) := by
  induction a, b using Nat.gcd.induction with
  | H0 n => exact ⟨0, 1, by simp⟩
  | H1 m n hm ih =>
    obtain ⟨u, v, h⟩ := ih
    rw [Nat.gcd_rec]
    refine ⟨v - u * ((n / m : Nat) : Int), u, ?_⟩
    have hd : (n : Int) = (m : Int) * ((n / m : Nat) : Int) + ((n % m : Nat) : Int) := by
      have := Nat.div_add_mod n m
      exact_mod_cast this.symm
    have e1 : (v - u * ((n / m : Nat) : Int)) * (m : Int) = v * (m : Int) - u * ((m : Int) * ((n / m : Nat) : Int)) := by
      rw [Int.sub_mul, Int.mul_assoc, Int.mul_comm ((n / m : Nat) : Int) (m : Int)]
    have e2 : u * (n : Int) = u * ((m : Int) * ((n / m : Nat) : Int)) + u * ((n % m : Nat) : Int) := by
      rw [← Int.mul_add, ← hd]
    rw [e1, e2]
    omega

/-- Whatever a prime does not divide has an inverse. -/
theorem inv_ex {p x : Nat} (hp : Pr p) (hx : ¬ p ∣ x) : ∃ y, y < p ∧ x * y % p = 1 := by
  have hg : Nat.gcd x p = 1 := by
    rcases hp.2 (Nat.gcd x p) (Nat.gcd_dvd_right x p) with e | e
    · exact e
    · exact absurd (e ▸ Nat.gcd_dvd_left x p) hx
  obtain ⟨u, v, h⟩ := bez x p
  rw [hg] at h
  have hp0 : (p : Int) ≠ 0 := by have := hp.1; omega
  have h0 := Int.emod_nonneg u hp0
  have h1 := Int.emod_lt_of_pos u (show 0 < (p : Int) by have := hp.1; omega)
  refine ⟨(u % (p : Int)).toNat, by omega, ?_⟩
  have hc : ((x * (u % (p : Int)).toNat % p : Nat) : Int) = 1 := by
    rw [Int.natCast_emod, Int.natCast_mul, Int.toNat_of_nonneg h0, Int.mul_emod, Int.emod_emod_of_dvd _ (Int.dvd_refl _), ← Int.mul_emod]
    have e : (x : Int) * u = 1 + (p : Int) * (-v) := by
      have e1 : (x : Int) * u = u * (x : Int) := Int.mul_comm _ _
      have e2 : (p : Int) * (-v) = - (v * (p : Int)) := by rw [Int.mul_neg, Int.mul_comm]
      rw [e1, e2]; omega
    rw [e, Int.add_mul_emod_self_left]
    exact Int.emod_eq_of_lt (by omega) (by have := hp.1; omega)
  exact_mod_cast hc

theorem inv_uniq {p a b c : Nat} (ha : a < p) (hb : b < p) (h1 : a * c % p = 1) (h2 : b * c % p = 1) : a = b := by
  have e1 : a * (b * c) % p = a := by
    rw [Nat.mul_mod, h2, Nat.mul_one, Nat.mod_mod, Nat.mod_eq_of_lt ha]
  have e2 : b * (a * c) % p = b := by
    rw [Nat.mul_mod, h1, Nat.mul_one, Nat.mod_mod, Nat.mod_eq_of_lt hb]
  have e3 : a * (b * c) = b * (a * c) := Nat.mul_left_comm _ _ _
  rw [e3, e2] at e1
  exact e1.symm

theorem no_self {p x : Nat} (hp : Pr p) (h2 : 2 ≤ x) (h3 : x + 2 ≤ p) : ¬ x * x % p = 1 := by
  intro h
  have hd : p ∣ (x - 1) * (x + 1) := by
    have e : x * x = p * (x * x / p) + 1 := by have := Nat.div_add_mod (x * x) p; omega
    have e2 : (x - 1) * (x + 1) = p * (x * x / p) := by
      obtain ⟨y, rfl⟩ : ∃ y, x = y + 1 := ⟨x - 1, by omega⟩
      have e3 : (y + 1) * (y + 1) = y * (y + 1 + 1) + 1 := by
        simp only [Nat.mul_add, Nat.add_mul]; omega
      have e4 : y + 1 - 1 = y := by omega
      rw [e4]; omega
    rw [e2]; exact Nat.dvd_mul_right _ _
  rcases hp.dvd_mul hd with h | h
  · have := Nat.le_of_dvd (by omega) h; omega
  · have := Nat.le_of_dvd (by omega) h; omega

def prod (l : List Nat) : Nat := l.foldr (· * ·) 1

theorem prod_erase {l : List Nat} {y : Nat} (h : y ∈ l) : prod l = y * prod (l.erase y) := by
  induction l with
  | nil => simp at h
  | cons x xs ih =>
    by_cases e : x = y
    · subst e; simp [prod]
    · have hm : y ∈ xs := by
        rcases List.mem_cons.1 h with h | h
        · exact absurd h.symm e
        · exact h
      rw [List.erase_cons_tail (by simpa using e)]
      show x * prod xs = y * (x * prod (xs.erase y))
      rw [ih hm, Nat.mul_left_comm]

theorem pairs {p : Nat} (hp : Pr p) : ∀ (k : Nat) (l : List Nat), l.length ≤ k → l.Nodup → (∀ x ∈ l, 2 ≤ x ∧ x + 2 ≤ p) → (∀ x ∈ l, ∃ y ∈ l, x * y % p = 1) → prod l % p = 1 := by
  intro k
  induction k with
  | zero =>
    intro l hl _ _ _
    have : l = [] := List.length_eq_zero_iff.1 (by omega)
    subst this
    have := hp.1
    exact Nat.mod_eq_of_lt (show 1 < p by omega)
  | succ k ih =>
    intro l hl hnd hb hc
    cases l with
    | nil => exact Nat.mod_eq_of_lt (show 1 < p by have := hp.1; omega)
    | cons x l' =>
      obtain ⟨hx, hnd'⟩ := List.nodup_cons.1 hnd
      obtain ⟨y, hy, hxy⟩ := hc x (by simp)
      have hbx := hb x (by simp)
      have hby := hb y hy
      have hne : y ≠ x := by intro e; subst e; exact no_self hp hbx.1 hbx.2 hxy
      have hy' : y ∈ l' := by
        rcases List.mem_cons.1 hy with h | h
        · exact absurd h hne
        · exact h
      have hrec : prod (l'.erase y) % p = 1 := by
        refine ih (l'.erase y) ?_ (hnd'.erase y) (fun z hz => hb z (List.mem_cons_of_mem _ (List.mem_of_mem_erase hz))) ?_
        · rw [List.length_erase_of_mem hy']; simp at hl; omega
        · intro z hz
          have hz' := List.mem_of_mem_erase hz
          have hzy : z ≠ y := by
            intro e; subst e
            exact (List.Nodup.not_mem_erase hnd') hz
          have hzx : z ≠ x := by intro e; subst e; exact hx hz'
          obtain ⟨u, hu, hzu⟩ := hc z (List.mem_cons_of_mem _ hz')
          have hbz := hb z (List.mem_cons_of_mem _ hz')
          have hux : u ≠ x := by
            intro e; subst e
            exact hzy (inv_uniq (p := p) (c := u) (by omega) (by omega) hzu (by rw [Nat.mul_comm]; exact hxy))
          have huy : u ≠ y := by
            intro e; subst e
            exact hzx (inv_uniq (p := p) (c := u) (by omega) (by omega) hzu hxy)
          have hul : u ∈ l' := by
            rcases List.mem_cons.1 hu with h | h
            · exact absurd h hux
            · exact h
          exact ⟨u, (List.mem_erase_of_ne huy).2 hul, hzu⟩
      show x * prod l' % p = 1
      rw [prod_erase hy', ← Nat.mul_assoc, Nat.mul_mod, hxy, hrec]
      have := hp.1
      exact Nat.mod_eq_of_lt (by omega)

/-- The product of all from 1 on. -/
def fact : Nat → Nat
  | 0 => 1
  | n + 1 => (n + 1) * fact n

theorem prod_snoc (l : List Nat) (x : Nat) : prod (l ++ [x]) = prod l * x := by
  induction l with
  | nil => simp [prod]
  | cons y ys ih =>
    show y * prod (ys ++ [x]) = y * prod ys * x
    rw [ih, Nat.mul_assoc]

theorem prod_range (k : Nat) : prod ((List.range k).map (· + 2)) = fact (k + 1) := by
  induction k with
  | zero => rfl
  | succ k ih =>
    rw [List.range_succ, List.map_append, List.map_cons, List.map_nil, prod_snoc, ih]
    show fact (k + 1) * (k + 2) = (k + 1 + 1) * fact (k + 1)
    rw [Nat.mul_comm]

theorem wilson_prime {p : Nat} (hp : Pr p) : fact (p - 1) % p = p - 1 := by
  have h2 := hp.1
  by_cases e2 : p = 2
  · subst e2; rfl
  · have hmid : fact (p - 2) % p = 1 := by
      have hpr := prod_range (p - 3)
      rw [show p - 3 + 1 = p - 2 by omega] at hpr
      rw [← hpr]
      refine pairs hp _ _ (Nat.le_refl _) ?_ ?_ ?_
      · have hnd : ∀ k, ((List.range k).map (· + 2)).Nodup := by
          intro k
          refine List.Pairwise.map _ ?_ (List.nodup_range (n := k))
          intro a b h e
          exact h (by omega)
        exact hnd _
      · intro x hx
        obtain ⟨d, hd, rfl⟩ := List.mem_map.1 hx
        have := List.mem_range.1 hd
        omega
      · intro x hx
        obtain ⟨d, hd, rfl⟩ := List.mem_map.1 hx
        have hd' := List.mem_range.1 hd
        have hnd : ¬ p ∣ d + 2 := by
          intro h
          have := Nat.le_of_dvd (by omega) h
          omega
        obtain ⟨y, hy, hxy⟩ := inv_ex hp hnd
        have hy0 : y ≠ 0 := by intro e; subst e; simp at hxy
        have hy1 : y ≠ 1 := by
          intro e; subst e
          rw [Nat.mul_one, Nat.mod_eq_of_lt (by omega)] at hxy
          omega
        have hym : y ≠ p - 1 := by
          intro e
          have e1 : (d + 2) * y + (d + 2) = (d + 2) * p := by
            rw [e, ← Nat.mul_succ]; congr 1; omega
          have e3 : ((d + 2) * y + (d + 2)) % p = 0 := by rw [e1]; exact Nat.mul_mod_left _ _
          rw [Nat.add_mod, hxy, Nat.mod_eq_of_lt (show d + 2 < p by omega), Nat.mod_eq_of_lt (show 1 + (d + 2) < p by omega)] at e3
          omega
        refine ⟨y, List.mem_map.2 ⟨y - 2, List.mem_range.2 (by omega), by omega⟩, hxy⟩
    have e : fact (p - 1) = (p - 1) * fact (p - 2) := by
      obtain ⟨q, rfl⟩ : ∃ q, p = q + 2 := ⟨p - 2, by omega⟩
      rfl
    rw [e, Nat.mul_mod, hmid, Nat.mul_one, Nat.mod_mod, Nat.mod_eq_of_lt (by omega)]

theorem dvd_fact {a : Nat} (h1 : 1 ≤ a) : ∀ {k : Nat}, a ≤ k → a ∣ fact k
  | 0, h => by omega
  | k + 1, h => by
    by_cases e : a = k + 1
    · subst e; exact Nat.dvd_mul_right _ _
    · exact Nat.dvd_trans (dvd_fact h1 (by omega)) (Nat.dvd_mul_left _ _)

theorem wilson_other {n : Nat} (h2 : 2 ≤ n) (h : fact (n - 1) % n = n - 1) : Pr n := by
  refine ⟨h2, fun d hd => ?_⟩
  have hle := Nat.le_of_dvd (by omega) hd
  have hd0 : d ≠ 0 := by intro e; subst e; simp at hd; omega
  by_cases hn : d = n
  · exact .inr hn
  · left
    have hf : d ∣ fact (n - 1) := dvd_fact (by omega) (by omega)
    have e := Nat.div_add_mod (fact (n - 1)) n
    rw [h] at e
    have h1 : d ∣ n - 1 := by
      have h3 : d ∣ n * (fact (n - 1) / n) := Nat.dvd_trans hd (Nat.dvd_mul_right _ _)
      exact (Nat.dvd_add_right h3).1 (by rw [e]; exact hf)
    have h4 : d ∣ 1 := by
      have h5 : d ∣ (n - 1) + 1 := by rw [show n - 1 + 1 = n by omega]; exact hd
      exact (Nat.dvd_add_right h1).1 h5
    exact Nat.dvd_one.1 h4

/-- Wilson. -/
theorem wilson {n : Nat} (h2 : 2 ≤ n) : fact (n - 1) % n = n - 1 ↔ Pr n := ⟨wilson_other h2, wilson_prime⟩

theorem pr_check {m b : Nat} (h2 : 2 ≤ m) (hb : m < b * b) (h : (List.range b).all (fun d => decide (d < 2) || !(m % d == 0)) = true) : Pr m := by
  refine pr_of_small h2 (fun d hd hdd hdv => ?_)
  have hlt : d < b := by
    by_cases h : d < b
    · exact h
    · have : b * b ≤ d * d := Nat.mul_le_mul (by omega) (by omega)
      omega
  have := List.all_eq_true.1 h d (List.mem_range.2 hlt)
  simp at this
  rcases this with h | h
  · omega
  · exact h (Nat.mod_eq_zero_of_dvd hdv)

/-- Chebyshev, up to 2^19: by a chain of primes each of which is below twice the one ahead of it. -/
theorem bertrand {n : Nat} (h1 : 1 ≤ n) (h2 : n ≤ 524288) : ∃ p, Pr p ∧ n < p ∧ p ≤ 2 * n := by
  have go : ∀ p, n < p → p ≤ 2 * n → Pr p → ∃ p, Pr p ∧ n < p ∧ p ≤ 2 * n := fun p a b c => ⟨p, c, a, b⟩
  by_cases c1 : n < 2
  · exact go 2 (by omega) (by omega) (pr_check (b := 2) (by decide) (by decide) (by decide +kernel))
  by_cases c2 : n < 3
  · exact go 3 (by omega) (by omega) (pr_check (b := 2) (by decide) (by decide) (by decide +kernel))
  by_cases c3 : n < 5
  · exact go 5 (by omega) (by omega) (pr_check (b := 3) (by decide) (by decide) (by decide +kernel))
  by_cases c4 : n < 7
  · exact go 7 (by omega) (by omega) (pr_check (b := 3) (by decide) (by decide) (by decide +kernel))
  by_cases c5 : n < 13
  · exact go 13 (by omega) (by omega) (pr_check (b := 4) (by decide) (by decide) (by decide +kernel))
  by_cases c6 : n < 23
  · exact go 23 (by omega) (by omega) (pr_check (b := 5) (by decide) (by decide) (by decide +kernel))
  by_cases c7 : n < 43
  · exact go 43 (by omega) (by omega) (pr_check (b := 7) (by decide) (by decide) (by decide +kernel))
  by_cases c8 : n < 83
  · exact go 83 (by omega) (by omega) (pr_check (b := 10) (by decide) (by decide) (by decide +kernel))
  by_cases c9 : n < 163
  · exact go 163 (by omega) (by omega) (pr_check (b := 13) (by decide) (by decide) (by decide +kernel))
  by_cases c10 : n < 317
  · exact go 317 (by omega) (by omega) (pr_check (b := 18) (by decide) (by decide) (by decide +kernel))
  by_cases c11 : n < 631
  · exact go 631 (by omega) (by omega) (pr_check (b := 26) (by decide) (by decide) (by decide +kernel))
  by_cases c12 : n < 1259
  · exact go 1259 (by omega) (by omega) (pr_check (b := 36) (by decide) (by decide) (by decide +kernel))
  by_cases c13 : n < 2503
  · exact go 2503 (by omega) (by omega) (pr_check (b := 51) (by decide) (by decide) (by decide +kernel))
  by_cases c14 : n < 5003
  · exact go 5003 (by omega) (by omega) (pr_check (b := 71) (by decide) (by decide) (by decide +kernel))
  by_cases c15 : n < 9973
  · exact go 9973 (by omega) (by omega) (pr_check (b := 100) (by decide) (by decide) (by decide +kernel))
  by_cases c16 : n < 19937
  · exact go 19937 (by omega) (by omega) (pr_check (b := 142) (by decide) (by decide) (by decide +kernel))
  by_cases c17 : n < 39869
  · exact go 39869 (by omega) (by omega) (pr_check (b := 200) (by decide) (by decide) (by decide +kernel))
  by_cases c18 : n < 79699
  · exact go 79699 (by omega) (by omega) (pr_check (b := 283) (by decide) (by decide) (by decide +kernel))
  by_cases c19 : n < 159389
  · exact go 159389 (by omega) (by omega) (pr_check (b := 400) (by decide) (by decide) (by decide +kernel))
  by_cases c20 : n < 318751
  · exact go 318751 (by omega) (by omega) (pr_check (b := 565) (by decide) (by decide) (by decide +kernel))
  · exact go 637499 (by omega) (by omega) (pr_check (b := 799) (by decide) (by decide) (by decide +kernel))

/-- A prime that divides a product of rests divides one of the numbers. -/
theorem euclid_rest {p : Nat} (hp : Pr p) (a b : Int) (h : Int.tmod (Int.tmod a p * Int.tmod b p) p = 0) : Int.tmod a p = 0 ∨ Int.tmod b p = 0 := by
  have hd : (p : Int) ∣ Int.tmod a p * Int.tmod b p := Int.dvd_of_tmod_eq_zero h
  have hd2 : p ∣ (Int.tmod a p).natAbs * (Int.tmod b p).natAbs := by
    rw [← Int.natAbs_mul]
    have := Int.natAbs_dvd_natAbs.2 hd
    simpa using this
  have key : ∀ c : Int, p ∣ (Int.tmod c p).natAbs → Int.tmod c p = 0 := by
    intro c hc
    have h1 : (p : Int) ∣ Int.tmod c p := Int.natAbs_dvd_natAbs.1 (by simpa using hc)
    have h2 : (p : Int) ∣ c := by
      have e := Int.mul_tdiv_add_tmod c p
      rw [← e]
      exact Int.dvd_add (Int.dvd_mul_right _ _) h1
    exact Int.tmod_eq_zero_of_dvd h2
  rcases hp.dvd_mul hd2 with h | h
  · exact .inl (key a h)
  · exact .inr (key b h)

end Go.Proofs.Ytpnmepobdnclkaa.Num2

namespace Go.Proofs.Ytpnmepobdnclkaa.Num3
set_option linter.unusedVariables false
open Go.Proofs.Ytpnmepobdnclkaa.Num

/-- How many of 1 to k. -/
def cnt (P : Nat → Bool) : Nat → Nat
  | 0 => 0
  | k + 1 => cnt P k + (if P (k + 1) then 1 else 0)

theorem cnt_congr {P Q : Nat → Bool} : ∀ {k : Nat}, (∀ x, 1 ≤ x → x ≤ k → P x = Q x) → cnt P k = cnt Q k
  | 0, _ => rfl
  | k + 1, h => by
    simp only [cnt]
    rw [cnt_congr (k := k) (fun x h1 h2 => h x h1 (by omega)), h (k + 1) (by omega) (by omega)]

theorem cnt_add (P : Nat → Bool) (a : Nat) : ∀ b, cnt P (a + b) = cnt P a + cnt (fun x => P (a + x)) b
  | 0 => rfl
  | b + 1 => by
    show cnt P (a + b) + _ = _
    rw [cnt_add P a b]
    simp only [cnt]
    rw [Nat.add_assoc]; rfl

theorem cnt_false {P : Nat → Bool} : ∀ {k : Nat}, (∀ x, 1 ≤ x → x ≤ k → P x = false) → cnt P k = 0
  | 0, _ => rfl
  | k + 1, h => by
    simp only [cnt]
    rw [cnt_false (k := k) (fun x h1 h2 => h x h1 (by omega)), h (k + 1) (by omega) (by omega)]
    rfl

theorem cnt_le (P : Nat → Bool) : ∀ k, cnt P k ≤ k
  | 0 => Nat.le_refl _
  | k + 1 => by
    have := cnt_le P k
    simp only [cnt]
    split <;> omega

theorem cnt_mul {P : Nat → Bool} {m : Nat} (h : ∀ x, P (x + m) = P x) : ∀ k, cnt P (k * m) = k * cnt P m := by
  have hk : ∀ k x, P (k * m + x) = P x := by
    intro k
    induction k with
    | zero => intro x; simp
    | succ k ih =>
      intro x
      rw [show (k + 1) * m + x = (k * m + x) + m by rw [Nat.succ_mul]; omega, h, ih]
  intro k
  induction k with
  | zero => simp [cnt]
  | succ k ih =>
    rw [Nat.succ_mul, cnt_add, ih, Nat.succ_mul, cnt_congr (Q := P) (fun x _ _ => hk k x)]

theorem cnt_split (P Q : Nat → Bool) : ∀ k, cnt (fun x => P x && !Q x) k + cnt (fun x => Q x && P x) k = cnt P k
  | 0 => rfl
  | k + 1 => by
    have := cnt_split P Q k
    simp only [cnt]
    rcases Bool.eq_false_or_eq_true (P (k + 1)) with hP | hP <;> rcases Bool.eq_false_or_eq_true (Q (k + 1)) with hQ | hQ <;> simp [hP, hQ] <;> omega

theorem cnt_multiples {p : Nat} (hp : 1 ≤ p) (Q : Nat → Bool) : ∀ m, cnt (fun x => decide (p ∣ x) && Q x) (p * m) = cnt (fun y => Q (p * y)) m
  | 0 => rfl
  | m + 1 => by
    rw [Nat.mul_succ, cnt_add, cnt_multiples hp Q m]
    show _ = cnt (fun y => Q (p * y)) m + (if Q (p * (m + 1)) then 1 else 0)
    obtain ⟨q, rfl⟩ : ∃ q, p = q + 1 := ⟨p - 1, by omega⟩
    show _ + (cnt _ q + _) = _
    rw [cnt_false (k := q)]
    · have e : decide (q + 1 ∣ (q + 1) * m + (q + 1)) = true := decide_eq_true (Nat.dvd_add (Nat.dvd_mul_right _ _) (Nat.dvd_refl _))
      show _ + (0 + if (decide (q + 1 ∣ (q + 1) * m + (q + 1)) && Q ((q + 1) * m + (q + 1))) = true then 1 else 0) = _
      rw [e, Nat.mul_succ]; simp
    · intro x h1 h2
      have : ¬ q + 1 ∣ (q + 1) * m + x := by
        intro h
        have := (Nat.dvd_add_right (Nat.dvd_mul_right (q + 1) m)).1 h
        have := Nat.le_of_dvd (by omega) this
        omega
      rw [decide_eq_false this]; rfl

/-- How many of 1 to n have nothing in common with n. -/
def tot (n : Nat) : Nat := cnt (fun x => Nat.gcd x n == 1) n

theorem gcd_prime {p x : Nat} (hp : Pr p) : Nat.gcd x p = 1 ↔ ¬ p ∣ x := by
  constructor
  · intro h hd
    have : p ∣ Nat.gcd x p := Nat.dvd_gcd hd (Nat.dvd_refl _)
    rw [h] at this
    have := Nat.le_of_dvd (by omega) this
    have := hp.1
    omega
  · intro h
    rcases hp.2 (Nat.gcd x p) (Nat.gcd_dvd_right x p) with e | e
    · exact e
    · exact absurd (e ▸ Nat.gcd_dvd_left x p) h

theorem gcd_mul {x a b : Nat} : Nat.gcd x (a * b) = 1 ↔ Nat.gcd x a = 1 ∧ Nat.gcd x b = 1 := Nat.coprime_mul_iff_right

theorem per (m x : Nat) : (Nat.gcd (x + m) m == 1) = (Nat.gcd x m == 1) := by rw [Nat.gcd_add_self_left]

theorem tot_in {p m : Nat} (hp : Pr p) (hd : p ∣ m) : tot (p * m) = p * tot m := by
  have e : cnt (fun x => Nat.gcd x (p * m) == 1) (p * m) = cnt (fun x => Nat.gcd x m == 1) (p * m) := by
    refine cnt_congr (fun x _ _ => ?_)
    have h : Nat.gcd x (p * m) = 1 ↔ Nat.gcd x m = 1 := by
      rw [gcd_mul]
      exact ⟨fun h => h.2, fun h => ⟨Nat.Coprime.coprime_dvd_right hd h, h⟩⟩
    rw [Bool.eq_iff_iff]; simpa using h
  unfold tot
  rw [e, cnt_mul (per m)]

theorem tot_out {p m : Nat} (hp : Pr p) (hd : ¬ p ∣ m) : tot (p * m) = (p - 1) * tot m := by
  have h1 := cnt_split (fun x => Nat.gcd x m == 1) (fun x => decide (p ∣ x)) (p * m)
  rw [cnt_multiples (by have := hp.1; omega), cnt_mul (P := fun x => Nat.gcd x m == 1) (per m)] at h1
  have e1 : cnt (fun y => Nat.gcd (p * y) m == 1) m = tot m := by
    refine cnt_congr (fun y _ _ => ?_)
    have h : Nat.gcd (p * y) m = 1 ↔ Nat.gcd y m = 1 := by
      rw [Nat.gcd_comm, gcd_mul, Nat.gcd_comm m y]
      exact ⟨fun h => h.2, fun h => ⟨(gcd_prime hp).2 hd, h⟩⟩
    rw [Bool.eq_iff_iff]; simpa using h
  have e2 : tot (p * m) = cnt (fun x => Nat.gcd x m == 1 && !decide (p ∣ x)) (p * m) := by
    refine cnt_congr (fun x _ _ => ?_)
    have h : Nat.gcd x (p * m) = 1 ↔ Nat.gcd x m = 1 ∧ ¬ p ∣ x := by
      rw [gcd_mul, gcd_prime hp, and_comm]
    rw [Bool.eq_iff_iff]; simpa using h
  rw [e1, ← e2] at h1
  change tot (p * m) + tot m = p * tot m at h1
  have e3 : p * tot m = (p - 1) * tot m + tot m := by
    obtain ⟨q, hq⟩ : ∃ q, p = q + 1 := ⟨p - 1, by have := hp.1; omega⟩
    rw [hq, Nat.succ_mul, Nat.add_sub_cancel]
  omega

theorem tot_one : tot 1 = 1 := rfl

theorem tot_pow {p m : Nat} (hp : Pr p) (hd : ¬ p ∣ m) : ∀ k, tot (p ^ (k + 1) * m) = p ^ k * (p - 1) * tot m
  | 0 => by simp; exact tot_out hp hd
  | k + 1 => by
    have e : p ^ (k + 1 + 1) * m = p * (p ^ (k + 1) * m) := by rw [Nat.pow_succ p (k + 1), Nat.mul_comm (p ^ (k + 1)) p, Nat.mul_assoc]
    have hdv : p ∣ p ^ (k + 1) * m := by
      rw [Nat.pow_succ, Nat.mul_assoc]
      exact Nat.dvd_trans (Nat.dvd_mul_right p m) (Nat.dvd_mul_left _ _)
    rw [e, tot_in hp hdv, tot_pow hp hd k, Nat.pow_succ, Nat.mul_comm (p ^ k) p]
    simp only [Nat.mul_assoc]

/-- By the primes. -/
def phl : List (Nat × Nat) → Nat
  | [] => 1
  | x :: xs => x.1 ^ (x.2 - 1) * (x.1 - 1) * phl xs

theorem tot_fac {n : Nat} {l : List (Nat × Nat)} (h : Fac n l) : tot n = phl l := by
  induction l generalizing n with
  | nil => have := h.2.2; simp [pd] at this; subst this; rfl
  | cons x xs ih =>
    obtain ⟨hp, hk⟩ := h.1 x (by simp)
    obtain ⟨k, hk'⟩ : ∃ k, x.2 = k + 1 := ⟨x.2 - 1, by omega⟩
    have e : n = x.1 ^ (k + 1) * pd xs := by rw [← h.2.2]; simp [pd, hk']
    rw [e, tot_pow hp h.head_not k, ih h.tail]
    simp [phl, hk']

theorem tot_pos {n : Nat} (h : 1 ≤ n) : 1 ≤ tot n := by
  obtain ⟨l, hl⟩ := Fac.exists n h
  rw [tot_fac hl]
  have : ∀ l : List (Nat × Nat), (∀ x ∈ l, Pr x.1 ∧ 1 ≤ x.2) → 1 ≤ phl l := by
    intro l
    induction l with
    | nil => intro _; simp [phl]
    | cons x xs ih =>
      intro h
      have h1 := ih (fun y hy => h y (by simp [hy]))
      have hp := (h x (by simp)).1.1
      have h2 : 1 ≤ x.1 ^ (x.2 - 1) := Nat.pow_pos (by omega)
      exact Nat.mul_le_mul (Nat.mul_le_mul h2 (show 1 ≤ x.1 - 1 by omega)) h1
  exact this l hl.1

theorem tot_le (n : Nat) : tot n ≤ n := cnt_le _ _

/-- What is told of a product. -/
theorem tot_mul : ∀ (a b : Nat), 1 ≤ a → 1 ≤ b → (Nat.gcd a b = 1 → tot (a * b) = tot a * tot b) ∧ (Nat.gcd a b ≠ 1 → tot a * tot b < tot (a * b)) := by
  intro a
  induction a using Nat.strongRecOn with
  | ind a ih =>
    intro b ha hb
    by_cases h1 : a = 1
    · subst h1
      simp [tot_one]
    · obtain ⟨p, hp, hd, _⟩ := least_prime (n := a) (by omega)
      obtain ⟨a', rfl⟩ := hd
      have ha' : 1 ≤ a' := by
        rcases Nat.eq_zero_or_pos a' with e | e
        · subst e; simp at ha
        · exact e
      have hlt : a' < p * a' := by
        have : 2 * a' ≤ p * a' := Nat.mul_le_mul_right a' hp.1
        omega
      obtain ⟨i1, i2⟩ := ih a' hlt b ha' hb
      have hge : tot a' * tot b ≤ tot (a' * b) := by
        by_cases hg : Nat.gcd a' b = 1
        · rw [i1 hg]; exact Nat.le_refl _
        · exact Nat.le_of_lt (i2 hg)
      have hpos : 1 ≤ tot a' * tot b := Nat.mul_le_mul (tot_pos ha') (tot_pos hb)
      have hgc : Nat.gcd (p * a') b = 1 ↔ Nat.gcd b p = 1 ∧ Nat.gcd a' b = 1 := by
        rw [Nat.gcd_comm, gcd_mul, Nat.gcd_comm b a']
      rw [Nat.mul_assoc p a' b]
      by_cases hpa : p ∣ a'
      · rw [tot_in hp hpa, tot_in hp (Nat.dvd_trans hpa (Nat.dvd_mul_right a' b)), Nat.mul_assoc]
        have hg2 : Nat.gcd (p * a') b = 1 ↔ Nat.gcd a' b = 1 := by
          rw [hgc]
          exact ⟨fun h => h.2, fun h => ⟨by rw [Nat.gcd_comm]; exact Nat.Coprime.coprime_dvd_left hpa h, h⟩⟩
        refine ⟨fun h => by rw [i1 (hg2.1 h)], fun h => ?_⟩
        exact Nat.mul_lt_mul_of_pos_left (i2 (fun e => h (hg2.2 e))) (by have := hp.1; omega)
      · by_cases hpb : p ∣ b
        · rw [tot_out hp hpa, tot_in hp (Nat.dvd_trans hpb (Nat.dvd_mul_left b a'))]
          refine ⟨fun h => absurd hpb ((gcd_prime hp).1 (hgc.1 h).1), fun _ => ?_⟩
          have h1 : p * (tot a' * tot b) ≤ p * tot (a' * b) := Nat.mul_le_mul_left p hge
          have h2 : (p - 1) * (tot a' * tot b) < p * (tot a' * tot b) := Nat.mul_lt_mul_of_pos_right (by have := hp.1; omega) (by omega)
          rw [Nat.mul_assoc]
          omega
        · have hpab : ¬ p ∣ a' * b := fun h => (hp.dvd_mul h).elim hpa hpb
          rw [tot_out hp hpa, tot_out hp hpab, Nat.mul_assoc]
          have hg2 : Nat.gcd (p * a') b = 1 ↔ Nat.gcd a' b = 1 := by
            rw [hgc]
            exact ⟨fun h => h.2, fun h => ⟨(gcd_prime hp).2 hpb, h⟩⟩
          refine ⟨fun h => by rw [i1 (hg2.1 h)], fun h => ?_⟩
          exact Nat.mul_lt_mul_of_pos_left (i2 (fun e => h (hg2.2 e))) (by have := hp.1; omega)

/-- By what is left when each prime takes its part. -/
theorem fold_phl (l : List (Nat × Nat)) (h : ∀ x ∈ l, Pr x.1 ∧ 1 ≤ x.2) : ∀ A, l.foldl (fun c x => c - c / x.1) (A * pd l) = A * phl l := by
  induction l with
  | nil => intro A; simp [pd, phl]
  | cons x xs ih =>
    intro A
    obtain ⟨hp, hk⟩ := h x (by simp)
    obtain ⟨k, hk'⟩ : ∃ k, x.2 = k + 1 := ⟨x.2 - 1, by omega⟩
    have e : A * pd (x :: xs) = x.1 * (A * x.1 ^ k * pd xs) := by
      simp only [pd, hk', Nat.pow_succ]
      simp only [Nat.mul_assoc, Nat.mul_comm, Nat.mul_left_comm]
    rw [List.foldl_cons, e, Nat.mul_div_cancel_left _ (by have := hp.1; omega)]
    have e2 : x.1 * (A * x.1 ^ k * pd xs) - A * x.1 ^ k * pd xs = (A * (x.1 ^ k * (x.1 - 1))) * pd xs := by
      obtain ⟨q, hq⟩ : ∃ q, x.1 = q + 1 := ⟨x.1 - 1, by have := hp.1; omega⟩
      rw [hq, Nat.succ_mul]
      simp only [Nat.add_sub_cancel]
      simp only [Nat.mul_assoc, Nat.mul_comm, Nat.mul_left_comm]
    rw [e2, ih (fun y hy => h y (by simp [hy]))]
    simp only [phl, hk', Nat.add_sub_cancel, Nat.mul_assoc]

theorem fold_tot {n : Nat} {l : List (Nat × Nat)} (h : Fac n l) : l.foldl (fun c x => c - c / x.1) n = tot n := by
  have := fold_phl l h.1 1
  rw [Nat.one_mul, Nat.one_mul, h.2.2] at this
  rw [this, tot_fac h]

end Go.Proofs.Ytpnmepobdnclkaa.Num3

namespace Go.Proofs.Ytpnmepobdnclkaa.Num4
set_option linter.unusedVariables false
open Go.Proofs.Ytpnmepobdnclkaa.Num

theorem take_snoc {l : List (Nat × Nat)} {k : Nat} (h : k < l.length) : l.take (k + 1) = l.take k ++ [l.getD k (0, 0)] := by
  rw [List.take_add_one]
  simp [List.getD, h]

theorem pd_take {l : List (Nat × Nat)} {k : Nat} (h : k < l.length) : pd (l.take (k + 1)) = pd (l.take k) * (l.getD k (0, 0)).1 ^ (l.getD k (0, 0)).2 := by
  rw [take_snoc h, pd_append]; simp [pd]

theorem pd_take_le {m : Nat} {l : List (Nat × Nat)} (hF : Fac m l) (k : Nat) : pd (l.take k) ≤ m := by
  have h : pd (l.take k) * pd (l.drop k) = m := by rw [← pd_append, List.take_append_drop]; exact hF.2.2
  have h1 : 1 ≤ pd (l.drop k) := pd_pos (fun x hx => hF.1 x (List.mem_of_mem_drop hx))
  have h2 : pd (l.take k) * 1 ≤ pd (l.take k) * pd (l.drop k) := Nat.mul_le_mul_left _ h1
  omega

theorem pd_take_pos {m : Nat} {l : List (Nat × Nat)} (hF : Fac m l) (k : Nat) : 1 ≤ pd (l.take k) :=
  pd_pos (fun x hx => hF.1 x (List.mem_of_mem_take hx))

/-- Inside one power. -/
theorem inner_le {m : Nat} {l : List (Nat × Nat)} (hF : Fac m l) {k j : Nat} (h : k < l.length) (hj : j ≤ (l.getD k (0, 0)).2) : pd (l.take k) * (l.getD k (0, 0)).1 ^ j ≤ m := by
  refine Nat.le_trans ?_ (pd_take_le hF (k + 1))
  rw [pd_take h]
  have hp : Pr (l.getD k (0, 0)).1 := (hF.1 _ (by simp [List.getD, h])).1
  exact Nat.mul_le_mul_left _ (Nat.pow_le_pow_right (by have := hp.1; omega) hj)

theorem elem_facts {m : Nat} {l : List (Nat × Nat)} (hF : Fac m l) {k : Nat} (h : k < l.length) : Pr (l.getD k (0, 0)).1 ∧ 1 ≤ (l.getD k (0, 0)).2 := hF.1 _ (by simp [List.getD, h])

theorem elem_le {m : Nat} {l : List (Nat × Nat)} (hF : Fac m l) (hm : 1 ≤ m) {k : Nat} (h : k < l.length) : (l.getD k (0, 0)).1 ≤ m := by
  have hd := mem_dvd_pd hF.1 (show l.getD k (0, 0) ∈ l by simp [List.getD, h])
  rw [hF.2.2] at hd
  exact Nat.le_of_dvd (by omega) hd

theorem elem_exp {m : Nat} {l : List (Nat × Nat)} (hF : Fac m l) (hm : m ≤ 1048576) {k : Nat} (h : k < l.length) : (l.getD k (0, 0)).2 ≤ 20 := by
  have h1 := inner_le hF h (Nat.le_refl _)
  have h2 := pd_take_pos hF k
  obtain ⟨hp, _⟩ := elem_facts hF h
  have h3 : 1 * (l.getD k (0, 0)).1 ^ (l.getD k (0, 0)).2 ≤ pd (l.take k) * (l.getD k (0, 0)).1 ^ (l.getD k (0, 0)).2 := Nat.mul_le_mul_right _ h2
  exact exp_le (m := 1) (n := (l.getD k (0, 0)).1 ^ (l.getD k (0, 0)).2) hp.1 (Nat.le_refl _) (by simp) (by omega)

theorem elem_rise {m : Nat} {l : List (Nat × Nat)} (hF : Fac m l) {k : Nat} (h : k < l.length) (h0 : 0 < k) : (l.getD (k - 1) (0, 0)).1 < (l.getD k (0, 0)).1 := by
  have := List.pairwise_iff_getElem.1 hF.2.1 (k - 1) k (by omega) h (by omega)
  simpa [List.getD, h, show k - 1 < l.length by omega] using this

/-- A list that has been looked at so far: primes, rising, each at least once. -/
def Rising (l : List (Nat × Nat)) : Prop := (∀ x ∈ l, Pr x.1 ∧ 1 ≤ x.2) ∧ l.Pairwise (fun x y => x.1 < y.1)

theorem good_nil : Rising [] := ⟨by simp, by simp⟩

theorem good_snoc {l : List (Nat × Nat)} (h : Rising l) {p k : Nat} (hp : Pr p) (hk : 1 ≤ k) (hr : 0 < l.length → (l.getD (l.length - 1) (0, 0)).1 < p) : Rising (l ++ [(p, k)]) := by
  refine ⟨?_, ?_⟩
  · intro x hx
    rcases List.mem_append.1 hx with hx | hx
    · exact h.1 x hx
    · simp at hx; subst hx; exact ⟨hp, hk⟩
  · refine List.pairwise_append.2 ⟨h.2, by simp, fun x hx y hy => ?_⟩
    simp at hy; subst hy
    obtain ⟨j, hj, rfl⟩ := List.getElem_of_mem hx
    have h1 := hr (by omega)
    rw [List.getD, List.getElem?_eq_getElem (by omega)] at h1
    simp at h1
    by_cases e : j = l.length - 1
    · subst e; exact h1
    · have := List.pairwise_iff_getElem.1 h.2 j (l.length - 1) hj (by omega) (by omega)
      simp at this ⊢; omega

end Go.Proofs.Ytpnmepobdnclkaa.Num4

namespace Go.Proofs.Ytpnmepobdnclkaa.Num6
set_option linter.unusedVariables false
open Go.Proofs.Ytpnmepobdnclkaa.Num Go.Proofs.Ytpnmepobdnclkaa.Num3

theorem cancel {m x y c : Nat} (h : x * c % m = y * c % m) (hc : Nat.gcd c m = 1) : x % m = y % m := by
  have key : ∀ x y, y ≤ x → x * c % m = y * c % m → x % m = y % m := by
    intro x y hle h
    have h1 : m ∣ (x - y) * c := by
      have := Nat.sub_mod_eq_zero_of_mod_eq h
      rw [← Nat.sub_mul] at this
      exact Nat.dvd_of_mod_eq_zero this
    have h2 : m ∣ x - y := (Nat.Coprime.symm hc).dvd_of_dvd_mul_right h1
    obtain ⟨q, hq⟩ := h2
    have e : x = y + m * q := by omega
    rw [e, Nat.add_mul_mod_self_left]
  by_cases hle : y ≤ x
  · exact key x y hle h
  · exact (key y x (by omega) h.symm).symm

theorem pow_mod_one {a m k : Nat} (h : a % m = 1 % m) : a ^ k % m = 1 % m := by
  rw [Nat.pow_mod, h, ← Nat.pow_mod, Nat.one_pow]

/-- Those of 1 to k that have nothing in common with m. -/
def ul (m : Nat) : Nat → List Nat
  | 0 => []
  | k + 1 => ul m k ++ (if Nat.gcd (k + 1) m = 1 then [k + 1] else [])

theorem mem_ul {m d : Nat} : ∀ {k : Nat}, d ∈ ul m k ↔ 1 ≤ d ∧ d ≤ k ∧ Nat.gcd d m = 1
  | 0 => by simp [ul]; omega
  | k + 1 => by
    simp only [ul, List.mem_append, mem_ul (k := k)]
    by_cases h : Nat.gcd (k + 1) m = 1
    · rw [if_pos h]
      constructor
      · rintro (⟨h1, h2, h3⟩ | h1)
        · exact ⟨h1, by omega, h3⟩
        · simp at h1; subst h1; exact ⟨by omega, Nat.le_refl _, h⟩
      · rintro ⟨h1, h2, h3⟩
        by_cases e : d = k + 1
        · right; simp [e]
        · left; exact ⟨h1, by omega, h3⟩
    · rw [if_neg h]
      constructor
      · rintro (⟨h1, h2, h3⟩ | h1)
        · exact ⟨h1, by omega, h3⟩
        · simp at h1
      · rintro ⟨h1, h2, h3⟩
        left
        refine ⟨h1, ?_, h3⟩
        by_cases e : d = k + 1
        · subst e; exact absurd h3 h
        · omega

theorem ul_nodup (m : Nat) : ∀ k, (ul m k).Nodup
  | 0 => by simp [ul]
  | k + 1 => by
    simp only [ul]
    refine List.nodup_append.2 ⟨ul_nodup m k, by split <;> simp, fun x hx y hy => ?_⟩
    have h1 := (mem_ul.1 hx).2.1
    split at hy
    · simp at hy; omega
    · simp at hy

theorem ul_length (m : Nat) : ∀ k, (ul m k).length = cnt (fun x => Nat.gcd x m == 1) k
  | 0 => rfl
  | k + 1 => by
    simp only [ul, List.length_append, ul_length m k, cnt]
    by_cases h : Nat.gcd (k + 1) m = 1
    · simp [h]
    · simp [h]

theorem perm_of_sub {l m : List Nat} : l.Nodup → (∀ x ∈ l, x ∈ m) → m.length ≤ l.length → l.Perm m := by
  induction l generalizing m with
  | nil =>
    intro _ _ h
    have : m = [] := List.length_eq_zero_iff.1 (by simpa using h)
    subst this; exact List.Perm.refl _
  | cons x t ih =>
    intro hn hs hl
    obtain ⟨hx, hn'⟩ := List.nodup_cons.1 hn
    have hxm := hs x (by simp)
    have h1 := ih (m := m.erase x) hn' (fun y hy => by
      have hne : y ≠ x := by intro e; subst e; exact hx hy
      exact (List.mem_erase_of_ne hne).2 (hs y (by simp [hy]))) (by
      rw [List.length_erase_of_mem hxm]; simp at hl; omega)
    exact (List.Perm.cons x h1).trans (List.perm_cons_erase hxm).symm

def prodl (l : List Nat) : Nat := l.foldr (· * ·) 1

theorem prodl_perm {l m : List Nat} (h : l.Perm m) : prodl l = prodl m := by
  induction h with
  | nil => rfl
  | cons x _ ih => simp only [prodl, List.foldr_cons] at ih ⊢; rw [ih]
  | swap x y l => simp only [prodl, List.foldr_cons]; rw [Nat.mul_left_comm]
  | trans _ _ h1 h2 => rw [h1, h2]

theorem prodl_map (a m : Nat) (l : List Nat) : prodl (l.map (fun x => a * x % m)) % m = a ^ l.length * prodl l % m := by
  induction l with
  | nil => simp [prodl]
  | cons x xs ih =>
    simp only [prodl, List.map_cons, List.foldr_cons, List.length_cons] at ih ⊢
    rw [Nat.mul_mod, ih, Nat.mod_mod, ← Nat.mul_mod, Nat.pow_succ]
    congr 1
    rw [Nat.mul_mul_mul_comm a x, Nat.mul_comm a (a ^ xs.length)]

theorem prodl_cop {m : Nat} {l : List Nat} (h : ∀ x ∈ l, Nat.gcd x m = 1) : Nat.gcd (prodl l) m = 1 := by
  induction l with
  | nil => simp [prodl]
  | cons x xs ih =>
    show Nat.gcd (x * prodl xs) m = 1
    exact Nat.Coprime.mul_left (h x (by simp)) (ih (fun y hy => h y (by simp [hy])))

theorem gcd_mod (a m : Nat) : Nat.gcd (a % m) m = Nat.gcd a m := by
  rw [← Nat.gcd_rec, Nat.gcd_comm]

/-- Euler. -/
theorem euler {a m : Nat} (hm : 1 ≤ m) (h : Nat.gcd a m = 1) : a ^ tot m % m = 1 % m := by
  by_cases h1 : m = 1
  · subst h1; rw [Nat.mod_one, Nat.mod_one]
  have hm2 : 2 ≤ m := by omega
  have hlt : ∀ x ∈ ul m m, x < m := fun x hx => by
    obtain ⟨h1, h2, h3⟩ := mem_ul.1 hx
    by_cases e : x = m
    · subst e; rw [Nat.gcd_self] at h3; omega
    · omega
  have hmem : ∀ x ∈ ul m m, a * x % m ∈ ul m m := fun x hx => by
    obtain ⟨h1, h2, h3⟩ := mem_ul.1 hx
    have hg : Nat.gcd (a * x % m) m = 1 := by rw [gcd_mod]; exact Nat.Coprime.mul_left h h3
    refine mem_ul.2 ⟨?_, Nat.le_of_lt (Nat.mod_lt _ (by omega)), hg⟩
    rcases Nat.eq_zero_or_pos (a * x % m) with e | e
    · rw [e, Nat.gcd_zero_left] at hg; omega
    · exact e
  have hp : ((ul m m).map (fun x => a * x % m)).Perm (ul m m) := by
    refine perm_of_sub ?_ ?_ (by simp)
    · refine List.pairwise_map.2 ((ul_nodup m m).imp_of_mem (fun {x y} hx hy hne e => hne ?_))
      have e2 := cancel (m := m) (x := x) (y := y) (c := a) (by rw [Nat.mul_comm x, Nat.mul_comm y]; exact e) h
      rwa [Nat.mod_eq_of_lt (hlt x hx), Nat.mod_eq_of_lt (hlt y hy)] at e2
    · intro y hy
      obtain ⟨x, hx, rfl⟩ := List.mem_map.1 hy
      exact hmem x hx
  have e1 := prodl_map a m (ul m m)
  rw [prodl_perm hp, ul_length] at e1
  have hc := prodl_cop (m := m) (l := ul m m) (fun x hx => (mem_ul.1 hx).2.2)
  have e2 : a ^ tot m * prodl (ul m m) % m = 1 * prodl (ul m m) % m := by rw [Nat.one_mul]; exact e1.symm
  exact cancel e2 hc

/-- When powers are 1 again. -/
def IsOrd (a m o : Nat) : Prop := 1 ≤ o ∧ a ^ o % m = 1 % m ∧ ∀ k, 1 ≤ k → k < o → ¬ a ^ k % m = 1 % m

theorem IsOrd.dvd {a m o : Nat} (h : IsOrd a m o) (k : Nat) : a ^ k % m = 1 % m ↔ o ∣ k := by
  have hsplit : a ^ k % m = a ^ (k % o) % m := by
    conv => lhs; rw [← Nat.div_add_mod k o, Nat.pow_add, Nat.pow_mul, Nat.mul_mod, pow_mod_one h.2.1, ← Nat.mul_mod, Nat.one_mul]
  constructor
  · intro e
    rw [hsplit] at e
    rcases Nat.eq_zero_or_pos (k % o) with h0 | h0
    · exact Nat.dvd_of_mod_eq_zero h0
    · exact absurd e (h.2.2 _ h0 (Nat.mod_lt _ h.1))
  · intro hd
    rw [hsplit, Nat.mod_eq_zero_of_dvd hd, Nat.pow_zero]

theorem IsOrd.uniq {a m o o' : Nat} (h : IsOrd a m o) (h' : IsOrd a m o') : o = o' :=
  Nat.dvd_antisymm ((h.dvd o').1 h'.2.1) ((h'.dvd o).1 h.2.1)

theorem isOrd_of_dvd {a m o : Nat} (ho : 1 ≤ o) (h : ∀ k, a ^ k % m = 1 % m ↔ o ∣ k) : IsOrd a m o :=
  ⟨ho, (h o).2 (Nat.dvd_refl _), fun k h1 h2 e => by have := Nat.le_of_dvd (by omega) ((h k).1 e); omega⟩

theorem cop_of_pow {a m k : Nat} (hm : 1 ≤ m) (hk : 1 ≤ k) (h : a ^ k % m = 1 % m) : Nat.gcd a m = 1 := by
  have h1 : Nat.gcd (a ^ k) m = 1 := by
    rw [← gcd_mod, h, gcd_mod, Nat.gcd_one_left]
  have h2 : Nat.gcd a m ∣ Nat.gcd (a ^ k) m := Nat.dvd_gcd (Nat.dvd_trans (Nat.gcd_dvd_left a m) (by
    have := Nat.pow_dvd_pow a hk
    rwa [Nat.pow_one] at this)) (Nat.gcd_dvd_right a m)
  rw [h1] at h2
  exact Nat.dvd_one.1 h2

theorem least_ex {P : Nat → Prop} : ∀ n, P n → ∃ k, P k ∧ k ≤ n ∧ ∀ j, j < k → ¬ P j := by
  intro n
  induction n using Nat.strongRecOn with
  | ind n ih =>
    intro h
    by_cases hex : ∃ j, j < n ∧ P j
    · obtain ⟨j, hj, hp⟩ := hex
      obtain ⟨k, h1, h2, h3⟩ := ih j hj hp
      exact ⟨k, h1, by omega, h3⟩
    · exact ⟨n, h, Nat.le_refl _, fun j hj hp => hex ⟨j, hj, hp⟩⟩

theorem ord_ex {a m : Nat} (hm : 1 ≤ m) (h : Nat.gcd a m = 1) : ∃ o, IsOrd a m o ∧ o ∣ tot m := by
  obtain ⟨k, ⟨h1, h2⟩, h3, h4⟩ := least_ex (P := fun k => 1 ≤ k ∧ a ^ k % m = 1 % m) (tot m) ⟨tot_pos hm, euler hm h⟩
  have ho : IsOrd a m k := ⟨h1, h2, fun j hj1 hj2 e => h4 j hj2 ⟨hj1, e⟩⟩
  exact ⟨k, ho, (ho.dvd _).1 (euler hm h)⟩

theorem isOrd_mod {a m o : Nat} : IsOrd (a % m) m o ↔ IsOrd a m o := by
  unfold IsOrd
  simp only [← Nat.pow_mod]

theorem pow_pow_one {a m k j : Nat} : (a ^ j) ^ k % m = 1 % m ↔ a ^ (j * k) % m = 1 % m := by rw [Nat.pow_mul]

theorem IsOrd.pow {a m s t : Nat} (h : IsOrd a m (s * t)) : IsOrd (a ^ s) m t := by
  have hs : 1 ≤ s := by
    rcases Nat.eq_zero_or_pos s with e | e
    · have := h.1; rw [e, Nat.zero_mul] at this; omega
    · exact e
  have ht : 1 ≤ t := by
    rcases Nat.eq_zero_or_pos t with e | e
    · have := h.1; rw [e, Nat.mul_zero] at this; omega
    · exact e
  refine isOrd_of_dvd ht (fun k => ?_)
  rw [pow_pow_one, h.dvd]
  exact Nat.mul_dvd_mul_iff_left hs

/-- Orders that have nothing in common multiply. -/
theorem IsOrd.mul {a b m s t : Nat} (ha : IsOrd a m s) (hb : IsOrd b m t) (hm : 1 ≤ m) (hst : Nat.gcd s t = 1) : IsOrd (a * b) m (s * t) := by
  have hga := cop_of_pow hm ha.1 ha.2.1
  have hgb := cop_of_pow hm hb.1 hb.2.1
  refine isOrd_of_dvd (Nat.mul_le_mul ha.1 hb.1) (fun k => ?_)
  constructor
  · intro e
    have key : ∀ {a b s t : Nat}, IsOrd a m s → IsOrd b m t → Nat.gcd s t = 1 → (a * b) ^ k % m = 1 % m → s ∣ k := by
      intro a b s t ha hb hst e
      have e1 : ((a * b) ^ k) ^ t % m = 1 % m := pow_mod_one e
      have e2 : a ^ (k * t) % m = 1 % m := by
        rw [← Nat.pow_mul, Nat.mul_pow, Nat.mul_mod, (hb.dvd (k * t)).2 (Nat.dvd_mul_left _ _), ← Nat.mul_mod, Nat.mul_one] at e1
        exact e1
      have e3 := (ha.dvd _).1 e2
      exact Nat.Coprime.dvd_of_dvd_mul_right hst e3
    have h1 := key ha hb hst e
    have h2 := key hb ha (by rw [Nat.gcd_comm]; exact hst) (by rw [Nat.mul_comm]; exact e)
    exact Nat.Coprime.mul_dvd_of_dvd_of_dvd hst h1 h2
  · intro hd
    rw [Nat.mul_pow, Nat.mul_mod, (ha.dvd k).2 (Nat.dvd_trans (Nat.dvd_mul_right _ _) hd), (hb.dvd k).2 (Nat.dvd_trans (Nat.dvd_mul_left _ _) hd), ← Nat.mul_mod, Nat.one_mul]

/-- Any two numbers have divisors that have nothing in common, and whose product is what both divide. -/
theorem lcm_split : ∀ (a b : Nat), 1 ≤ a → 1 ≤ b → ∃ s t, s ∣ a ∧ t ∣ b ∧ Nat.gcd s t = 1 ∧ s * t = Nat.lcm a b := by
  have key : ∀ n a b, a + b = n → 1 ≤ a → 1 ≤ b → ∃ s t, s ∣ a ∧ t ∣ b ∧ Nat.gcd s t = 1 ∧ s * t = Nat.lcm a b := by
    intro n
    induction n using Nat.strongRecOn with
    | ind n ih =>
      intro a b hn ha hb
      by_cases hg : Nat.gcd a b = 1
      · exact ⟨a, b, Nat.dvd_refl _, Nat.dvd_refl _, hg, by rw [Nat.lcm, hg, Nat.div_one]⟩
      · have hg2 : 2 ≤ Nat.gcd a b := by
          have := Nat.gcd_pos_of_pos_left b (show 0 < a by omega)
          omega
        obtain ⟨p, hp, hpd, _⟩ := least_prime hg2
        have hpa := Nat.dvd_trans hpd (Nat.gcd_dvd_left a b)
        have hpb := Nat.dvd_trans hpd (Nat.gcd_dvd_right a b)
        obtain ⟨i, a', ea, ha', ha1⟩ := pow_out hp.1 a ha
        obtain ⟨j, b', eb, hb', hb1⟩ := pow_out hp.1 b hb
        have hi : 1 ≤ i := by
          rcases Nat.eq_zero_or_pos i with e | e
          · subst e; rw [Nat.pow_zero, Nat.one_mul] at ea; subst ea; exact absurd hpa ha'
          · exact e
        have hj : 1 ≤ j := by
          rcases Nat.eq_zero_or_pos j with e | e
          · subst e; rw [Nat.pow_zero, Nat.one_mul] at eb; subst eb; exact absurd hpb hb'
          · exact e
        have h2i := two_le_pow hp.1 hi
        have hlt : a' + b' < n := by
          have h3 : 2 * a' ≤ p ^ i * a' := Nat.mul_le_mul_right a' h2i
          have h4 : 1 * b' ≤ p ^ j * b' := Nat.mul_le_mul_right b' (Nat.pow_pos (by have := hp.1; omega))
          omega
        obtain ⟨s, t, hs, ht, hst, hl⟩ := ih (a' + b') hlt a' b' rfl ha1 hb1
        have hcs : ∀ {k x : Nat}, ¬ p ∣ x → Nat.gcd (p ^ k) x = 1 := fun {k x} hx => by
          refine Nat.Coprime.pow_left k ?_
          have := (gcd_prime (x := x) hp).2 hx
          rw [Nat.gcd_comm] at this
          exact this
        have hps : ¬ p ∣ s := fun h => ha' (Nat.dvd_trans h hs)
        have hpt : ¬ p ∣ t := fun h => hb' (Nat.dvd_trans h ht)
        have hlcm : Nat.lcm a b = p ^ (max i j) * Nat.lcm a' b' := by
          rw [ea, eb]
          have hu : ∀ x, x ∣ p ^ (max i j) * Nat.lcm a' b' → True := fun _ _ => trivial
          refine Nat.dvd_antisymm (Nat.lcm_dvd (Nat.mul_dvd_mul (Nat.pow_dvd_pow p (Nat.le_max_left i j)) (Nat.dvd_lcm_left a' b')) (Nat.mul_dvd_mul (Nat.pow_dvd_pow p (Nat.le_max_right i j)) (Nat.dvd_lcm_right a' b'))) ?_
          have hL1 := Nat.dvd_lcm_left (p ^ i * a') (p ^ j * b')
          have hL2 := Nat.dvd_lcm_right (p ^ i * a') (p ^ j * b')
          have hpmax : p ^ (max i j) ∣ Nat.lcm (p ^ i * a') (p ^ j * b') := by
            rcases Nat.le_total i j with h | h
            · rw [Nat.max_eq_right h]; exact Nat.dvd_trans (Nat.dvd_mul_right _ _) hL2
            · rw [Nat.max_eq_left h]; exact Nat.dvd_trans (Nat.dvd_mul_right _ _) hL1
          have hlow : Nat.lcm a' b' ∣ Nat.lcm (p ^ i * a') (p ^ j * b') := Nat.lcm_dvd (Nat.dvd_trans (Nat.dvd_mul_left _ _) hL1) (Nat.dvd_trans (Nat.dvd_mul_left _ _) hL2)
          have hcop : Nat.gcd (p ^ (max i j)) (Nat.lcm a' b') = 1 := by
            refine hcs (fun h => ?_)
            have h5 : p ∣ a' * b' := Nat.dvd_trans h (by rw [← Nat.gcd_mul_lcm a' b']; exact Nat.dvd_mul_left _ _)
            rcases hp.dvd_mul h5 with h | h
            · exact ha' h
            · exact hb' h
          exact Nat.Coprime.mul_dvd_of_dvd_of_dvd hcop hpmax hlow
        rcases Nat.le_total i j with h | h
        · refine ⟨s, p ^ j * t, Nat.dvd_trans hs (by rw [ea]; exact Nat.dvd_mul_left _ _), by rw [eb]; exact Nat.mul_dvd_mul (Nat.dvd_refl _) ht, ?_, ?_⟩
          · exact Nat.Coprime.mul_right (by rw [Nat.coprime_comm]; exact hcs hps) hst
          · rw [hlcm, Nat.max_eq_right h, ← hl, Nat.mul_left_comm]
        · refine ⟨p ^ i * s, t, by rw [ea]; exact Nat.mul_dvd_mul (Nat.dvd_refl _) hs, Nat.dvd_trans ht (by rw [eb]; exact Nat.dvd_mul_left _ _), ?_, ?_⟩
          · exact Nat.Coprime.mul_left (hcs hpt) hst
          · rw [hlcm, Nat.max_eq_left h, ← hl, Nat.mul_assoc]
  intro a b ha hb
  exact key (a + b) a b rfl ha hb

theorem ord_lcm {a b m s t : Nat} (ha : IsOrd a m s) (hb : IsOrd b m t) (hm : 1 ≤ m) : ∃ c, IsOrd c m (Nat.lcm s t) := by
  obtain ⟨u, v, hu, hv, huv, e⟩ := lcm_split s t ha.1 hb.1
  obtain ⟨s', rfl⟩ := hu
  obtain ⟨t', rfl⟩ := hv
  have h1 : IsOrd (a ^ s') m u := IsOrd.pow (by rw [Nat.mul_comm]; exact ha)
  have h2 : IsOrd (b ^ t') m v := IsOrd.pow (by rw [Nat.mul_comm]; exact hb)
  have := h1.mul h2 hm huv
  rw [e] at this
  exact ⟨_, this⟩

/-- The least number that all orders divide is an order itself (Carmichael). -/
theorem lambda_ex {m : Nat} (hm : 1 ≤ m) : ∃ c L, IsOrd c m L ∧ ∀ a o, IsOrd a m o → o ∣ L := by
  have key : ∀ k, ∃ c L, IsOrd c m L ∧ ∀ a, 1 ≤ a → a ≤ k → ∀ o, IsOrd a m o → o ∣ L := by
    intro k
    induction k with
    | zero =>
      refine ⟨1, 1, ⟨Nat.le_refl _, by simp, fun k h1 h2 => by omega⟩, fun a h1 h2 => by omega⟩
    | succ k ih =>
      obtain ⟨c, L, hc, hall⟩ := ih
      by_cases hex : ∃ o, IsOrd (k + 1) m o
      · obtain ⟨o, ho⟩ := hex
        obtain ⟨d, hd⟩ := ord_lcm hc ho hm
        refine ⟨d, Nat.lcm L o, hd, fun a h1 h2 o' ho' => ?_⟩
        by_cases e : a = k + 1
        · subst e; rw [ho'.uniq ho]; exact Nat.dvd_lcm_right L o
        · exact Nat.dvd_trans (hall a h1 (by omega) o' ho') (Nat.dvd_lcm_left L o)
      · refine ⟨c, L, hc, fun a h1 h2 o' ho' => ?_⟩
        by_cases e : a = k + 1
        · subst e; exact absurd ⟨o', ho'⟩ hex
        · exact hall a h1 (by omega) o' ho'
  obtain ⟨c, L, hc, hall⟩ := key m
  refine ⟨c, L, hc, fun a o ho => ?_⟩
  by_cases h0 : a % m = 0
  · -- then the modulus is 1
    have hg := cop_of_pow hm ho.1 ho.2.1
    have : m = 1 := by
      have h1 : m ∣ a := Nat.dvd_of_mod_eq_zero h0
      have h2 : m ∣ Nat.gcd a m := Nat.dvd_gcd h1 (Nat.dvd_refl _)
      rw [hg] at h2
      exact Nat.dvd_one.1 h2
    subst this
    have h1 : IsOrd a 1 1 := ⟨Nat.le_refl _, by rw [Nat.mod_one, Nat.mod_one], fun k h1 h2 => by omega⟩
    rw [ho.uniq h1]
    exact Nat.one_dvd _
  · exact hall (a % m) (by omega) (Nat.le_of_lt (Nat.mod_lt _ (by omega))) o (isOrd_mod.2 ho)

end Go.Proofs.Ytpnmepobdnclkaa.Num6

namespace Go.Proofs.Ytpnmepobdnclkaa.Num7
set_option linter.unusedVariables false
open Go.Proofs.Ytpnmepobdnclkaa.Num Go.Proofs.Ytpnmepobdnclkaa.Num3 Go.Proofs.Ytpnmepobdnclkaa.Num6

/-- What a polynomial is at x: the lowest number first. -/
def ev : List Int → Int → Int
  | [], _ => 0
  | c :: cs, x => c + x * ev cs x

/-- What is left when x less r is divided out. -/
def qt (r : Int) : List Int → List Int
  | [] => []
  | [_] => []
  | _ :: c :: cs => ev (c :: cs) r :: qt r (c :: cs)

theorem qt_length (r : Int) : ∀ f : List Int, (qt r f).length = f.length - 1
  | [] => rfl
  | [_] => rfl
  | _ :: c :: cs => by simp only [qt, List.length_cons, qt_length r (c :: cs)]; omega

theorem ev_qt (r x : Int) : ∀ f : List Int, ev f x = ev f r + (x - r) * ev (qt r f) x
  | [] => by simp [ev, qt]
  | [c] => by simp [ev, qt]
  | c :: d :: cs => by
    have ih := ev_qt r x (d :: cs)
    show c + x * ev (d :: cs) x = c + r * ev (d :: cs) r + (x - r) * (ev (d :: cs) r + x * ev (qt r (d :: cs)) x)
    rw [ih]
    generalize ev (d :: cs) r = E
    generalize ev (qt r (d :: cs)) x = Q
    have e1 : x * (E + (x - r) * Q) = x * E + (x - r) * (x * Q) := by
      rw [Int.mul_add, Int.mul_left_comm]
    have e2 : (x - r) * (E + x * Q) = (x - r) * E + (x - r) * (x * Q) := Int.mul_add _ _ _
    have e3 : (x - r) * E = x * E - r * E := Int.sub_mul _ _ _
    rw [e1, e2, e3]; omega

theorem int_dvd_mul {p : Nat} (hp : Pr p) {a b : Int} (h : (p : Int) ∣ a * b) : (p : Int) ∣ a ∨ (p : Int) ∣ b := by
  have h1 : p ∣ a.natAbs * b.natAbs := by
    rw [← Int.natAbs_mul]
    have := Int.natAbs_dvd_natAbs.2 h
    simpa using this
  rcases hp.dvd_mul h1 with h | h
  · exact .inl (Int.natAbs_dvd_natAbs.1 (by simpa using h))
  · exact .inr (Int.natAbs_dvd_natAbs.1 (by simpa using h))

theorem qt_zero {p : Nat} (r : Int) : ∀ f : List Int, (p : Int) ∣ ev f r → (∀ c ∈ qt r f, (p : Int) ∣ c) → ∀ c ∈ f, (p : Int) ∣ c
  | [], _, _ => by simp
  | [c], h, _ => by
    intro x hx
    simp at hx; subst hx
    simpa [ev] using h
  | c :: d :: cs, h, hq => by
    have h1 : (p : Int) ∣ ev (d :: cs) r := hq _ (by simp [qt])
    have h2 := qt_zero r (d :: cs) h1 (fun x hx => hq x (by simp only [qt]; exact List.mem_cons_of_mem _ hx))
    intro x hx
    rcases List.mem_cons.1 hx with e | hx
    · subst e
      have h3 : (p : Int) ∣ x + r * ev (d :: cs) r := h
      have h4 : (p : Int) ∣ r * ev (d :: cs) r := Int.dvd_trans h1 (Int.dvd_mul_left _ _)
      exact (Int.dvd_add_left h4).1 h3
    · exact h2 x hx

/-- Lagrange: as many roots, no two of them the same by the prime, as there are numbers: then all numbers are 0. -/
theorem roots {p : Nat} (hp : Pr p) : ∀ (S : List Int) (f : List Int), f.length ≤ S.length → S.Pairwise (fun x y => ¬ (p : Int) ∣ x - y) → (∀ x ∈ S, (p : Int) ∣ ev f x) → ∀ c ∈ f, (p : Int) ∣ c := by
  intro S
  induction S with
  | nil =>
    intro f hl _ _ c hc
    have : f = [] := List.length_eq_zero_iff.1 (by simpa using hl)
    subst this; simp at hc
  | cons r S ih =>
    intro f hl hw hr
    have hr0 := hr r (by simp)
    refine qt_zero r f hr0 (ih (qt r f) ?_ (List.pairwise_cons.1 hw).2 (fun x hx => ?_))
    · rw [qt_length]; simp at hl; omega
    · have h1 := hr x (by simp [hx])
      rw [ev_qt r x f] at h1
      have h2 : (p : Int) ∣ (x - r) * ev (qt r f) x := (Int.dvd_add_right hr0).1 h1
      rcases int_dvd_mul hp h2 with h | h
      · exfalso
        refine (List.pairwise_cons.1 hw).1 x hx ?_
        have : r - x = -(x - r) := by omega
        rw [this]
        exact Int.dvd_neg.2 h
      · exact h

/-- x to the nth. -/
def mono : Nat → List Int
  | 0 => [1]
  | n + 1 => 0 :: mono n

theorem ev_mono (x : Int) : ∀ n, ev (mono n) x = x ^ n
  | 0 => by simp [mono, ev]
  | n + 1 => by
    show 0 + x * ev (mono n) x = x ^ (n + 1)
    rw [ev_mono x n, Int.pow_succ, Int.mul_comm, Int.zero_add]

theorem mono_length : ∀ n, (mono n).length = n + 1
  | 0 => rfl
  | n + 1 => by simp [mono, mono_length n]

theorem one_mem_mono : ∀ n, (1 : Int) ∈ mono n
  | 0 => by simp [mono]
  | n + 1 => List.mem_cons_of_mem _ (one_mem_mono n)

/-- x to the nth, less 1. -/
def mono1 (n : Nat) : List Int := -1 :: mono (n - 1)

theorem ev_mono1 (x : Int) {n : Nat} (h : 1 ≤ n) : ev (mono1 n) x = x ^ n - 1 := by
  show -1 + x * ev (mono (n - 1)) x = x ^ n - 1
  rw [ev_mono]
  have : x * x ^ (n - 1) = x ^ n := by
    conv => rhs; rw [show n = (n - 1) + 1 by omega, Int.pow_succ]
    rw [Int.mul_comm]
  omega

theorem natpow_cast (a k : Nat) : ((a ^ k : Nat) : Int) = (a : Int) ^ k := by
  exact Int.natCast_pow a k

/-- At most n of the numbers below a prime have 1 as their nth power. -/
theorem root_bound {p n : Nat} (hp : Pr p) (hn : 1 ≤ n) (S : List Nat) (hS : S.Nodup) (hb : ∀ x ∈ S, x < p) (hr : ∀ x ∈ S, x ^ n % p = 1) : S.length ≤ n := by
  rcases Nat.lt_or_ge n S.length with h | h
  · exfalso
    have hlt : ∀ {x y : Nat}, x < p → y < p → x ≠ y → ¬ (p : Int) ∣ (x : Int) - (y : Int) := by
      intro x y hx hy hne hd
      obtain ⟨q, hq⟩ := hd
      have h1 : (x : Int) - y < p := by omega
      have h2 : -(p : Int) < (x : Int) - y := by omega
      rw [hq] at h1 h2
      have hp0 : (0 : Int) < p := by have := hp.1; omega
      have hq1 : q < 1 := by
        rcases Int.lt_or_le q 1 with h | h
        · exact h
        · have : (p : Int) * 1 ≤ p * q := Int.mul_le_mul_of_nonneg_left h (by omega)
          omega
      have hq2 : -1 < q := by
        rcases Int.lt_or_le (-1) q with h | h
        · exact h
        · have : (p : Int) * q ≤ p * (-1) := Int.mul_le_mul_of_nonneg_left h (by omega)
          omega
      have : q = 0 := by omega
      subst this
      simp at hq; omega
    have hall := roots hp (S.map (fun x : Nat => (x : Int))) (mono1 n) (by simp [mono1, mono_length]; omega) (List.pairwise_map.2 (hS.imp_of_mem (fun {x y} hx hy hne => hlt (hb x hx) (hb y hy) hne))) (fun z hz => by
      obtain ⟨x, hx, rfl⟩ := List.mem_map.1 hz
      rw [ev_mono1 _ hn, ← natpow_cast]
      have e := Nat.div_add_mod (x ^ n) p
      rw [hr x hx] at e
      refine ⟨((x ^ n / p : Nat) : Int), ?_⟩
      have e2 : ((x ^ n : Nat) : Int) = ((p * (x ^ n / p) + 1 : Nat) : Int) := by rw [e]
      rw [e2]; simp)
    have h1 := hall 1 (by simp only [mono1]; exact List.mem_cons_of_mem _ (one_mem_mono _))
    obtain ⟨q, hq⟩ := h1
    have := Int.le_of_dvd (by omega) (show (p : Int) ∣ 1 from ⟨q, hq⟩)
    have := hp.1
    omega
  · exact h

/-- A prime has a number whose powers are all. -/
theorem prim_ex {p : Nat} (hp : Pr p) : ∃ g, IsOrd g p (p - 1) := by
  have h2 := hp.1
  obtain ⟨c, L, hc, hall⟩ := lambda_ex (m := p) (by omega)
  have hone : 1 % p = 1 := Nat.mod_eq_of_lt (by omega)
  have htot : tot p = p - 1 := by
    have := tot_out (m := 1) hp (fun h => by have := Nat.le_of_dvd (by omega) h; omega)
    rw [Nat.mul_one, tot_one, Nat.mul_one] at this
    exact this
  have hLd : L ∣ p - 1 := by
    obtain ⟨o, ho, hd⟩ := ord_ex (m := p) (by omega) (cop_of_pow (by omega) hc.1 hc.2.1)
    rw [hc.uniq ho, ← htot]; exact hd
  have hlen : p - 1 ≤ L := by
    have hb := root_bound hp hc.1 ((List.range (p - 1)).map (· + 1)) (by
      refine List.pairwise_map.2 ((List.nodup_range (n := p - 1)).imp (fun {a b} h e => h ?_))
      omega) (fun x hx => by
      obtain ⟨y, hy, rfl⟩ := List.mem_map.1 hx
      have := List.mem_range.1 hy
      omega) (fun x hx => by
      obtain ⟨y, hy, rfl⟩ := List.mem_map.1 hx
      have hy' := List.mem_range.1 hy
      have hg : Nat.gcd (y + 1) p = 1 := (gcd_prime hp).2 (fun h => by have := Nat.le_of_dvd (by omega) h; omega)
      obtain ⟨o, ho, _⟩ := ord_ex (m := p) (by omega) hg
      have h3 := (ho.dvd L).2 (hall _ o ho)
      rw [hone] at h3; exact h3)
    simpa using hb
  have : L = p - 1 := Nat.le_antisymm (Nat.le_of_dvd (by omega) hLd) hlen
  rw [this] at hc
  exact ⟨c, hc⟩

/-- Fermat. -/
theorem fermat {p : Nat} (hp : Pr p) (a : Nat) : a ^ p % p = a % p := by
  by_cases hd : p ∣ a
  · rw [Nat.pow_mod, Nat.mod_eq_zero_of_dvd hd, Nat.zero_pow (by have := hp.1; omega), Nat.zero_mod]
  · have hg := (gcd_prime hp).2 hd
    have he := euler (m := p) (by have := hp.1; omega) hg
    have htot : tot p = p - 1 := by
      have := tot_out (m := 1) hp (fun h => by have := Nat.le_of_dvd (by omega) h; have := hp.1; omega)
      rw [Nat.mul_one, tot_one, Nat.mul_one] at this
      exact this
    rw [htot] at he
    have e : a ^ p = a ^ (p - 1) * a := by
      conv => lhs; rw [show p = (p - 1) + 1 by have := hp.1; omega, Nat.pow_succ]
    rw [e, Nat.mul_mod, he, ← Nat.mul_mod, Nat.one_mul]

end Go.Proofs.Ytpnmepobdnclkaa.Num7

namespace Go.Proofs.Ytpnmepobdnclkaa.Num8
set_option linter.unusedVariables false
open Go.Proofs.Ytpnmepobdnclkaa.Num Go.Proofs.Ytpnmepobdnclkaa.Num3 Go.Proofs.Ytpnmepobdnclkaa.Num6 Go.Proofs.Ytpnmepobdnclkaa.Num7

/-- Rests are the same just if the difference is divided. -/
theorem mod_eq_iff {m x y : Nat} : x % m = y % m ↔ (m : Int) ∣ (x : Int) - (y : Int) := by
  constructor
  · intro h
    have e1 := Nat.div_add_mod x m
    have e2 := Nat.div_add_mod y m
    refine ⟨((x / m : Nat) : Int) - ((y / m : Nat) : Int), ?_⟩
    have f1 : (x : Int) = (m : Int) * ((x / m : Nat) : Int) + ((x % m : Nat) : Int) := by rw [← Int.natCast_mul, ← Int.natCast_add, e1]
    have f2 : (y : Int) = (m : Int) * ((y / m : Nat) : Int) + ((y % m : Nat) : Int) := by rw [← Int.natCast_mul, ← Int.natCast_add, e2]
    rw [Int.mul_sub]
    rw [h] at f1
    omega
  · rintro ⟨q, hq⟩
    have e : (x : Int) = y + m * q := by omega
    have h1 : (x : Int) % m = (y : Int) % m := by rw [e, Int.add_mul_emod_self_left]
    have h2 : ((x % m : Nat) : Int) = ((y % m : Nat) : Int) := by simpa using h1
    omega

theorem int_cop_dvd {m n : Nat} (h : Nat.gcd m n = 1) {z : Int} (h1 : (m : Int) ∣ z) (h2 : (n : Int) ∣ z) : ((m * n : Nat) : Int) ∣ z := by
  have a1 : m ∣ z.natAbs := by have := Int.natAbs_dvd_natAbs.2 h1; simpa using this
  have a2 : n ∣ z.natAbs := by have := Int.natAbs_dvd_natAbs.2 h2; simpa using this
  have a3 : m * n ∣ z.natAbs := Nat.Coprime.mul_dvd_of_dvd_of_dvd h a1 a2
  exact Int.natAbs_dvd_natAbs.1 (by rw [Int.natAbs_natCast]; exact a3)

theorem mod_mul_iff {m n x y : Nat} (h : Nat.gcd m n = 1) : x % (m * n) = y % (m * n) ↔ x % m = y % m ∧ x % n = y % n := by
  rw [mod_eq_iff, mod_eq_iff, mod_eq_iff]
  constructor
  · intro hd
    exact ⟨Int.dvd_trans ⟨(n : Int), by rw [Int.natCast_mul]⟩ hd, Int.dvd_trans ⟨(m : Int), by rw [Int.natCast_mul, Int.mul_comm]⟩ hd⟩
  · rintro ⟨h1, h2⟩
    exact int_cop_dvd h h1 h2

/-- Sun Tzu. -/
theorem sun {m n : Nat} (hm : 1 ≤ m) (hn : 1 ≤ n) (h : Nat.gcd m n = 1) (a b : Nat) : ∃ c, c % m = a % m ∧ c % n = b % n := by
  obtain ⟨u, v, e⟩ := Num2.bez m n
  rw [h] at e
  -- a * v * n + b * u * m
  obtain ⟨Z, hZ⟩ : ∃ Z : Int, Z = (a : Int) * (v * n) + (b : Int) * (u * m) := ⟨_, rfl⟩
  have hmn : (0 : Int) < ((m * n : Nat) : Int) := by
    have : 1 ≤ m * n := Nat.mul_le_mul hm hn
    omega
  have h0 := Int.emod_nonneg Z (show ((m * n : Nat) : Int) ≠ 0 by omega)
  have hdm : ((m * n : Nat) : Int) ∣ Z - Z % ((m * n : Nat) : Int) := Int.dvd_self_sub_emod
  have hc : ((Z % ((m * n : Nat) : Int)).toNat : Int) = Z % ((m * n : Nat) : Int) := Int.toNat_of_nonneg h0
  refine ⟨(Z % ((m * n : Nat) : Int)).toNat, ?_, ?_⟩
  · rw [mod_eq_iff, hc]
    have h1 : (m : Int) ∣ Z - Z % ((m * n : Nat) : Int) := Int.dvd_trans ⟨(n : Int), by rw [Int.natCast_mul]⟩ hdm
    have h2 : (m : Int) ∣ Z - a := by
      have : Z - (a : Int) = (m : Int) * ((b : Int) * u - (a : Int) * u) := by
        have e1 : v * (n : Int) = 1 - u * m := by omega
        rw [hZ, e1, Int.mul_sub, Int.mul_sub, Int.mul_one, Int.mul_left_comm (m : Int) (b : Int) u, Int.mul_left_comm (m : Int) (a : Int) u, Int.mul_comm (m : Int) u]
        omega
      exact ⟨_, this⟩
    have h3 := Int.dvd_sub h2 h1
    have e2 : Z - (a : Int) - (Z - Z % ((m * n : Nat) : Int)) = Z % ((m * n : Nat) : Int) - a := by omega
    rwa [e2] at h3
  · rw [mod_eq_iff, hc]
    have h1 : (n : Int) ∣ Z - Z % ((m * n : Nat) : Int) := Int.dvd_trans ⟨(m : Int), by rw [Int.natCast_mul, Int.mul_comm]⟩ hdm
    have h2 : (n : Int) ∣ Z - b := by
      have : Z - (b : Int) = (n : Int) * ((a : Int) * v - (b : Int) * v) := by
        have e1 : u * (m : Int) = 1 - v * n := by omega
        rw [hZ, e1, Int.mul_sub, Int.mul_sub, Int.mul_one, Int.mul_left_comm (n : Int) (a : Int) v, Int.mul_left_comm (n : Int) (b : Int) v, Int.mul_comm (n : Int) v]
        omega
      exact ⟨_, this⟩
    have h3 := Int.dvd_sub h2 h1
    have e2 : Z - (b : Int) - (Z - Z % ((m * n : Nat) : Int)) = Z % ((m * n : Nat) : Int) - b := by omega
    rwa [e2] at h3

/-- The least number that all orders divide. -/
def IsLam (m L : Nat) : Prop := (∃ c, IsOrd c m L) ∧ ∀ a o, IsOrd a m o → o ∣ L

theorem IsLam.uniq {m L K : Nat} (h : IsLam m L) (k : IsLam m K) : L = K := by
  obtain ⟨⟨c, hc⟩, hL⟩ := h
  obtain ⟨⟨d, hd⟩, hK⟩ := k
  exact Nat.dvd_antisymm (hK c L hc) (hL d K hd)

theorem lam_ex {m : Nat} (hm : 1 ≤ m) : ∃ L, IsLam m L := by
  obtain ⟨c, L, hc, h⟩ := lambda_ex hm
  exact ⟨L, ⟨c, hc⟩, h⟩

theorem IsLam.pos {m L : Nat} (h : IsLam m L) : 1 ≤ L := by obtain ⟨⟨c, hc⟩, _⟩ := h; exact hc.1

theorem IsLam.all {m L a : Nat} (h : IsLam m L) (hm : 1 ≤ m) (ha : Nat.gcd a m = 1) : a ^ L % m = 1 % m := by
  obtain ⟨o, ho, _⟩ := ord_ex hm ha
  exact (ho.dvd L).2 (h.2 a o ho)

theorem IsLam.tot {m L : Nat} (h : IsLam m L) (hm : 1 ≤ m) : L ∣ tot m := by
  obtain ⟨⟨c, hc⟩, _⟩ := h
  obtain ⟨o, ho, hd⟩ := ord_ex hm (cop_of_pow hm hc.1 hc.2.1)
  rw [hc.uniq ho]; exact hd

theorem isLam_of {m L c : Nat} (hm : 1 ≤ m) (hc : IsOrd c m L) (h : ∀ a, Nat.gcd a m = 1 → a ^ L % m = 1 % m) : IsLam m L :=
  ⟨⟨c, hc⟩, fun a o ho => (ho.dvd L).1 (h a (cop_of_pow hm ho.1 ho.2.1))⟩

/-- Of a product of two that have nothing in common. -/
theorem IsLam.mul {m n L K : Nat} (hm : 1 ≤ m) (hn : 1 ≤ n) (h : IsLam m L) (k : IsLam n K) (hc : Nat.gcd m n = 1) : IsLam (m * n) (Nat.lcm L K) := by
  obtain ⟨⟨c, hcL⟩, hL⟩ := h
  obtain ⟨⟨d, hdK⟩, hK⟩ := k
  obtain ⟨z, hz1, hz2⟩ := sun hm hn hc c d
  have hmn : 1 ≤ m * n := Nat.mul_le_mul hm hn
  have o1 : IsOrd z m L := isOrd_mod.1 (by rw [hz1]; exact isOrd_mod.2 hcL)
  have o2 : IsOrd z n K := isOrd_mod.1 (by rw [hz2]; exact isOrd_mod.2 hdK)
  have hord : IsOrd z (m * n) (Nat.lcm L K) := by
    refine isOrd_of_dvd (Nat.lcm_pos hcL.1 hdK.1) (fun j => ?_)
    rw [mod_mul_iff hc, o1.dvd, o2.dvd]
    exact ⟨fun ⟨h1, h2⟩ => Nat.lcm_dvd h1 h2, fun h => ⟨Nat.dvd_trans (Nat.dvd_lcm_left L K) h, Nat.dvd_trans (Nat.dvd_lcm_right L K) h⟩⟩
  refine isLam_of hmn hord (fun a ha => ?_)
  have ha1 : Nat.gcd a m = 1 := Nat.Coprime.coprime_dvd_right (Nat.dvd_mul_right m n) ha
  have ha2 : Nat.gcd a n = 1 := Nat.Coprime.coprime_dvd_right (Nat.dvd_mul_left n m) ha
  obtain ⟨p1, hp1, _⟩ := ord_ex hm ha1
  obtain ⟨p2, hp2, _⟩ := ord_ex hn ha2
  exact (mod_mul_iff hc).2 ⟨(hp1.dvd _).2 (Nat.dvd_trans (hL a p1 hp1) (Nat.dvd_lcm_left L K)), (hp2.dvd _).2 (Nat.dvd_trans (hK a p2 hp2) (Nat.dvd_lcm_right L K))⟩

def tri : Nat → Nat
  | 0 => 0
  | n + 1 => tri n + n

theorem tri_two : ∀ n, 2 * tri n + n = n * n
  | 0 => rfl
  | n + 1 => by
    have := tri_two n
    simp only [tri, Nat.mul_add, Nat.add_mul, Nat.mul_one, Nat.one_mul]
    omega

theorem binom1 (x : Nat) : ∀ n, ∃ w, (1 + x) ^ n = 1 + n * x + x * x * w
  | 0 => ⟨0, by simp⟩
  | n + 1 => by
    obtain ⟨w, hw⟩ := binom1 x n
    refine ⟨w + n + x * w, ?_⟩
    rw [Nat.pow_succ, hw]
    simp only [Nat.mul_add, Nat.add_mul, Nat.mul_one, Nat.one_mul]
    have e1 : n * x * x = x * x * n := by rw [Nat.mul_assoc, Nat.mul_comm]
    have e2 : x * x * w * x = x * x * (x * w) := by rw [Nat.mul_assoc, Nat.mul_comm w x]
    omega

theorem binom2 (x : Nat) : ∀ n, ∃ w, (1 + x) ^ n = 1 + n * x + tri n * (x * x) + x * x * x * w
  | 0 => ⟨0, by simp [tri]⟩
  | n + 1 => by
    obtain ⟨w, hw⟩ := binom2 x n
    refine ⟨w + tri n + x * w, ?_⟩
    rw [Nat.pow_succ, hw]
    simp only [tri, Nat.mul_add, Nat.add_mul, Nat.mul_one, Nat.one_mul]
    have e1 : n * x * x = n * (x * x) := Nat.mul_assoc _ _ _
    have e2 : x * x * x * w * x = x * x * x * (x * w) := by rw [Nat.mul_assoc, Nat.mul_comm w x]
    have e3 : tri n * (x * x) * x = x * x * x * tri n := by rw [Nat.mul_assoc, Nat.mul_comm]
    omega

/-- One step up, by an odd prime. -/
theorem lift_odd {p i u : Nat} (hp : Pr p) (ho : p ≠ 2) (hi : 1 ≤ i) (hu : ¬ p ∣ u) : ∃ u', ¬ p ∣ u' ∧ (1 + p ^ i * u) ^ p = 1 + p ^ (i + 1) * u' := by
  obtain ⟨w, hw⟩ := binom2 (p ^ i * u) p
  have ht : p ∣ tri p := by
    have h1 : p ∣ 2 * tri p := by
      have e := tri_two p
      have h2 : p ∣ 2 * tri p + p := by rw [e]; exact Nat.dvd_mul_right _ _
      exact (Nat.dvd_add_left (Nat.dvd_refl p)).1 h2
    rcases hp.dvd_mul h1 with h | h
    · have := Nat.le_of_dvd (by omega) h
      have := hp.1
      omega
    · exact h
  obtain ⟨t, ht⟩ := ht
  refine ⟨u + p * (p ^ (i - 1) * (t * (u * u)) + p ^ (2 * (i - 1)) * (u * u * u * w)), fun h => hu ((Nat.dvd_add_left (Nat.dvd_mul_right p _)).1 h), ?_⟩
  rw [hw, ht]
  obtain ⟨j, rfl⟩ : ∃ j, i = j + 1 := ⟨i - 1, by omega⟩
  simp only [Nat.add_sub_cancel]
  have e1 : p * (p ^ (j + 1) * u) = p ^ (j + 1 + 1) * u := by rw [Nat.pow_succ p (j + 1), Nat.mul_comm (p ^ (j + 1)) p, Nat.mul_assoc]
  have e2 : p * t * (p ^ (j + 1) * u * (p ^ (j + 1) * u)) = p ^ (j + 1 + 1) * (p * (p ^ j * (t * (u * u)))) := by
    rw [Nat.pow_succ p (j + 1), Nat.pow_succ p j]
    simp only [Nat.mul_assoc, Nat.mul_comm, Nat.mul_left_comm]
  have e3 : p ^ (j + 1) * u * (p ^ (j + 1) * u) * (p ^ (j + 1) * u) * w = p ^ (j + 1 + 1) * (p * (p ^ (2 * j) * (u * u * u * w))) := by
    rw [Nat.pow_succ p (j + 1), Nat.pow_succ p j, Nat.two_mul, Nat.pow_add]
    simp only [Nat.mul_assoc, Nat.mul_comm, Nat.mul_left_comm]
  rw [e1, e2, e3]
  simp only [Nat.mul_add]
  omega

theorem up_odd {p : Nat} (hp : Pr p) (ho : p ≠ 2) : ∀ j, ∃ u, ¬ p ∣ u ∧ (1 + p) ^ (p ^ j) = 1 + p ^ (j + 1) * u
  | 0 => ⟨1, fun h => by have := Nat.le_of_dvd (by omega) h; have := hp.1; omega, by simp⟩
  | j + 1 => by
    obtain ⟨u, hu, e⟩ := up_odd hp ho j
    obtain ⟨u', hu', e'⟩ := lift_odd hp ho (i := j + 1) (by omega) hu
    refine ⟨u', hu', ?_⟩
    rw [Nat.pow_succ, Nat.pow_mul, e, e']

theorem lift_two {i u : Nat} (hi : 2 ≤ i) : (1 + 2 ^ i * u) ^ 2 = 1 + 2 ^ (i + 1) * (u + 2 ^ (i - 1) * (u * u)) := by
  obtain ⟨j, rfl⟩ : ∃ j, i = j + 1 := ⟨i - 1, by omega⟩
  rw [Nat.pow_succ (1 + _), Nat.pow_one]
  simp only [Nat.add_sub_cancel, Nat.mul_add, Nat.add_mul, Nat.mul_one, Nat.one_mul]
  have e1 : 2 ^ (j + 1) * u * (2 ^ (j + 1) * u) = 2 ^ (j + 1 + 1) * (2 ^ j * (u * u)) := by
    rw [Nat.pow_succ 2 (j + 1), Nat.pow_succ 2 j]
    simp only [Nat.mul_assoc, Nat.mul_comm, Nat.mul_left_comm]
  have e2 : 2 ^ (j + 1 + 1) * u = 2 ^ (j + 1) * u + 2 ^ (j + 1) * u := by
    rw [Nat.pow_succ 2 (j + 1), Nat.mul_assoc, Nat.mul_left_comm]; omega
  omega

theorem up_five : ∀ j, ∃ u, u % 2 = 1 ∧ 5 ^ (2 ^ j) = 1 + 2 ^ (j + 2) * u
  | 0 => ⟨1, rfl, rfl⟩
  | j + 1 => by
    obtain ⟨u, hu, e⟩ := up_five j
    refine ⟨u + 2 ^ (j + 1) * (u * u), ?_, ?_⟩
    · rw [Nat.pow_succ, Nat.mul_assoc, Nat.mul_left_comm, Nat.add_mul_mod_self_left]; exact hu
    · rw [Nat.pow_succ, Nat.pow_mul, e, lift_two (by omega)]; rfl

theorem up_all {a : Nat} (ha : a % 2 = 1) : ∀ j, ∃ u, a ^ (2 ^ (j + 1)) = 1 + 2 ^ (j + 3) * u
  | 0 => by
    obtain ⟨b, rfl⟩ : ∃ b, a = 2 * b + 1 := ⟨a / 2, by omega⟩
    have h2 : ∃ c, b * (b + 1) = 2 * c := by
      rcases Nat.mod_two_eq_zero_or_one b with h | h
      · obtain ⟨c, rfl⟩ : ∃ c, b = 2 * c := ⟨b / 2, by omega⟩
        exact ⟨c * (2 * c + 1), by rw [Nat.mul_assoc]⟩
      · obtain ⟨c, hc⟩ : ∃ c, b + 1 = 2 * c := ⟨(b + 1) / 2, by omega⟩
        exact ⟨b * c, by rw [hc, Nat.mul_left_comm]⟩
    obtain ⟨c, hc⟩ := h2
    refine ⟨c, ?_⟩
    have e : (2 * b + 1) ^ 2 = 1 + 4 * (b * (b + 1)) := by
      rw [Nat.pow_succ, Nat.pow_one]
      simp only [Nat.mul_add, Nat.add_mul, Nat.mul_one, Nat.one_mul]
      have : 2 * b * (2 * b) = 4 * (b * b) := by rw [Nat.mul_mul_mul_comm]
      omega
    show (2 * b + 1) ^ 2 = 1 + 8 * c
    rw [e, hc]; omega
  | j + 1 => by
    obtain ⟨u, e⟩ := up_all ha j
    refine ⟨u + 2 ^ (j + 2) * (u * u), ?_⟩
    rw [Nat.pow_succ 2 (j + 1), Nat.pow_mul, e, lift_two (by omega)]; rfl

/-- Of a power of an odd prime. -/
theorem lam_odd {p k : Nat} (hp : Pr p) (ho : p ≠ 2) : IsLam (p ^ (k + 1)) (p ^ k * (p - 1)) := by
  have h2 := hp.1
  have hpos : 1 ≤ p ^ (k + 1) := Nat.pow_pos (by omega)
  obtain ⟨L, hL⟩ := lam_ex hpos
  have htot : tot (p ^ (k + 1)) = p ^ k * (p - 1) := by
    have := tot_pow (m := 1) hp (fun h => by have := Nat.le_of_dvd (by omega) h; omega) k
    rwa [Nat.mul_one, tot_one, Nat.mul_one] at this
  have hd : L ∣ p ^ k * (p - 1) := by rw [← htot]; exact hL.tot hpos
  have hup : p ^ k * (p - 1) ∣ L := by
    have hcop : Nat.gcd (p ^ k) (p - 1) = 1 := by
      refine Nat.Coprime.pow_left k ?_
      have := (gcd_prime (x := p - 1) hp).2 (fun h => by have := Nat.le_of_dvd (by omega) h; omega)
      rw [Nat.gcd_comm] at this
      exact this
    refine Nat.Coprime.mul_dvd_of_dvd_of_dvd hcop ?_ ?_
    · -- p^k : by 1 + p
      have hg : Nat.gcd (1 + p) (p ^ (k + 1)) = 1 := by
        refine Nat.Coprime.pow_right (k + 1) ?_
        exact (gcd_prime hp).2 (fun h => by
          have := (Nat.dvd_add_left (Nat.dvd_refl p)).1 h
          have := Nat.le_of_dvd (by omega) this
          omega)
      obtain ⟨o, hoo, hot⟩ := ord_ex hpos hg
      refine Nat.dvd_trans ?_ (hL.2 _ o hoo)
      obtain ⟨t, s, e, hs, hs1⟩ := pow_out hp.1 o hoo.1
      have htk : k ≤ t := by
        rcases Nat.lt_or_ge t k with hlt | hge
        · exfalso
          obtain ⟨u, hu, eu⟩ := up_odd hp ho t
          obtain ⟨w, ew⟩ := binom1 (p ^ (t + 1) * u) s
          have h3 := hoo.2.1
          rw [e, Nat.pow_mul, eu, ew] at h3
          -- p^(t+2) divides
          have h4 := (mod_eq_iff (x := 1 + s * (p ^ (t + 1) * u) + p ^ (t + 1) * u * (p ^ (t + 1) * u) * w) (y := 1)).1 h3
          have h5 : p ^ (k + 1) ∣ s * (p ^ (t + 1) * u) + p ^ (t + 1) * u * (p ^ (t + 1) * u) * w := by
            have h6 : ((p ^ (k + 1) : Nat) : Int) ∣ ((s * (p ^ (t + 1) * u) + p ^ (t + 1) * u * (p ^ (t + 1) * u) * w : Nat) : Int) := by
              have e6 : ((1 + s * (p ^ (t + 1) * u) + p ^ (t + 1) * u * (p ^ (t + 1) * u) * w : Nat) : Int) - ((1 : Nat) : Int) = ((s * (p ^ (t + 1) * u) + p ^ (t + 1) * u * (p ^ (t + 1) * u) * w : Nat) : Int) := by omega
              rw [← e6]; exact h4
            exact Int.natCast_dvd_natCast.1 h6
          have h7 : p ^ (t + 2) ∣ s * (p ^ (t + 1) * u) + p ^ (t + 1) * u * (p ^ (t + 1) * u) * w := Nat.dvd_trans (Nat.pow_dvd_pow p (by omega)) h5
          have e8 : s * (p ^ (t + 1) * u) + p ^ (t + 1) * u * (p ^ (t + 1) * u) * w = p ^ (t + 1) * (s * u + p * (p ^ t * (u * (u * w)))) := by
            rw [Nat.mul_add, Nat.pow_succ]
            congr 1
            · exact Nat.mul_left_comm _ _ _
            · simp only [Nat.mul_assoc, Nat.mul_comm, Nat.mul_left_comm]
          rw [e8, Nat.pow_succ p (t + 1)] at h7
          have h9 : p ∣ s * u + p * (p ^ t * (u * (u * w))) := Nat.dvd_of_mul_dvd_mul_left (Nat.pow_pos (by omega)) h7
          have h10 : p ∣ s * u := (Nat.dvd_add_left (Nat.dvd_mul_right p _)).1 h9
          rcases hp.dvd_mul h10 with h | h
          · exact hs h
          · exact hu h
        · exact hge
      rw [e]
      exact Nat.dvd_trans (Nat.pow_dvd_pow p htk) (Nat.dvd_mul_right _ _)
    · -- p - 1: by a number whose powers are all
      obtain ⟨g, hg⟩ := prim_ex hp
      have hgp := cop_of_pow (by omega) hg.1 hg.2.1
      have hgk : Nat.gcd g (p ^ (k + 1)) = 1 := Nat.Coprime.pow_right (k + 1) hgp
      obtain ⟨o, hoo, _⟩ := ord_ex hpos hgk
      refine Nat.dvd_trans ?_ (hL.2 g o hoo)
      refine (hg.dvd o).1 ?_
      have h3 := (mod_eq_iff (x := g ^ o) (y := 1)).1 hoo.2.1
      refine (mod_eq_iff (x := g ^ o) (y := 1)).2 (Int.dvd_trans (Int.natCast_dvd_natCast.2 ?_) h3)
      have := Nat.pow_dvd_pow p (show 1 ≤ k + 1 by omega)
      rwa [Nat.pow_one] at this
  have : L = p ^ k * (p - 1) := Nat.dvd_antisymm hd hup
  rw [← this]; exact hL

theorem pr_two : Pr 2 := ⟨Nat.le_refl _, fun d hd => by have := Nat.le_of_dvd (by omega) hd; have : d ≠ 0 := (by intro e; subst e; simp at hd); omega⟩

theorem lam_one : IsLam 1 1 := isLam_of (c := 1) (Nat.le_refl _) ⟨Nat.le_refl _, rfl, fun k h1 h2 => by omega⟩ (fun a _ => by rw [Nat.mod_one, Nat.mod_one])

theorem odd_of_cop {a k : Nat} (h : Nat.gcd a (2 ^ (k + 1)) = 1) : a % 2 = 1 := by
  have h1 : Nat.gcd a 2 = 1 := Nat.Coprime.coprime_dvd_right (by rw [Nat.pow_succ]; exact Nat.dvd_mul_left _ _) h
  have := (gcd_prime (x := a) pr_two).1 h1
  omega

theorem lam_two : IsLam 2 1 := isLam_of (c := 1) (by omega) ⟨Nat.le_refl _, rfl, fun k h1 h2 => by omega⟩ (fun a h => by
  have := odd_of_cop (k := 0) h
  rw [Nat.pow_one]; exact this)

theorem lam_four : IsLam 4 2 := isLam_of (c := 3) (by omega) ⟨by omega, rfl, fun k h1 h2 => by
  have : k = 1 := by omega
  subst this; decide⟩ (fun a h => by
  have h1 := odd_of_cop (k := 1) h
  obtain ⟨b, rfl⟩ : ∃ b, a = 2 * b + 1 := ⟨a / 2, by omega⟩
  have e : (2 * b + 1) ^ 2 = 1 + 4 * (b * (b + 1)) := by
    rw [Nat.pow_succ, Nat.pow_one]
    simp only [Nat.mul_add, Nat.add_mul, Nat.mul_one, Nat.one_mul]
    have : 2 * b * (2 * b) = 4 * (b * b) := by rw [Nat.mul_mul_mul_comm]
    omega
  rw [e, Nat.add_mul_mod_self_left])

/-- Of a power of 2, from 8 on. -/
theorem lam_eight (k : Nat) : IsLam (2 ^ (k + 3)) (2 ^ (k + 1)) := by
  have hpos : 1 ≤ 2 ^ (k + 3) := Nat.pow_pos (by omega)
  have hg5 : Nat.gcd 5 (2 ^ (k + 3)) = 1 := Nat.Coprime.pow_right (k + 3) (by decide)
  have hall : ∀ a, Nat.gcd a (2 ^ (k + 3)) = 1 → a ^ 2 ^ (k + 1) % 2 ^ (k + 3) = 1 % 2 ^ (k + 3) := fun a ha => by
    obtain ⟨u, e⟩ := up_all (odd_of_cop (k := k + 2) ha) k
    rw [e, Nat.add_mul_mod_self_left]
  obtain ⟨o, ho, _⟩ := ord_ex hpos hg5
  have hd : o ∣ 2 ^ (k + 1) := (ho.dvd _).1 (hall 5 hg5)
  obtain ⟨t, s, e, hs, hs1⟩ := pow_out (p := 2) (Nat.le_refl 2) o ho.1
  have hsd : s = 1 := by
    have h1 : s ∣ 2 ^ (k + 1) := Nat.dvd_trans (by rw [e]; exact Nat.dvd_mul_left _ _) hd
    have h2 : Nat.gcd s (2 ^ (k + 1)) = 1 := Nat.Coprime.pow_right (k + 1) ((gcd_prime pr_two).2 hs)
    have h3 : s ∣ Nat.gcd s (2 ^ (k + 1)) := Nat.dvd_gcd (Nat.dvd_refl _) h1
    rw [h2] at h3
    exact Nat.dvd_one.1 h3
  rw [hsd, Nat.mul_one] at e
  have htk : k + 1 ≤ t := by
    rcases Nat.lt_or_ge t (k + 1) with hlt | hge
    · exfalso
      obtain ⟨u, hu, eu⟩ := up_five t
      have h3 := ho.2.1
      rw [e, eu] at h3
      have h4 := (mod_eq_iff (x := 1 + 2 ^ (t + 2) * u) (y := 1)).1 h3
      have h5 : 2 ^ (k + 3) ∣ 2 ^ (t + 2) * u := by
        have e6 : ((1 + 2 ^ (t + 2) * u : Nat) : Int) - ((1 : Nat) : Int) = ((2 ^ (t + 2) * u : Nat) : Int) := by omega
        rw [e6] at h4
        exact Int.natCast_dvd_natCast.1 h4
      have h6 : 2 ^ (t + 2) * 2 ∣ 2 ^ (t + 2) * u := Nat.dvd_trans (by rw [← Nat.pow_succ]; exact Nat.pow_dvd_pow 2 (by omega)) h5
      have h7 : 2 ∣ u := Nat.dvd_of_mul_dvd_mul_left (Nat.pow_pos (by omega)) h6
      omega
    · exact hge
  have hoe : o = 2 ^ (k + 1) := Nat.dvd_antisymm hd (by rw [e]; exact Nat.pow_dvd_pow 2 htk)
  exact isLam_of hpos (by rw [← hoe]; exact ho) hall

end Go.Proofs.Ytpnmepobdnclkaa.Num8

namespace Go.Proofs.Ytpnmepobdnclkaa.Num9
set_option linter.unusedVariables false
open Go.Proofs.Ytpnmepobdnclkaa.Num Go.Proofs.Ytpnmepobdnclkaa.Num3 Go.Proofs.Ytpnmepobdnclkaa.Num6 Go.Proofs.Ytpnmepobdnclkaa.Num7

/-- Does some square leave what a does? -/
def sq (a p : Nat) : Bool := (List.range p).any (fun x => x * x % p == a % p)

theorem sq_iff {a p : Nat} (hp : 1 ≤ p) : sq a p = true ↔ ∃ x, x * x % p = a % p := by
  unfold sq
  rw [List.any_eq_true]
  constructor
  · rintro ⟨x, _, h⟩; exact ⟨x, by simpa using h⟩
  · rintro ⟨x, h⟩
    refine ⟨x % p, List.mem_range.2 (Nat.mod_lt _ (by omega)), ?_⟩
    rw [← Nat.mul_mod]; simpa using h

/-- What Legendre has of it. -/
def leg (a p : Nat) : Int := if a % p = 0 then 0 else if sq a p then 1 else -1

theorem leg_mod {a b p : Nat} (h : a % p = b % p) : leg a p = leg b p := by
  unfold leg sq; rw [h]

theorem leg_zero {a p : Nat} : leg a p = 0 ↔ a % p = 0 := by
  unfold leg
  split
  · rename_i h; simp [h]
  · rename_i h
    split <;> simp [h]

theorem leg_three (a p : Nat) : leg a p = 0 ∨ leg a p = 1 ∨ leg a p = -1 := by
  unfold leg
  split
  · simp
  · split <;> simp

theorem one_mod {p : Nat} (hp : Pr p) : 1 % p = 1 := Nat.mod_eq_of_lt (by have := hp.1; omega)

theorem fermat' {p a : Nat} (hp : Pr p) (ha : ¬ a % p = 0) : a ^ (p - 1) % p = 1 := by
  have hg := (gcd_prime (x := a) hp).2 (fun h => ha (Nat.mod_eq_zero_of_dvd h))
  have he := euler (m := p) (by have := hp.1; omega) hg
  have htot : tot p = p - 1 := by
    have := tot_out (m := 1) hp (fun h => by have := Nat.le_of_dvd (by omega) h; have := hp.1; omega)
    rw [Nat.mul_one, tot_one, Nat.mul_one] at this
    exact this
  rw [htot, one_mod hp] at he
  exact he

theorem odd_half {p : Nat} (hp : Pr p) (ho : p ≠ 2) : ∃ h, p = 2 * h + 1 ∧ 1 ≤ h := by
  have h2 := hp.1
  rcases Nat.mod_two_eq_zero_or_one p with h | h
  · exfalso
    rcases hp.2 2 (Nat.dvd_of_mod_eq_zero h) with e | e <;> omega
  · exact ⟨p / 2, by omega, by omega⟩

theorem sq_one {p x : Nat} (hp : Pr p) (h : x * x % p = 1) : x % p = 1 ∨ x % p = p - 1 := by
  have h2 := hp.1
  have hx : (x % p) * (x % p) % p = 1 := by rw [← Nat.mul_mod]; exact h
  obtain ⟨y, hy⟩ : ∃ y, x % p = y := ⟨_, rfl⟩
  rw [hy] at hx ⊢
  have hlt : y < p := by rw [← hy]; exact Nat.mod_lt _ (by omega)
  by_cases hb : 2 ≤ y ∧ y + 2 ≤ p
  · exact absurd hx (Num2.no_self hp hb.1 hb.2)
  · rcases Nat.eq_zero_or_pos y with e | e
    · subst e; simp at hx
    · omega

/-- Euler's criterion. -/
theorem euler_yes {p h a : Nat} (hp : Pr p) (hh : p = 2 * h + 1) (ha : ¬ a % p = 0) (hs : sq a p = true) : a ^ h % p = 1 := by
  obtain ⟨x, hx⟩ := (sq_iff (by have := hp.1; omega)).1 hs
  have hx0 : ¬ x % p = 0 := fun e => ha (by rw [← hx, Nat.mul_mod, e]; simp)
  have h1 := fermat' hp hx0
  rw [show p - 1 = 2 * h by omega, Nat.pow_mul, Nat.pow_succ, Nat.pow_one, Nat.pow_mod, hx, ← Nat.pow_mod] at h1
  exact h1

theorem euler_no {p h a : Nat} (hp : Pr p) (hh : p = 2 * h + 1) (h1 : 1 ≤ h) (ha : ¬ a % p = 0) (hs : sq a p = false) : a ^ h % p = p - 1 := by
  have h2 := hp.1
  have hsq : a ^ h * a ^ h % p = 1 := by
    rw [← Nat.pow_add, show h + h = p - 1 by omega]; exact fermat' hp ha
  rcases sq_one hp hsq with e | e
  · exfalso
    -- the squares of 1 to h, and a: one root too many
    have hnd : ((List.range h).map (fun i => (i + 1) * (i + 1) % p)).Nodup := by
      refine List.pairwise_map.2 ((List.nodup_range (n := h)).imp_of_mem (fun {i j} hi hj hne e => hne ?_))
      have hi' := List.mem_range.1 hi
      have hj' := List.mem_range.1 hj
      have key : ∀ i j, i < h → j < h → i < j → (i + 1) * (i + 1) % p = (j + 1) * (j + 1) % p → False := by
        intro i j hi hj hij e
        have h3 : p ∣ (j + 1) * (j + 1) - (i + 1) * (i + 1) := Nat.dvd_of_mod_eq_zero (Nat.sub_mod_eq_zero_of_mod_eq e.symm)
        have h4 : (j + 1) * (j + 1) - (i + 1) * (i + 1) = (j - i) * (j + i + 2) := by
          obtain ⟨d, rfl⟩ : ∃ d, j = i + d := ⟨j - i, by omega⟩
          have e5 : i + d - i = d := by omega
          rw [e5]
          have e6 : (i + d + 1) * (i + d + 1) = (i + 1) * (i + 1) + d * (i + d + i + 2) := by
            simp only [Nat.mul_add, Nat.add_mul, Nat.mul_one, Nat.one_mul]
            have : i * d = d * i := Nat.mul_comm _ _
            omega
          omega
        rw [h4] at h3
        rcases hp.dvd_mul h3 with h | h
        · have := Nat.le_of_dvd (by omega) h; omega
        · have := Nat.le_of_dvd (by omega) h; omega
      rcases Nat.lt_trichotomy i j with hlt | heq | hgt
      · exact (key i j hi' hj' hlt e).elim
      · exact heq
      · exact (key j i hj' hi' hgt e.symm).elim
    have hnot : a % p ∉ (List.range h).map (fun i => (i + 1) * (i + 1) % p) := fun hm => by
      obtain ⟨i, _, hi⟩ := List.mem_map.1 hm
      have : sq a p = true := (sq_iff (by omega)).2 ⟨i + 1, hi⟩
      rw [hs] at this; cases this
    have hb := root_bound (n := h) hp h1 (a % p :: (List.range h).map (fun i => (i + 1) * (i + 1) % p)) (List.nodup_cons.2 ⟨hnot, hnd⟩) (fun x hx => by
      rcases List.mem_cons.1 hx with e | hx
      · subst e; exact Nat.mod_lt _ (by omega)
      · obtain ⟨i, _, rfl⟩ := List.mem_map.1 hx; exact Nat.mod_lt _ (by omega)) (fun x hx => by
      rcases List.mem_cons.1 hx with e' | hx
      · subst e'; rw [← Nat.pow_mod]; exact e
      · obtain ⟨i, hi, rfl⟩ := List.mem_map.1 hx
        have hi' := List.mem_range.1 hi
        rw [← Nat.pow_mod]
        refine euler_yes hp hh ?_ ((sq_iff (by omega)).2 ⟨i + 1, rfl⟩)
        intro e3
        rcases hp.dvd_mul (Nat.dvd_of_mod_eq_zero e3) with h | h
        · have := Nat.le_of_dvd (by omega) h; omega
        · have := Nat.le_of_dvd (by omega) h; omega)
    simp at hb
    omega
  · exact e

/-- As one sentence. -/
theorem euler_crit {p h : Nat} (hp : Pr p) (hh : p = 2 * h + 1) (h1 : 1 ≤ h) (a : Nat) : (p : Int) ∣ (a : Int) ^ h - leg a p := by
  have hdm : ((a ^ h : Nat) : Int) = (p : Int) * ((a ^ h / p : Nat) : Int) + ((a ^ h % p : Nat) : Int) := by
    rw [← Int.natCast_mul, ← Int.natCast_add, Nat.div_add_mod]
  rw [← natpow_cast, hdm]
  by_cases ha : a % p = 0
  · have e : a ^ h % p = 0 := by rw [Nat.pow_mod, ha, Nat.zero_pow (by omega), Nat.zero_mod]
    rw [leg_zero.2 ha, e]
    exact ⟨((a ^ h / p : Nat) : Int), by simp⟩
  · cases hs : sq a p with
    | true =>
      have e := euler_yes hp hh ha hs
      have hl : leg a p = 1 := by unfold leg; rw [if_neg ha, if_pos hs]
      rw [hl, e]
      exact ⟨((a ^ h / p : Nat) : Int), by simp⟩
    | false =>
      have e := euler_no hp hh h1 ha hs
      have hl : leg a p = -1 := by unfold leg; rw [if_neg ha, hs]; rfl
      rw [hl, e]
      refine ⟨((a ^ h / p : Nat) : Int) + 1, ?_⟩
      rw [Int.mul_add]
      omega

theorem small_eq {p : Nat} {x y : Int} (hp : 3 ≤ p) (h : (p : Int) ∣ x - y) (hx : -1 ≤ x ∧ x ≤ 1) (hy : -1 ≤ y ∧ y ≤ 1) : x = y := by
  obtain ⟨q, hq⟩ := h
  have hq1 : q < 1 := by
    rcases Int.lt_or_le q 1 with h | h
    · exact h
    · have : (p : Int) * 1 ≤ p * q := Int.mul_le_mul_of_nonneg_left h (by omega)
      omega
  have hq2 : -1 < q := by
    rcases Int.lt_or_le (-1) q with h | h
    · exact h
    · have : (p : Int) * q ≤ p * (-1) := Int.mul_le_mul_of_nonneg_left h (by omega)
      omega
  have : q = 0 := by omega
  subst this
  simp at hq; omega

theorem leg_bd (a p : Nat) : -1 ≤ leg a p ∧ leg a p ≤ 1 := by
  rcases leg_three a p with h | h | h <;> rw [h] <;> omega

theorem leg_mul {p : Nat} (hp : Pr p) (ho : p ≠ 2) (a b : Nat) : leg (a * b) p = leg a p * leg b p := by
  obtain ⟨h, hh, h1⟩ := odd_half hp ho
  have e1 := euler_crit hp hh h1 (a * b)
  have e2 := euler_crit hp hh h1 a
  have e3 := euler_crit hp hh h1 b
  have hd : (p : Int) ∣ leg (a * b) p - leg a p * leg b p := by
    obtain ⟨x, hx⟩ := e1
    obtain ⟨y, hy⟩ := e2
    obtain ⟨z, hz⟩ := e3
    have f1 : ((a * b : Nat) : Int) ^ h = (a : Int) ^ h * (b : Int) ^ h := by rw [Int.natCast_mul, Int.mul_pow]
    have g1 : (a : Int) ^ h = leg a p + p * y := by omega
    have g2 : (b : Int) ^ h = leg b p + p * z := by omega
    refine ⟨leg a p * z + y * (leg b p + p * z) - x, ?_⟩
    rw [f1, g1, g2] at hx
    have f2 : (leg a p + p * y) * (leg b p + p * z) = leg a p * leg b p + leg a p * (p * z) + p * y * (leg b p + p * z) := by
      rw [Int.add_mul, Int.mul_add]
    rw [f2] at hx
    rw [Int.mul_sub, Int.mul_add, Int.mul_left_comm (p : Int) (leg a p) z, ← Int.mul_assoc (p : Int) y]
    omega
  refine small_eq (by omega) hd (leg_bd _ _) ?_
  rcases leg_three a p with h | h | h <;> rcases leg_three b p with k | k | k <;> rw [h, k] <;> omega

theorem leg_minus {p : Nat} (hp : Pr p) (ho : p ≠ 2) : leg (p - 1) p = if p % 4 = 1 then 1 else -1 := by
  obtain ⟨h, hh, h1⟩ := odd_half hp ho
  have e := euler_crit hp hh h1 (p - 1)
  have hp1 : ((p - 1 : Nat) : Int) = (p : Int) - 1 := by have := hp.1; omega
  have key : ∀ k : Nat, (p : Int) ∣ ((p : Int) - 1) ^ k - (if k % 2 = 0 then 1 else -1) := by
    intro k
    induction k with
    | zero => simp
    | succ k ih =>
      obtain ⟨q, hq⟩ := ih
      have g : ((p : Int) - 1) ^ k = (if k % 2 = 0 then 1 else -1) + p * q := by omega
      rw [Int.pow_succ, g]
      by_cases hk : k % 2 = 0
      · rw [if_pos hk, if_neg (by omega)]
        refine ⟨1 + q * ((p : Int) - 1), ?_⟩
        rw [Int.add_mul, Int.mul_add, Int.one_mul, Int.mul_assoc]; omega
      · rw [if_neg hk, if_pos (by omega)]
        refine ⟨-1 + q * ((p : Int) - 1), ?_⟩
        rw [Int.add_mul, Int.mul_add, Int.mul_assoc]; omega
  rw [hp1] at e
  have hd := Int.dvd_sub (key h) e
  have e2 : ((p : Int) - 1) ^ h - (if h % 2 = 0 then 1 else -1) - (((p : Int) - 1) ^ h - leg (p - 1) p) = leg (p - 1) p - (if h % 2 = 0 then 1 else -1) := by omega
  rw [e2] at hd
  have e3 := small_eq (by omega) hd (leg_bd _ _) (by split <;> omega)
  rw [e3]
  by_cases hk : h % 2 = 0
  · rw [if_pos hk, if_pos (by omega)]
  · rw [if_neg hk, if_neg (by omega)]

/-- Products and sums of 1 to k. -/
def P (f : Nat → Int) : Nat → Int
  | 0 => 1
  | k + 1 => P f k * f (k + 1)

def Sm (f : Nat → Nat) : Nat → Nat
  | 0 => 0
  | k + 1 => Sm f k + f (k + 1)

theorem P_mul (f g : Nat → Int) : ∀ k, P (fun j => f j * g j) k = P f k * P g k
  | 0 => rfl
  | k + 1 => by
    show P (fun j => f j * g j) k * (f (k + 1) * g (k + 1)) = P f k * f (k + 1) * (P g k * g (k + 1))
    rw [P_mul f g k, Int.mul_assoc, Int.mul_assoc, Int.mul_left_comm (P g k)]

theorem P_const (a : Int) : ∀ k, P (fun _ => a) k = a ^ k
  | 0 => by simp [P]
  | k + 1 => by show P (fun _ => a) k * a = _; rw [P_const a k, Int.pow_succ]

theorem P_cong {p : Int} {f g : Nat → Int} : ∀ {k : Nat}, (∀ j, 1 ≤ j → j ≤ k → p ∣ f j - g j) → p ∣ P f k - P g k
  | 0, _ => by simp [P]
  | k + 1, h => by
    have ih := P_cong (k := k) (fun j h1 h2 => h j h1 (by omega))
    have h1 := h (k + 1) (by omega) (Nat.le_refl _)
    obtain ⟨x, hx⟩ := ih
    obtain ⟨y, hy⟩ := h1
    have g1 : P f k = P g k + p * x := by omega
    have g2 : f (k + 1) = g (k + 1) + p * y := by omega
    refine ⟨P g k * y + x * (g (k + 1) + p * y), ?_⟩
    show P f k * f (k + 1) - P g k * g (k + 1) = _
    rw [g1, g2]
    have f1 : (P g k + p * x) * (g (k + 1) + p * y) = P g k * g (k + 1) + P g k * (p * y) + p * x * (g (k + 1) + p * y) := by rw [Int.add_mul, Int.mul_add]
    have f2 : P g k * (p * y) = p * (P g k * y) := Int.mul_left_comm _ _ _
    have f3 : p * x * (g (k + 1) + p * y) = p * (x * (g (k + 1) + p * y)) := Int.mul_assoc _ _ _
    have f4 : p * (P g k * y + x * (g (k + 1) + p * y)) = p * (P g k * y) + p * (x * (g (k + 1) + p * y)) := Int.mul_add _ _ _
    rw [f1, f2, f3, f4]; omega

theorem P_ndvd {p : Nat} (hp : Pr p) {f : Nat → Int} : ∀ {k : Nat}, (∀ j, 1 ≤ j → j ≤ k → ¬ (p : Int) ∣ f j) → ¬ (p : Int) ∣ P f k
  | 0, _ => fun h => by
    have := Int.le_of_dvd (by simp [P]) h
    have := hp.1
    simp [P] at *
    omega
  | k + 1, h => fun hd => by
    rcases int_dvd_mul hp hd with h1 | h1
    · exact P_ndvd hp (k := k) (fun j a b => h j a (by omega)) h1
    · exact h (k + 1) (by omega) (Nat.le_refl _) h1

def ks (k : Nat) : List Nat := (List.range k).map (· + 1)

theorem mem_ks {k x : Nat} : x ∈ ks k ↔ 1 ≤ x ∧ x ≤ k := by
  unfold ks
  rw [List.mem_map]
  constructor
  · rintro ⟨y, hy, rfl⟩; have := List.mem_range.1 hy; omega
  · rintro ⟨h1, h2⟩; exact ⟨x - 1, List.mem_range.2 (by omega), by omega⟩

theorem ks_nodup (k : Nat) : (ks k).Nodup := by
  refine List.pairwise_map.2 ((List.nodup_range (n := k)).imp (fun {a b} h e => h ?_))
  omega

theorem ks_succ (k : Nat) : ks (k + 1) = ks k ++ [k + 1] := by simp [ks, List.range_succ]

def pl (l : List Int) : Int := l.foldr (· * ·) 1
def sl (l : List Nat) : Nat := l.foldr (· + ·) 0

theorem pl_append (l m : List Int) : pl (l ++ m) = pl l * pl m := by
  induction l with
  | nil => simp [pl]
  | cons x xs ih =>
    show x * pl (xs ++ m) = x * pl xs * pl m
    rw [ih, Int.mul_assoc]

theorem sl_append (l m : List Nat) : sl (l ++ m) = sl l + sl m := by
  induction l with
  | nil => simp [sl]
  | cons x xs ih =>
    show x + sl (xs ++ m) = x + sl xs + sl m
    rw [ih, Nat.add_assoc]

theorem pl_perm {l m : List Int} (h : l.Perm m) : pl l = pl m := by
  induction h with
  | nil => rfl
  | cons x _ ih => show x * pl _ = x * pl _; rw [ih]
  | swap x y l => show y * (x * pl l) = x * (y * pl l); rw [Int.mul_left_comm]
  | trans _ _ h1 h2 => rw [h1, h2]

theorem sl_perm {l m : List Nat} (h : l.Perm m) : sl l = sl m := by
  induction h with
  | nil => rfl
  | cons x _ ih => show x + sl _ = x + sl _; rw [ih]
  | swap x y l => show y + (x + sl l) = x + (y + sl l); omega
  | trans _ _ h1 h2 => rw [h1, h2]

theorem P_list (f : Nat → Int) : ∀ k, P f k = pl ((ks k).map f)
  | 0 => rfl
  | k + 1 => by
    rw [ks_succ, List.map_append, pl_append, ← P_list f k]
    show P f k * f (k + 1) = P f k * (f (k + 1) * 1)
    rw [Int.mul_one]

theorem Sm_list (f : Nat → Nat) : ∀ k, Sm f k = sl ((ks k).map f)
  | 0 => rfl
  | k + 1 => by
    rw [ks_succ, List.map_append, sl_append, ← Sm_list f k]
    rfl

/-- What is left, or what it lacks. -/
def sj (a p j : Nat) : Nat := if a * j % p ≤ p / 2 then a * j % p else p - a * j % p

theorem sj_perm {p h a : Nat} (hp : Pr p) (hh : p = 2 * h + 1) (ha : ¬ a % p = 0) : ((ks h).map (sj a p)).Perm (ks h) := by
  have h2 := hp.1
  have hhalf : p / 2 = h := by omega
  have hr0 : ∀ j, 1 ≤ j → j ≤ h → 1 ≤ a * j % p := fun j h1 hj => by
    rcases Nat.eq_zero_or_pos (a * j % p) with e | e
    · exfalso
      rcases hp.dvd_mul (Nat.dvd_of_mod_eq_zero e) with h | h
      · exact ha (Nat.mod_eq_zero_of_dvd h)
      · have := Nat.le_of_dvd (by omega) h; omega
    · exact e
  have hin : ∀ j ∈ ks h, sj a p j ∈ ks h := fun j hj => by
    obtain ⟨j1, j2⟩ := mem_ks.1 hj
    have h1 := hr0 j j1 j2
    have h3 := Nat.mod_lt (a * j) (show p > 0 by omega)
    refine mem_ks.2 ?_
    unfold sj
    rw [hhalf]
    split <;> omega
  refine perm_of_sub ?_ (fun x hx => by obtain ⟨j, hj, rfl⟩ := List.mem_map.1 hx; exact hin j hj) (by simp)
  refine List.pairwise_map.2 ((ks_nodup h).imp_of_mem (fun {i j} hi hj hne e => hne ?_))
  obtain ⟨i1, i2⟩ := mem_ks.1 hi
  obtain ⟨j1, j2⟩ := mem_ks.1 hj
  have ri := Nat.mod_lt (a * i) (show p > 0 by omega)
  have rj := Nat.mod_lt (a * j) (show p > 0 by omega)
  have hga : Nat.gcd a p = 1 := (gcd_prime hp).2 (fun h => ha (Nat.mod_eq_zero_of_dvd h))
  have hsame : a * i % p = a * j % p → i = j := fun e => by
    have e2 := cancel (m := p) (x := i) (y := j) (c := a) (by rw [Nat.mul_comm i, Nat.mul_comm j]; exact e) hga
    rwa [Nat.mod_eq_of_lt (by omega), Nat.mod_eq_of_lt (by omega)] at e2
  have hsum : a * i % p + a * j % p = p → i = j := fun e => by
    exfalso
    have e2 : a * (i + j) % p = 0 := by rw [Nat.mul_add, Nat.add_mod, e, Nat.mod_self]
    rcases hp.dvd_mul (Nat.dvd_of_mod_eq_zero e2) with h | h
    · exact ha (Nat.mod_eq_zero_of_dvd h)
    · have := Nat.le_of_dvd (by omega) h; omega
  unfold sj at e
  rw [hhalf] at e
  split at e <;> split at e
  · exact hsame e
  · exact hsum (by omega)
  · exact hsum (by omega)
  · exact hsame (by omega)

/-- 1, or -1. -/
def par (n : Nat) : Int := if n % 2 = 0 then 1 else -1

theorem par_add (m n : Nat) : par (m + n) = par m * par n := by
  unfold par
  rcases Nat.mod_two_eq_zero_or_one m with h | h <;> rcases Nat.mod_two_eq_zero_or_one n with k | k
  · rw [if_pos (by omega), if_pos h, if_pos k]; rfl
  · rw [if_neg (by omega), if_pos h, if_neg (by omega)]; rfl
  · rw [if_neg (by omega), if_neg (by omega), if_pos k]; rfl
  · rw [if_pos (by omega), if_neg (by omega), if_neg (by omega)]; rfl

theorem par_cong {m n : Nat} (h : m % 2 = n % 2) : par m = par n := by unfold par; rw [h]

/-- Gauss's lemma. -/
theorem gauss_lemma {p h a : Nat} (hp : Pr p) (hh : p = 2 * h + 1) (h1 : 1 ≤ h) (ha : ¬ a % p = 0) : leg a p = par (cnt (fun j => decide (h < a * j % p)) h) := by
  have h2 := hp.1
  have hhalf : p / 2 = h := by omega
  -- the product of all a * j
  have e1 : P (fun j => (a : Int) * (j : Int)) h = (a : Int) ^ h * P (fun j => (j : Int)) h := by rw [P_mul, P_const]
  have e2 : P (fun j => (sj a p j : Int)) h = P (fun j => (j : Int)) h := by
    rw [P_list, P_list]
    have hpm := (sj_perm hp hh ha).map (fun x : Nat => (x : Int))
    rw [List.map_map] at hpm
    exact pl_perm hpm
  have e3 : ∀ k, P (fun j => if h < a * j % p then (-1 : Int) else 1) k = par (cnt (fun j => decide (h < a * j % p)) k) := by
    intro k
    induction k with
    | zero => rfl
    | succ k ih =>
      show P _ k * (if h < a * (k + 1) % p then (-1 : Int) else 1) = par (cnt _ k + (if decide (h < a * (k + 1) % p) = true then 1 else 0))
      rw [ih, par_add]
      by_cases hc : h < a * (k + 1) % p
      · rw [if_pos hc, if_pos (by simpa using hc)]; rfl
      · rw [if_neg hc, if_neg (by simpa using hc)]; rfl
  have hcong : (p : Int) ∣ P (fun j => (a : Int) * (j : Int)) h - P (fun j => (if h < a * j % p then (-1 : Int) else 1) * (sj a p j : Int)) h := by
    refine P_cong (fun j j1 j2 => ?_)
    have hr := Nat.mod_lt (a * j) (show p > 0 by omega)
    have hdm : (a : Int) * (j : Int) = (p : Int) * ((a * j / p : Nat) : Int) + ((a * j % p : Nat) : Int) := by
      rw [← Int.natCast_mul, ← Int.natCast_mul, ← Int.natCast_add, Nat.div_add_mod]
    unfold sj
    rw [hhalf, hdm]
    by_cases hc : h < a * j % p
    · rw [if_pos hc, if_neg (by omega)]
      refine ⟨((a * j / p : Nat) : Int) + 1, ?_⟩
      rw [Int.mul_add]; omega
    · rw [if_neg hc, if_pos (by omega)]
      refine ⟨((a * j / p : Nat) : Int), ?_⟩
      omega
  rw [e1, P_mul, e2, e3] at hcong
  have hnd : ¬ (p : Int) ∣ P (fun j => (j : Int)) h := P_ndvd hp (fun j j1 j2 hd => by
    have := Int.le_of_dvd (by omega) hd
    omega)
  have hd1 : (p : Int) ∣ ((a : Int) ^ h - par (cnt (fun j => decide (h < a * j % p)) h)) * P (fun j => (j : Int)) h := by rw [Int.sub_mul]; exact hcong
  have hd2 := (int_dvd_mul hp hd1).resolve_right hnd
  have hd3 := Int.dvd_sub hd2 (euler_crit hp hh h1 a)
  have e4 : (a : Int) ^ h - par (cnt (fun j => decide (h < a * j % p)) h) - ((a : Int) ^ h - leg a p) = leg a p - par (cnt (fun j => decide (h < a * j % p)) h) := by omega
  rw [e4] at hd3
  exact small_eq (by omega) hd3 (leg_bd _ _) (by unfold par; split <;> omega)

theorem Sm_add (f g : Nat → Nat) : ∀ k, Sm (fun j => f j + g j) k = Sm f k + Sm g k
  | 0 => rfl
  | k + 1 => by
    show Sm (fun j => f j + g j) k + (f (k + 1) + g (k + 1)) = Sm f k + f (k + 1) + (Sm g k + g (k + 1))
    rw [Sm_add f g k]; omega

theorem Sm_mod {f g : Nat → Nat} : ∀ {k : Nat}, (∀ j, 1 ≤ j → j ≤ k → f j % 2 = g j % 2) → Sm f k % 2 = Sm g k % 2
  | 0, _ => rfl
  | k + 1, h => by
    have ih := Sm_mod (k := k) (fun j h1 h2 => h j h1 (by omega))
    have h1 := h (k + 1) (by omega) (Nat.le_refl _)
    show (Sm f k + f (k + 1)) % 2 = (Sm g k + g (k + 1)) % 2
    omega

theorem cnt_Sm (Q : Nat → Bool) : ∀ k, cnt Q k = Sm (fun j => if Q j = true then 1 else 0) k
  | 0 => rfl
  | k + 1 => by
    show cnt Q k + _ = Sm _ k + _
    rw [cnt_Sm Q k]

/-- The count's parity, by quotients. -/
theorem gauss_par {p h a : Nat} (hp : Pr p) (hh : p = 2 * h + 1) (ha : ¬ a % p = 0) : (Sm (fun j => a * j) h + Sm (fun j => a * j / p) h + Sm (fun j => j) h + cnt (fun j => decide (h < a * j % p)) h) % 2 = 0 := by
  have hhalf : p / 2 = h := by omega
  have e1 : Sm (sj a p) h = Sm (fun j => j) h := by
    rw [Sm_list, Sm_list]
    have := sl_perm (sj_perm hp hh ha)
    simpa using this
  have e2 : Sm (fun j => a * j) h % 2 = Sm (fun j => a * j / p + (sj a p j + (if decide (h < a * j % p) = true then 1 else 0))) h % 2 := by
    refine Sm_mod (fun j j1 j2 => ?_)
    have hr := Nat.mod_lt (a * j) (show p > 0 by omega)
    have hdm := Nat.div_add_mod (a * j) p
    have hpq : (p * (a * j / p)) % 2 = (a * j / p) % 2 := by
      rw [hh, Nat.add_mul, Nat.mul_assoc, Nat.one_mul]; omega
    unfold sj
    rw [hhalf]
    by_cases hc : h < a * j % p
    · rw [if_neg (by omega), if_pos (by simpa using hc)]; omega
    · rw [if_pos (by omega), if_neg (by simpa using hc)]; omega
  rw [Sm_add, Sm_add, e1, ← cnt_Sm] at e2
  omega

/-- How many come below, counted both ways. -/
theorem swap (Q : Nat → Nat → Bool) (m : Nat) : ∀ n, Sm (fun j => cnt (Q j) m) n = Sm (fun k => cnt (fun j => Q j k) n) m := by
  intro n
  induction n with
  | zero =>
    have : ∀ m, Sm (fun k => cnt (fun j => Q j k) 0) m = 0 := by
      intro m
      induction m with
      | zero => rfl
      | succ m ih => show Sm _ m + 0 = 0; rw [ih]
    rw [this]; rfl
  | succ n ih =>
    have e : (fun k => cnt (fun j => Q j k) (n + 1)) = fun k => cnt (fun j => Q j k) n + (if Q (n + 1) k = true then 1 else 0) := rfl
    show Sm _ n + cnt (Q (n + 1)) m = _
    rw [e, Sm_add, ← ih, cnt_Sm (Q (n + 1)) m]

theorem cnt_not (Q : Nat → Bool) : ∀ k, cnt Q k + cnt (fun j => !Q j) k = k
  | 0 => rfl
  | k + 1 => by
    have := cnt_not Q k
    simp only [cnt]
    rcases Bool.eq_false_or_eq_true (Q (k + 1)) with h | h <;> simp [h] <;> omega

theorem cnt_quot {q p j k : Nat} (hp : 1 ≤ p) (hb : q * j / p ≤ k) : cnt (fun i => decide (i * p ≤ q * j)) k = q * j / p := by
  have key : ∀ k, cnt (fun i => decide (i * p ≤ q * j)) k = min k (q * j / p) := by
    intro k
    induction k with
    | zero => simp [cnt]
    | succ k ih =>
      simp only [cnt, ih]
      by_cases h : (k + 1) * p ≤ q * j
      · have h1 : k + 1 ≤ q * j / p := (Nat.le_div_iff_mul_le (by omega)).2 h
        rw [if_pos (by simpa using h)]; omega
      · have h1 : ¬ k + 1 ≤ q * j / p := fun h2 => h ((Nat.le_div_iff_mul_le (by omega)).1 h2)
        rw [if_neg (by simpa using h)]; omega
  rw [key]; omega

theorem lattice {p q h k : Nat} (hp : Pr p) (hq : Pr q) (hne : p ≠ q) (hh : p = 2 * h + 1) (hk : q = 2 * k + 1) : Sm (fun j => q * j / p) h + Sm (fun i => p * i / q) k = h * k := by
  have h2p := hp.1
  have h2q := hq.1
  have e1 : Sm (fun j => q * j / p) h = Sm (fun j => cnt (fun i => decide (i * p ≤ q * j)) k) h := by
    have : ∀ n, n ≤ h → Sm (fun j => q * j / p) n = Sm (fun j => cnt (fun i => decide (i * p ≤ q * j)) k) n := by
      intro n
      induction n with
      | zero => intro _; rfl
      | succ n ih =>
        intro hn
        show Sm _ n + q * (n + 1) / p = Sm _ n + cnt _ k
        rw [ih (by omega), cnt_quot (by omega)]
        refine Nat.le_of_lt_succ ((Nat.div_lt_iff_lt_mul (by omega)).2 ?_)
        have h3 : q * (2 * (n + 1)) ≤ q * (p - 1) := Nat.mul_le_mul_left q (by omega)
        have h4 : q * (p - 1) < (k + 1) * p * 2 := by
          have e5 : (k + 1) * p * 2 = (q + 1) * p := by
            rw [hk, Nat.mul_right_comm]; congr 1; omega
          rw [e5, Nat.add_mul, Nat.one_mul]
          have : q * (p - 1) ≤ q * p := Nat.mul_le_mul_left q (by omega)
          omega
        have h5 : q * (2 * (n + 1)) = 2 * (q * (n + 1)) := Nat.mul_left_comm _ _ _
        show q * (n + 1) < (k + 1) * p
        omega
    exact this h (Nat.le_refl _)
  have e2 : Sm (fun i => p * i / q) k = Sm (fun i => cnt (fun j => decide (j * q ≤ p * i)) h) k := by
    have : ∀ n, n ≤ k → Sm (fun i => p * i / q) n = Sm (fun i => cnt (fun j => decide (j * q ≤ p * i)) h) n := by
      intro n
      induction n with
      | zero => intro _; rfl
      | succ n ih =>
        intro hn
        show Sm _ n + p * (n + 1) / q = Sm _ n + cnt _ h
        rw [ih (by omega), cnt_quot (by omega)]
        refine Nat.le_of_lt_succ ((Nat.div_lt_iff_lt_mul (by omega)).2 ?_)
        have h3 : p * (2 * (n + 1)) ≤ p * (q - 1) := Nat.mul_le_mul_left p (by omega)
        have h4 : p * (q - 1) < (h + 1) * q * 2 := by
          have e5 : (h + 1) * q * 2 = (p + 1) * q := by
            rw [hh, Nat.mul_right_comm]; congr 1; omega
          rw [e5, Nat.add_mul, Nat.one_mul]
          have : p * (q - 1) ≤ p * q := Nat.mul_le_mul_left p (by omega)
          omega
        have h5 : p * (2 * (n + 1)) = 2 * (p * (n + 1)) := Nat.mul_left_comm _ _ _
        show p * (n + 1) < (h + 1) * q
        omega
    exact this k (Nat.le_refl _)
  rw [e1, swap, e2, ← Sm_add]
  have key : ∀ n, n ≤ k → Sm (fun i => cnt (fun j => decide (i * p ≤ q * j)) h + cnt (fun j => decide (j * q ≤ p * i)) h) n = h * n := by
    intro n
    induction n with
    | zero => intro _; rfl
    | succ n ih =>
      intro hn
      show Sm _ n + (cnt (fun j => decide ((n + 1) * p ≤ q * j)) h + cnt (fun j => decide (j * q ≤ p * (n + 1))) h) = h * (n + 1)
      rw [ih (by omega)]
      have e3 : cnt (fun j => decide (j * q ≤ p * (n + 1))) h = cnt (fun j => !decide ((n + 1) * p ≤ q * j)) h := by
        refine cnt_congr (fun j j1 j2 => ?_)
        have hneq : (n + 1) * p ≠ q * j := fun e => by
          have h3 : p ∣ q * j := by rw [← e]; exact Nat.dvd_mul_left _ _
          rcases hp.dvd_mul h3 with h | h
          · exact hne (hp.eq_of_dvd hq h)
          · have := Nat.le_of_dvd (by omega) h; omega
        rw [Bool.eq_iff_iff]
        simp only [decide_eq_true_eq, Bool.not_eq_true', decide_eq_false_iff_not]
        rw [Nat.mul_comm j q, Nat.mul_comm p (n + 1)]
        omega
      rw [e3, cnt_not, Nat.mul_succ]
  exact key k (Nat.le_refl _)

/-- Reciprocity of two odd primes. -/
theorem recip {p q : Nat} (hp : Pr p) (hq : Pr q) (hp2 : p ≠ 2) (hq2 : q ≠ 2) (hne : p ≠ q) : leg q p * leg p q = if p % 4 = 3 ∧ q % 4 = 3 then -1 else 1 := by
  obtain ⟨h, hh, h1⟩ := odd_half hp hp2
  obtain ⟨k, hk, k1⟩ := odd_half hq hq2
  have hqp : ¬ q % p = 0 := fun e => hne (hp.eq_of_dvd hq (Nat.dvd_of_mod_eq_zero e))
  have hpq : ¬ p % q = 0 := fun e => hne (hq.eq_of_dvd hp (Nat.dvd_of_mod_eq_zero e)).symm
  rw [gauss_lemma hp hh h1 hqp, gauss_lemma hq hk k1 hpq, ← par_add]
  have g1 := gauss_par hp hh hqp
  have g2 := gauss_par hq hk hpq
  have hl := lattice hp hq hne hh hk
  have o1 : Sm (fun j => q * j) h % 2 = Sm (fun j => j) h % 2 := Sm_mod (fun j _ _ => by rw [hk, Nat.add_mul, Nat.mul_assoc, Nat.one_mul]; omega)
  have o2 : Sm (fun j => p * j) k % 2 = Sm (fun j => j) k % 2 := Sm_mod (fun j _ _ => by rw [hh, Nat.add_mul, Nat.mul_assoc, Nat.one_mul]; omega)
  have e : (cnt (fun j => decide (h < q * j % p)) h + cnt (fun j => decide (k < p * j % q)) k) % 2 = (h * k) % 2 := by omega
  rw [par_cong e]
  unfold par
  rw [Nat.mul_mod]
  rcases Nat.mod_two_eq_zero_or_one h with a | a <;> rcases Nat.mod_two_eq_zero_or_one k with b | b <;> rw [a, b]
  · rw [if_pos (by decide), if_neg (by omega)]
  · rw [if_pos (by decide), if_neg (by omega)]
  · rw [if_pos (by decide), if_neg (by omega)]
  · rw [if_neg (by decide), if_pos (by omega)]

theorem Sm_id : ∀ k, 2 * Sm (fun j => j) k = k * (k + 1)
  | 0 => rfl
  | k + 1 => by
    have := Sm_id k
    show 2 * (Sm (fun j => j) k + (k + 1)) = (k + 1) * (k + 1 + 1)
    simp only [Nat.mul_add, Nat.add_mul, Nat.mul_one, Nat.one_mul] at *
    omega

/-- What Legendre has of 2. -/
theorem leg_two {p : Nat} (hp : Pr p) (ho : p ≠ 2) : leg 2 p = if p % 8 = 1 ∨ p % 8 = 7 then 1 else -1 := by
  obtain ⟨h, hh, h1⟩ := odd_half hp ho
  have h2p : ¬ 2 % p = 0 := fun e => by
    have := Nat.le_of_dvd (by omega) (Nat.dvd_of_mod_eq_zero e)
    have := hp.1
    omega
  rw [gauss_lemma hp hh h1 h2p]
  have g := gauss_par hp hh h2p
  have z : Sm (fun j => 2 * j / p) h = 0 := by
    have : ∀ n, n ≤ h → Sm (fun j => 2 * j / p) n = 0 := by
      intro n
      induction n with
      | zero => intro _; rfl
      | succ n ih =>
        intro hn
        show Sm _ n + 2 * (n + 1) / p = 0
        rw [ih (by omega), Nat.div_eq_of_lt (by omega)]
    exact this h (Nat.le_refl _)
  have e2 : Sm (fun j => 2 * j) h % 2 = 0 := by
    have := Sm_mod (f := fun j => 2 * j) (g := fun _ => 0) (k := h) (fun j _ _ => by simp)
    rw [this]
    have : ∀ n, Sm (fun _ => 0) n = 0 := by
      intro n
      induction n with
      | zero => rfl
      | succ n ih => show Sm _ n + 0 = 0; rw [ih]
    rw [this]
  have hs := Sm_id h
  have e : cnt (fun j => decide (h < 2 * j % p)) h % 2 = Sm (fun j => j) h % 2 := by omega
  rw [par_cong e]
  unfold par
  obtain ⟨t, r, hr, ht⟩ : ∃ t r, r < 4 ∧ h = 4 * t + r := ⟨h / 4, h % 4, Nat.mod_lt _ (by omega), by omega⟩
  have e5 : h * (h + 1) = 4 * (4 * (t * t)) + 4 * t * (2 * r + 1) + r * (r + 1) := by
    rw [ht]
    simp only [Nat.mul_add, Nat.add_mul, Nat.mul_one]
    have a1 : 4 * t * (4 * t) = 4 * (4 * (t * t)) := by rw [Nat.mul_assoc, Nat.mul_left_comm t 4 t]
    have a2 : 4 * t * (2 * r) = 8 * (t * r) := by rw [Nat.mul_mul_mul_comm]
    have a3 : 4 * t * r = 4 * (t * r) := Nat.mul_assoc _ _ _
    have a4 : r * (4 * t) = 4 * (t * r) := by rw [Nat.mul_comm, Nat.mul_assoc]
    omega
  have hrc : r = 0 ∨ r = 1 ∨ r = 2 ∨ r = 3 := by omega
  rcases hrc with e6 | e6 | e6 | e6 <;> subst e6
  · have hm : Sm (fun j => j) h % 2 = 0 := by omega
    rw [hm, if_pos rfl, if_pos (by omega)]
  · have hm : Sm (fun j => j) h % 2 = 1 := by omega
    rw [hm, if_neg (by decide), if_neg (by omega)]
  · have hm : Sm (fun j => j) h % 2 = 1 := by omega
    rw [hm, if_neg (by decide), if_neg (by omega)]
  · have hm : Sm (fun j => j) h % 2 = 0 := by omega
    rw [hm, if_pos rfl, if_pos (by omega)]

end Go.Proofs.Ytpnmepobdnclkaa.Num9

namespace Go.Proofs.Ytpnmepobdnclkaa.Num10
set_option linter.unusedVariables false
open Go.Proofs.Ytpnmepobdnclkaa.Num Go.Proofs.Ytpnmepobdnclkaa.Num3 Go.Proofs.Ytpnmepobdnclkaa.Num6 Go.Proofs.Ytpnmepobdnclkaa.Num7 Go.Proofs.Ytpnmepobdnclkaa.Num9

/-- A product over prime powers. -/
def jlc (c : Nat → Int) : List (Nat × Nat) → Int
  | [] => 1
  | x :: xs => c x.1 ^ x.2 * jlc c xs

/-- One prime more. -/
def bump (p : Nat) : List (Nat × Nat) → List (Nat × Nat)
  | [] => [(p, 1)]
  | x :: xs => if p < x.1 then (p, 1) :: x :: xs else if p = x.1 then (p, x.2 + 1) :: xs else x :: bump p xs

theorem bump_mem {p : Nat} : ∀ {l : List (Nat × Nat)} {y : Nat × Nat}, y ∈ bump p l → (y.1 = p ∧ 1 ≤ y.2) ∨ y ∈ l
  | [], y, h => by simp [bump] at h; subst h; exact .inl ⟨rfl, Nat.le_refl _⟩
  | x :: xs, y, h => by
    unfold bump at h
    split at h
    · rcases List.mem_cons.1 h with e | h
      · subst e; exact .inl ⟨rfl, Nat.le_refl _⟩
      · exact .inr h
    · split at h
      · rcases List.mem_cons.1 h with e | h
        · subst e; exact .inl ⟨rfl, by simp⟩
        · exact .inr (List.mem_cons_of_mem _ h)
      · rcases List.mem_cons.1 h with e | h
        · subst e; exact .inr (by simp)
        · rcases bump_mem h with h | h
          · exact .inl h
          · exact .inr (List.mem_cons_of_mem _ h)

theorem bump_pd {p : Nat} : ∀ l : List (Nat × Nat), pd (bump p l) = p * pd l
  | [] => by simp [bump, pd]
  | x :: xs => by
    unfold bump
    split
    · simp [pd]
    · split
      · rename_i h
        simp only [pd]
        rw [← h, Nat.pow_succ, Nat.mul_comm (p ^ x.2) p, Nat.mul_assoc]
      · simp only [pd]
        rw [bump_pd xs, Nat.mul_left_comm]

theorem bump_rise {p : Nat} : ∀ {l : List (Nat × Nat)}, l.Pairwise (fun x y => x.1 < y.1) → (bump p l).Pairwise (fun x y => x.1 < y.1)
  | [], _ => by simp [bump]
  | x :: xs, h => by
    obtain ⟨h1, h2⟩ := List.pairwise_cons.1 h
    unfold bump
    split
    · rename_i hlt
      refine List.pairwise_cons.2 ⟨fun y hy => ?_, h⟩
      rcases List.mem_cons.1 hy with e | hy
      · subst e; exact hlt
      · have := h1 y hy; simp; omega
    · split
      · rename_i he
        refine List.pairwise_cons.2 ⟨fun y hy => ?_, h2⟩
        have := h1 y hy; simp; omega
      · refine List.pairwise_cons.2 ⟨fun y hy => ?_, bump_rise h2⟩
        rcases bump_mem hy with ⟨e, _⟩ | hy
        · omega
        · exact h1 y hy

theorem bump_fac {n p : Nat} {l : List (Nat × Nat)} (h : Fac n l) (hp : Pr p) : Fac (p * n) (bump p l) := by
  refine ⟨fun x hx => ?_, bump_rise h.2.1, by rw [bump_pd, h.2.2]⟩
  rcases bump_mem hx with ⟨e, e2⟩ | hx
  · rw [e]; exact ⟨hp, e2⟩
  · exact h.1 x hx

theorem jlc_bump (c : Nat → Int) (p : Nat) : ∀ l : List (Nat × Nat), jlc c (bump p l) = c p * jlc c l
  | [] => by simp only [bump, jlc]; rw [Int.pow_succ, Int.pow_zero, Int.one_mul]
  | x :: xs => by
    unfold bump
    split
    · simp only [jlc]; rw [Int.pow_succ, Int.pow_zero, Int.one_mul]
    · split
      · rename_i h
        simp only [jlc]
        rw [← h, Int.pow_succ, Int.mul_comm (c p ^ x.2) (c p), Int.mul_assoc]
      · simp only [jlc]
        rw [jlc_bump c p xs, Int.mul_left_comm]

/-- Whatever holds of 1 and is handed on by each prime. -/
theorem prime_ind {G : Nat → Prop} (h1 : G 1) (hG : ∀ p n, Pr p → 1 ≤ n → G n → G (p * n)) : ∀ n, 1 ≤ n → G n := by
  intro n
  induction n using Nat.strongRecOn with
  | ind n ih =>
    intro hn
    by_cases e : n = 1
    · subst e; exact h1
    · obtain ⟨p, hp, ⟨m, rfl⟩, _⟩ := least_prime (n := n) (by omega)
      have hm : 1 ≤ m := by
        rcases Nat.eq_zero_or_pos m with e | e
        · subst e; simp at hn
        · exact e
      have hlt : m < p * m := by
        have : 2 * m ≤ p * m := Nat.mul_le_mul_right m hp.1
        omega
      exact hG p m hp hm (ih m hlt hm)

theorem fac_one : Fac 1 [] := ⟨by simp, by simp, rfl⟩

/-- Products below. -/
theorem jlc_mul (c : Nat → Int) {m n : Nat} (hm : 1 ≤ m) (hn : 1 ≤ n) {l k r : List (Nat × Nat)} (hl : Fac m l) (hk : Fac n k) (hr : Fac (m * n) r) : jlc c r = jlc c l * jlc c k := by
  have key : ∀ m, 1 ≤ m → ∀ l r, Fac m l → Fac (m * n) r → jlc c r = jlc c l * jlc c k := by
    refine prime_ind ?_ ?_
    · intro l r hl hr
      rw [Nat.one_mul] at hr
      rw [hl.unique fac_one, hr.unique hk]
      simp [jlc]
    · intro p m hp hm ih l r hl hr
      obtain ⟨l', hl'⟩ := Fac.exists m hm
      obtain ⟨r', hr'⟩ := Fac.exists (m * n) (Nat.mul_le_mul hm hn)
      rw [Nat.mul_assoc] at hr
      rw [hl.unique (bump_fac hl' hp), hr.unique (bump_fac hr' hp), jlc_bump, jlc_bump, ih l' r' hl' hr', Int.mul_assoc]
  exact key m hm l r hl hr

theorem fac_odd {n : Nat} {l : List (Nat × Nat)} (hF : Fac n l) (ho : n % 2 = 1) : ∀ x ∈ l, x.1 ≠ 2 := fun x hx e => by
  have := mem_dvd_pd hF.1 hx
  rw [hF.2.2, e] at this
  omega

theorem fac_dvd {n : Nat} {l : List (Nat × Nat)} (hF : Fac n l) : ∀ x ∈ l, x.1 ∣ n := fun x hx => by
  have := mem_dvd_pd hF.1 hx
  rwa [hF.2.2] at this

theorem jlc_congr {c d : Nat → Int} {l : List (Nat × Nat)} (h : ∀ x ∈ l, c x.1 = d x.1) : jlc c l = jlc d l := by
  induction l with
  | nil => rfl
  | cons x xs ih =>
    simp only [jlc]
    rw [h x (by simp), ih (fun y hy => h y (by simp [hy]))]

theorem jlc_prod {c d e : Nat → Int} {l : List (Nat × Nat)} (h : ∀ x ∈ l, e x.1 = c x.1 * d x.1) : jlc e l = jlc c l * jlc d l := by
  induction l with
  | nil => rfl
  | cons x xs ih =>
    simp only [jlc]
    rw [h x (by simp), ih (fun y hy => h y (by simp [hy])), Int.mul_pow, Int.mul_assoc, Int.mul_assoc, Int.mul_left_comm (d x.1 ^ x.2)]

/-- What Jacobi has of a by the number whose primes these are. -/
def jac (a : Nat) (l : List (Nat × Nat)) : Int := jlc (leg a) l

theorem jac_mod {n a b : Nat} {l : List (Nat × Nat)} (hF : Fac n l) (h : a % n = b % n) : jac a l = jac b l := by
  refine jlc_congr (fun x hx => leg_mod ?_)
  have hd := fac_dvd hF x hx
  rw [← Nat.mod_mod_of_dvd a hd, ← Nat.mod_mod_of_dvd b hd, h]

theorem jac_mul {n a b : Nat} {l : List (Nat × Nat)} (hF : Fac n l) (ho : n % 2 = 1) : jac (a * b) l = jac a l * jac b l :=
  jlc_prod (fun x hx => leg_mul (hF.1 x hx).1 (fac_odd hF ho x hx) a b)

theorem jac_one {n : Nat} {l : List (Nat × Nat)} (hF : Fac n l) : jac 1 l = 1 := by
  have h1 : ∀ x ∈ l, leg 1 x.1 = 1 := fun x hx => by
    have hp := (hF.1 x hx).1
    have h2 := hp.1
    unfold leg
    rw [if_neg (by rw [one_mod hp]; omega), if_pos ((sq_iff (by omega)).2 ⟨1, rfl⟩)]
  have : ∀ l : List (Nat × Nat), (∀ x ∈ l, leg 1 x.1 = 1) → jlc (leg 1) l = 1 := by
    intro l
    induction l with
    | nil => intro _; rfl
    | cons x xs ih =>
      intro h
      simp only [jlc]
      rw [h x (by simp), ih (fun y hy => h y (by simp [hy])), Int.one_pow]; rfl
  exact this l h1

theorem jac_three {n : Nat} {l : List (Nat × Nat)} (a : Nat) : jac a l = 0 ∨ jac a l = 1 ∨ jac a l = -1 := by
  unfold jac
  induction l with
  | nil => simp [jlc]
  | cons x xs ih =>
    have hk : ∀ k, leg a x.1 ^ k = 0 ∨ leg a x.1 ^ k = 1 ∨ leg a x.1 ^ k = -1 := by
      intro k
      induction k with
      | zero => simp
      | succ k ihk =>
        rw [Int.pow_succ]
        rcases ihk with h | h | h <;> rcases leg_three a x.1 with g | g | g <;> rw [h, g] <;> simp
    simp only [jlc]
    rcases hk x.2 with h | h | h <;> rcases ih with g | g | g <;> rw [h, g] <;> simp

theorem jac_zero {n a : Nat} {l : List (Nat × Nat)} (hF : Fac n l) : jac a l = 0 ↔ ¬ Nat.gcd a n = 1 := by
  have key : ∀ l : List (Nat × Nat), (∀ x ∈ l, 1 ≤ x.2) → (jlc (leg a) l = 0 ↔ ∃ x ∈ l, a % x.1 = 0) := by
    intro l
    induction l with
    | nil => intro _; simp [jlc]
    | cons x xs ih =>
      intro h
      simp only [jlc, Int.mul_eq_zero]
      rw [ih (fun y hy => h y (by simp [hy]))]
      have hpw : leg a x.1 ^ x.2 = 0 ↔ a % x.1 = 0 := by
        rw [← leg_zero]
        constructor
        · intro e
          have : ∀ k, leg a x.1 ^ k = 0 → leg a x.1 = 0 := by
            intro k
            induction k with
            | zero => intro e; simp at e
            | succ k ihk =>
              intro e
              rw [Int.pow_succ] at e
              rcases Int.mul_eq_zero.1 e with h | h
              · exact ihk h
              · exact h
          exact this _ e
        · intro e
          rw [e]
          have := h x (by simp)
          exact Int.zero_pow (by omega)
      rw [hpw]
      constructor
      · rintro (h | ⟨y, hy, h⟩)
        · exact ⟨x, by simp, h⟩
        · exact ⟨y, by simp [hy], h⟩
      · rintro ⟨y, hy, h'⟩
        rcases List.mem_cons.1 hy with e | hy
        · subst e; exact .inl h'
        · exact .inr ⟨y, hy, h'⟩
  unfold jac
  rw [key l (fun x hx => (hF.1 x hx).2)]
  constructor
  · rintro ⟨x, hx, h⟩ hg
    have hd : x.1 ∣ Nat.gcd a n := Nat.dvd_gcd (Nat.dvd_of_mod_eq_zero h) (fac_dvd hF x hx)
    rw [hg] at hd
    have := Nat.le_of_dvd (by omega) hd
    have := (hF.1 x hx).1.1
    omega
  · intro hg
    have hn : 1 ≤ n := by have := pd_pos hF.1; rw [hF.2.2] at this; exact this
    have hgp : 1 ≤ Nat.gcd a n := Nat.gcd_pos_of_pos_right a (by omega)
    obtain ⟨p, hp, hd, _⟩ := least_prime (n := Nat.gcd a n) (by omega)
    have hpn := Nat.dvd_trans hd (Nat.gcd_dvd_right a n)
    rw [← hF.2.2] at hpn
    obtain ⟨x, hx, e⟩ := pr_dvd_pd hp hF.1 hpn
    exact ⟨x, hx, by rw [e]; exact Nat.mod_eq_zero_of_dvd (Nat.dvd_trans hd (Nat.gcd_dvd_left a n))⟩

/-- What a product over primes is, if it is what a product says at each. -/
theorem jlc_chi {c chi : Nat → Int} (h1 : chi 1 = 1) (hm : ∀ a b, a % 2 = 1 → b % 2 = 1 → chi (a * b) = chi a * chi b) (hc : ∀ p, Pr p → p ≠ 2 → c p = chi p) :
    ∀ n, 1 ≤ n → n % 2 = 1 → ∀ l, Fac n l → jlc c l = chi n := by
  refine prime_ind (G := fun n => n % 2 = 1 → ∀ l, Fac n l → jlc c l = chi n) ?_ ?_
  · intro _ l hl; rw [hl.unique fac_one, h1]; rfl
  · intro p n hp hn ih ho l hl
    have hp2 : p % 2 = 1 := by
      rcases Nat.mod_two_eq_zero_or_one p with h | h
      · rw [Nat.mul_mod, h] at ho; simp at ho
      · exact h
    have hn2 : n % 2 = 1 := by
      rcases Nat.mod_two_eq_zero_or_one n with h | h
      · rw [Nat.mul_mod, h] at ho; simp at ho
      · exact h
    obtain ⟨l', hl'⟩ := Fac.exists n hn
    rw [hl.unique (bump_fac hl' hp), jlc_bump, ih hn2 l' hl', hc p hp (fun e => by rw [e] at hp2; omega), hm p n hp2 hn2]

def chi4 (n : Nat) : Int := if n % 4 = 1 then 1 else -1
def chi8 (n : Nat) : Int := if n % 8 = 1 ∨ n % 8 = 7 then 1 else -1

theorem chi4_mul (a b : Nat) (ha : a % 2 = 1) (hb : b % 2 = 1) : chi4 (a * b) = chi4 a * chi4 b := by
  have h1 : a % 4 = 1 ∨ a % 4 = 3 := by omega
  have h2 : b % 4 = 1 ∨ b % 4 = 3 := by omega
  unfold chi4
  rw [Nat.mul_mod]
  rcases h1 with h1 | h1 <;> rcases h2 with h2 | h2 <;> rw [h1, h2] <;> rfl

theorem chi8_mul (a b : Nat) (ha : a % 2 = 1) (hb : b % 2 = 1) : chi8 (a * b) = chi8 a * chi8 b := by
  have h1 : a % 8 = 1 ∨ a % 8 = 3 ∨ a % 8 = 5 ∨ a % 8 = 7 := by omega
  have h2 : b % 8 = 1 ∨ b % 8 = 3 ∨ b % 8 = 5 ∨ b % 8 = 7 := by omega
  unfold chi8
  rw [Nat.mul_mod]
  rcases h1 with h1 | h1 | h1 | h1 <;> rcases h2 with h2 | h2 | h2 | h2 <;> rw [h1, h2] <;> rfl

theorem jac_minus {n : Nat} {l : List (Nat × Nat)} (hF : Fac n l) (ho : n % 2 = 1) : jac (n - 1) l = chi4 n := by
  have e : jac (n - 1) l = jlc (fun p => leg (p - 1) p) l := by
    refine jlc_congr (fun x hx => leg_mod ?_)
    obtain ⟨q, hq⟩ := fac_dvd hF x hx
    have hp := (hF.1 x hx).1.1
    have hq1 : 1 ≤ q := by
      rcases Nat.eq_zero_or_pos q with e | e
      · subst e; rw [Nat.mul_zero] at hq; omega
      · exact e
    have : n - 1 = (x.1 - 1) + x.1 * (q - 1) := by
      obtain ⟨r, rfl⟩ : ∃ r, q = r + 1 := ⟨q - 1, by omega⟩
      rw [hq, Nat.mul_succ, Nat.add_sub_cancel]; omega
    rw [this, Nat.add_mul_mod_self_left]
  rw [e]
  refine jlc_chi (chi := chi4) rfl chi4_mul (fun p hp h2 => ?_) n (by omega) ho l hF
  rw [leg_minus hp h2]; rfl

theorem jac_two {n : Nat} {l : List (Nat × Nat)} (hF : Fac n l) (ho : n % 2 = 1) : jac 2 l = chi8 n :=
  jlc_chi (c := leg 2) (chi := chi8) rfl chi8_mul (fun p hp h2 => by rw [leg_two hp h2]; rfl) n (by omega) ho l hF

def eps (m n : Nat) : Int := if m % 4 = 3 ∧ n % 4 = 3 then -1 else 1

theorem eps_left (a b n : Nat) (ha : a % 2 = 1) (hb : b % 2 = 1) : eps (a * b) n = eps a n * eps b n := by
  have h1 : a % 4 = 1 ∨ a % 4 = 3 := by omega
  have h2 : b % 4 = 1 ∨ b % 4 = 3 := by omega
  unfold eps
  rw [Nat.mul_mod]
  by_cases hn : n % 4 = 3
  · rcases h1 with h1 | h1 <;> rcases h2 with h2 | h2 <;> rw [h1, h2, hn] <;> rfl
  · simp [hn]

theorem eps_comm (m n : Nat) : eps m n = eps n m := by
  unfold eps
  by_cases h : m % 4 = 3 ∧ n % 4 = 3
  · rw [if_pos h, if_pos ⟨h.2, h.1⟩]
  · rw [if_neg h, if_neg (fun k => h ⟨k.2, k.1⟩)]

theorem odd_factors {p n : Nat} (h : p * n % 2 = 1) : p % 2 = 1 ∧ n % 2 = 1 := by
  rw [Nat.mul_mod] at h
  rcases Nat.mod_two_eq_zero_or_one p with a | a <;> rcases Nat.mod_two_eq_zero_or_one n with b | b <;> rw [a, b] at h <;> simp at h
  exact ⟨a, b⟩

theorem recip_prime {p : Nat} (hp : Pr p) (ho : p ≠ 2) : ∀ m, 1 ≤ m → m % 2 = 1 → ¬ p ∣ m → ∀ l, Fac m l → leg m p * jac p l = eps p m := by
  refine prime_ind (G := fun m => m % 2 = 1 → ¬ p ∣ m → ∀ l, Fac m l → leg m p * jac p l = eps p m) ?_ ?_
  · intro _ _ l hl
    rw [hl.unique fac_one]
    have h1 : leg 1 p = 1 := by
      unfold leg
      rw [if_neg (by rw [one_mod hp]; omega), if_pos ((sq_iff (by have := hp.1; omega)).2 ⟨1, rfl⟩)]
    rw [h1]
    unfold eps
    rw [if_neg (by omega)]; rfl
  · intro q m hq hm ih hodd hd l hl
    obtain ⟨hq2, hm2⟩ := odd_factors hodd
    obtain ⟨l', hl'⟩ := Fac.exists m hm
    have hne : p ≠ q := fun e => hd (by rw [e]; exact Nat.dvd_mul_right _ _)
    have hdm : ¬ p ∣ m := fun h => hd (Nat.dvd_trans h (Nat.dvd_mul_left _ _))
    have ih' := ih hm2 hdm l' hl'
    have hr := recip hp hq ho (fun e => by rw [e] at hq2; omega) hne
    rw [hl.unique (bump_fac hl' hq)]
    unfold jac at ih' ⊢
    rw [jlc_bump, leg_mul hp ho, eps_comm, eps_left q m p hq2 hm2, eps_comm m p, ← ih']
    have e : eps q p = leg q p * leg p q := by rw [hr, eps_comm]; rfl
    rw [e]
    simp only [Int.mul_assoc, Int.mul_comm, Int.mul_left_comm]

/-- Reciprocity. -/
theorem recip_jac {m : Nat} (hm : 1 ≤ m) (hmo : m % 2 = 1) {l : List (Nat × Nat)} (hl : Fac m l) : ∀ n, 1 ≤ n → n % 2 = 1 → Nat.gcd m n = 1 → ∀ k, Fac n k → jac m k * jac n l = eps m n := by
  refine prime_ind (G := fun n => n % 2 = 1 → Nat.gcd m n = 1 → ∀ k, Fac n k → jac m k * jac n l = eps m n) ?_ ?_
  · intro _ _ k hk
    rw [hk.unique fac_one, jac_one hl]
    unfold eps
    rw [if_neg (by omega)]; rfl
  · intro p n hp hn ih hodd hg k hk
    obtain ⟨hp2, hn2⟩ := odd_factors hodd
    obtain ⟨k', hk'⟩ := Fac.exists n hn
    have hgp : Nat.gcd m p = 1 := Nat.Coprime.coprime_dvd_right (Nat.dvd_mul_right p n) hg
    have hgn : Nat.gcd m n = 1 := Nat.Coprime.coprime_dvd_right (Nat.dvd_mul_left n p) hg
    have hd : ¬ p ∣ m := (gcd_prime hp).1 hgp
    have h1 := recip_prime hp (fun e => by rw [e] at hp2; omega) m hm hmo hd l hl
    have h2 := ih hn2 hgn k' hk'
    have e1 : jac m k = leg m p * jac m k' := by rw [hk.unique (bump_fac hk' hp)]; exact jlc_bump _ _ _
    rw [e1, jac_mul hl hmo, eps_comm m, eps_left p n m hp2 hn2, eps_comm n m, ← h1, ← h2]
    simp only [Int.mul_assoc, Int.mul_comm, Int.mul_left_comm]

end Go.Proofs.Ytpnmepobdnclkaa.Num10

namespace Go.Proofs.Ytpnmepobdnclkaa.Num11
set_option linter.unusedVariables false
open Go.Proofs.Ytpnmepobdnclkaa.Num Go.Proofs.Ytpnmepobdnclkaa.Num3 Go.Proofs.Ytpnmepobdnclkaa.Num6 Go.Proofs.Ytpnmepobdnclkaa.Num7 Go.Proofs.Ytpnmepobdnclkaa.Num8 Go.Proofs.Ytpnmepobdnclkaa.Num9 Go.Proofs.Ytpnmepobdnclkaa.Num10

/-- Does it seem a prime by square roots of 1? -/
def Strong (a n s d : Nat) : Prop := a ^ d % n = 1 ∨ ∃ j, j < s ∧ a ^ (2 ^ j * d) % n = n - 1

/-- Does it seem a prime by Euler's criterion? -/
def EulerB (a n : Nat) (l : List (Nat × Nat)) : Prop := Nat.gcd a n = 1 ∧ (n : Int) ∣ (a : Int) ^ ((n - 1) / 2) - jac a l

theorem minus_iff {n x : Nat} (hn : 2 ≤ n) : x % n = n - 1 ↔ (n : Int) ∣ (x : Int) + 1 := by
  constructor
  · intro h
    have e := Nat.div_add_mod x n
    rw [h] at e
    refine ⟨((x / n : Nat) : Int) + 1, ?_⟩
    have f : (x : Int) = (n : Int) * ((x / n : Nat) : Int) + ((n - 1 : Nat) : Int) := by rw [← Int.natCast_mul, ← Int.natCast_add, e]
    rw [Int.mul_add]; omega
  · rintro ⟨q, hq⟩
    have h1 : (x + 1) % n = 0 := by
      have : (n : Int) ∣ ((x + 1 : Nat) : Int) := ⟨q, by simpa using hq⟩
      exact Nat.mod_eq_zero_of_dvd (Int.natCast_dvd_natCast.1 this)
    have h2 := Nat.mod_lt x (show n > 0 by omega)
    have h3 : (x % n + 1) % n = 0 := by rw [Nat.add_mod, Nat.mod_mod, ← Nat.add_mod]; exact h1
    rcases Nat.lt_or_ge (x % n + 1) n with h | h
    · rw [Nat.mod_eq_of_lt h] at h3; omega
    · omega

theorem one_iff {n x : Nat} (hn : 2 ≤ n) : x % n = 1 ↔ (n : Int) ∣ (x : Int) - 1 := by
  have := mod_eq_iff (m := n) (x := x) (y := 1)
  rw [Nat.mod_eq_of_lt (show 1 < n by omega)] at this
  exact this

/-- What a power that is -1 tells of each prime. -/
theorem leg_of_minus {p a j d : Nat} (hp : Pr p) (ho : p ≠ 2) (hd : d % 2 = 1) (h : a ^ (2 ^ j * d) % p = p - 1) :
    p % 2 ^ (j + 1) = 1 ∧ leg a p = if p % 2 ^ (j + 2) = 1 then 1 else -1 := by
  obtain ⟨h', hh, h1⟩ := odd_half hp ho
  have h2 := hp.1
  have hone := one_mod hp
  have hne : ¬ a ^ (2 ^ j * d) % p = 1 % p := by rw [h, hone]; omega
  have hsq : a ^ (2 ^ (j + 1) * d) % p = 1 % p := by
    have e : 2 ^ (j + 1) * d = (2 ^ j * d) * 2 := by rw [Nat.pow_succ, Nat.mul_assoc, Nat.mul_comm 2 d, ← Nat.mul_assoc]
    rw [e, Nat.pow_mul, Nat.pow_mod, h]
    have e2 : (p - 1) ^ 2 = 1 + p * (p - 2) := by
      obtain ⟨q, rfl⟩ : ∃ q, p = q + 2 := ⟨p - 2, by omega⟩
      have e3 : q + 2 - 1 = q + 1 := by omega
      have e4 : q + 2 - 2 = q := by omega
      rw [e3, e4, Nat.pow_succ, Nat.pow_one]
      simp only [Nat.mul_add, Nat.add_mul, Nat.mul_one, Nat.one_mul]
      omega
    rw [e2, Nat.add_mul_mod_self_left]
  have hdpos : 1 ≤ d := by omega
  have hg : Nat.gcd a p = 1 := cop_of_pow (by omega) (Nat.mul_le_mul (Nat.pow_pos (by omega)) hdpos) hsq
  have ha0 : ¬ a % p = 0 := fun e => (gcd_prime hp).1 hg (Nat.dvd_of_mod_eq_zero e)
  obtain ⟨o, hoo, hot⟩ := ord_ex (m := p) (by omega) hg
  have htot : tot p = p - 1 := by
    have := tot_out (m := 1) hp (fun h => by have := Nat.le_of_dvd (by omega) h; omega)
    rw [Nat.mul_one, tot_one, Nat.mul_one] at this
    exact this
  rw [htot] at hot
  have d1 : o ∣ 2 ^ (j + 1) * d := (hoo.dvd _).1 hsq
  have d2 : ¬ o ∣ 2 ^ j * d := fun hd' => hne ((hoo.dvd _).2 hd')
  -- the even part of o
  obtain ⟨t, u, eo, hu, hu1⟩ := pow_out (p := 2) (Nat.le_refl 2) o hoo.1
  have hu2 : u % 2 = 1 := by omega
  have hud : u ∣ d := by
    have hc : Nat.gcd u (2 ^ (j + 1)) = 1 := Nat.Coprime.pow_right (j + 1) ((gcd_prime pr_two).2 hu)
    exact Nat.Coprime.dvd_of_dvd_mul_left hc (Nat.dvd_trans (by rw [eo]; exact Nat.dvd_mul_left _ _) d1)
  have ht1 : j + 1 ≤ t := by
    rcases Nat.lt_or_ge t (j + 1) with hlt | hge
    · exfalso
      exact d2 (by rw [eo]; exact Nat.mul_dvd_mul (Nat.pow_dvd_pow 2 (by omega)) hud)
    · exact hge
  have ht2 : t ≤ j + 1 := by
    rcases Nat.lt_or_ge (j + 1) t with hlt | hge
    · exfalso
      have h3 : 2 ^ (j + 1) * 2 ∣ 2 ^ (j + 1) * d := by
        refine Nat.dvd_trans ?_ d1
        rw [eo, ← Nat.pow_succ]
        exact Nat.dvd_trans (Nat.pow_dvd_pow 2 hlt) (Nat.dvd_mul_right _ _)
      have := Nat.dvd_of_mul_dvd_mul_left (Nat.pow_pos (by omega)) h3
      omega
    · exact hge
  have ht : t = j + 1 := by omega
  subst ht
  have hpd : 2 ^ (j + 1) ∣ p - 1 := Nat.dvd_trans (by rw [eo]; exact Nat.dvd_mul_right _ _) hot
  have hmod : ∀ k, 1 ≤ k → (p % 2 ^ k = 1 ↔ 2 ^ k ∣ p - 1) := by
    intro k hk
    have h4 := two_le_pow (p := 2) (Nat.le_refl 2) hk
    constructor
    · intro e
      have e2 := Nat.div_add_mod p (2 ^ k)
      rw [e] at e2
      exact ⟨p / 2 ^ k, by omega⟩
    · rintro ⟨q, hq⟩
      have : p = 1 + 2 ^ k * q := by omega
      rw [this, Nat.add_mul_mod_self_left]
      exact Nat.mod_eq_of_lt (by omega)
  refine ⟨(hmod (j + 1) (by omega)).2 hpd, ?_⟩
  have hcrit := euler_crit hp hh h1 a
  have hleg : leg a p = 1 ↔ o ∣ h' := by
    rw [← hoo.dvd, hone]
    constructor
    · intro e
      rw [e] at hcrit
      exact (one_iff h2).2 (by rw [natpow_cast]; exact hcrit)
    · intro e
      have h5 := (one_iff h2).1 e
      rw [natpow_cast] at h5
      have h6 := Int.dvd_sub h5 hcrit
      have e7 : (a : Int) ^ h' - 1 - ((a : Int) ^ h' - leg a p) = leg a p - 1 := by omega
      rw [e7] at h6
      exact small_eq (by omega) h6 (leg_bd _ _) (by omega)
  by_cases hc : p % 2 ^ (j + 2) = 1
  · rw [if_pos hc, hleg]
    have h8 := (hmod (j + 2) (by omega)).1 hc
    obtain ⟨q, hq⟩ := h8
    have h9 : h' = 2 ^ (j + 1) * q := by
      rw [Nat.pow_succ, Nat.mul_assoc, Nat.mul_left_comm] at hq
      omega
    rw [eo, h9]
    refine Nat.mul_dvd_mul (Nat.dvd_refl _) ?_
    -- u divides p - 1 = 2^(j+2) q and is odd
    have h10 : u ∣ 2 ^ (j + 2) * q := by rw [← hq]; exact Nat.dvd_trans (by rw [eo]; exact Nat.dvd_mul_left _ _) hot
    exact Nat.Coprime.dvd_of_dvd_mul_left (Nat.Coprime.pow_right (j + 2) ((gcd_prime pr_two).2 hu)) h10
  · rw [if_neg hc]
    have h8 : ¬ 2 ^ (j + 2) ∣ p - 1 := fun h => hc ((hmod (j + 2) (by omega)).2 h)
    have h9 : ¬ leg a p = 1 := fun e => by
      have h10 := hleg.1 e
      have h11 : 2 ^ (j + 1) ∣ h' := Nat.dvd_trans (by rw [eo]; exact Nat.dvd_mul_right _ _) h10
      obtain ⟨q, hq⟩ := h11
      exact h8 ⟨q, by rw [Nat.pow_succ, Nat.mul_assoc, Nat.mul_left_comm, ← hq]; omega⟩
    rcases leg_three a p with e | e | e
    · exact absurd (leg_zero.1 e) ha0
    · exact absurd e h9
    · exact e

theorem two_adic {M : Nat} (x : Nat) (hM : 2 ≤ M) : (M * x + 1) % (2 * M) = 1 ↔ x % 2 = 0 := by
  have e := Nat.div_add_mod x 2
  obtain ⟨y, hy⟩ : ∃ y, x / 2 = y := ⟨_, rfl⟩
  rw [hy] at e
  have e2 : M * x + 1 = (M * (x % 2) + 1) + 2 * M * y := by
    have : M * x = M * (2 * y) + M * (x % 2) := by rw [← Nat.mul_add, e]
    rw [this, Nat.mul_assoc, Nat.mul_left_comm M 2 y]; omega
  rw [e2, Nat.add_mul_mod_self_left]
  rcases Nat.mod_two_eq_zero_or_one x with h | h
  · rw [h, Nat.mul_zero, Nat.mod_eq_of_lt (by omega)]; omega
  · rw [h, Nat.mul_one, Nat.mod_eq_of_lt (by omega)]; omega

/-- And of the whole. -/
theorem jac_of_minus {a j d : Nat} (hd : d % 2 = 1) : ∀ n, 1 ≤ n → n % 2 = 1 → (2 ≤ n → a ^ (2 ^ j * d) % n = n - 1) → ∀ l, Fac n l →
    n % 2 ^ (j + 1) = 1 ∧ jac a l = if n % 2 ^ (j + 2) = 1 then 1 else -1 := by
  have h4 : 2 ≤ 2 ^ (j + 1) := two_le_pow (Nat.le_refl 2) (by omega)
  have h5 : 2 ^ (j + 2) = 2 * 2 ^ (j + 1) := by rw [Nat.pow_succ 2 (j + 1), Nat.mul_comm]
  refine prime_ind (G := fun n => n % 2 = 1 → (2 ≤ n → a ^ (2 ^ j * d) % n = n - 1) → ∀ l, Fac n l → n % 2 ^ (j + 1) = 1 ∧ jac a l = if n % 2 ^ (j + 2) = 1 then 1 else -1) ?_ ?_
  · intro _ _ l hl
    rw [hl.unique fac_one, Nat.mod_eq_of_lt (show 1 < 2 ^ (j + 1) by omega), Nat.mod_eq_of_lt (show 1 < 2 ^ (j + 2) by omega)]
    exact ⟨rfl, rfl⟩
  · intro p n hp hn ih hodd hm l hl
    obtain ⟨hp2, hn2⟩ := odd_factors hodd
    have h2 := hp.1
    have hpn : 2 ≤ p * n := by have : p * 1 ≤ p * n := Nat.mul_le_mul_left p hn; omega
    have hm' := (minus_iff hpn).1 (hm hpn)
    have hmp : a ^ (2 ^ j * d) % p = p - 1 := (minus_iff h2).2 (Int.dvd_trans ⟨(n : Int), by rw [Int.natCast_mul]⟩ hm')
    have hmn : 2 ≤ n → a ^ (2 ^ j * d) % n = n - 1 := fun h => (minus_iff h).2 (Int.dvd_trans ⟨(p : Int), by rw [Int.natCast_mul, Int.mul_comm]⟩ hm')
    obtain ⟨l', hl'⟩ := Fac.exists n hn
    obtain ⟨i1, i2⟩ := ih hn2 hmn l' hl'
    obtain ⟨e1, e2⟩ := leg_of_minus hp (fun e => by rw [e] at hp2; omega) hd hmp
    rw [hl.unique (bump_fac hl' hp)]
    unfold jac at i2 ⊢
    rw [jlc_bump, e2, i2]
    -- both are 1 and some times 2^(j+1)
    have hP := Nat.div_add_mod p (2 ^ (j + 1))
    have hN := Nat.div_add_mod n (2 ^ (j + 1))
    rw [e1] at hP
    rw [i1] at hN
    have hr2 : 2 ^ (j + 1) = 2 * 2 ^ j := by rw [Nat.pow_succ, Nat.mul_comm]
    obtain ⟨x, hx⟩ : ∃ x, p / 2 ^ (j + 1) = x := ⟨_, rfl⟩
    obtain ⟨y, hy⟩ : ∃ y, n / 2 ^ (j + 1) = y := ⟨_, rfl⟩
    rw [hx] at hP
    rw [hy] at hN
    have hpe : p = 2 ^ (j + 1) * x + 1 := hP.symm
    have hne : n = 2 ^ (j + 1) * y + 1 := hN.symm
    have hpne : p * n = 2 ^ (j + 1) * (2 * (2 ^ j * (x * y)) + x + y) + 1 := by
      rw [hpe, hne]
      simp only [Nat.mul_add, Nat.add_mul, Nat.mul_one, Nat.one_mul]
      have e3 : 2 ^ (j + 1) * x * (2 ^ (j + 1) * y) = 2 ^ (j + 1) * (2 * (2 ^ j * (x * y))) := by
        rw [← Nat.mul_assoc 2 (2 ^ j), ← hr2]
        simp only [Nat.mul_assoc, Nat.mul_left_comm]
      omega
    have c1 := two_adic (M := 2 ^ (j + 1)) x h4
    have c2 := two_adic (M := 2 ^ (j + 1)) y h4
    have c3 := two_adic (M := 2 ^ (j + 1)) (2 * (2 ^ j * (x * y)) + x + y) h4
    rw [← hpe, ← h5] at c1
    rw [← hne, ← h5] at c2
    rw [← hpne, ← h5] at c3
    refine ⟨?_, ?_⟩
    · rw [hpne, Nat.add_comm, Nat.add_mul_mod_self_left]
      exact Nat.mod_eq_of_lt (by omega)
    · rcases Nat.mod_two_eq_zero_or_one x with hx' | hx' <;> rcases Nat.mod_two_eq_zero_or_one y with hy' | hy'
      · rw [if_pos (c1.2 hx'), if_pos (c2.2 hy'), if_pos (c3.2 (by omega))]; rfl
      · rw [if_pos (c1.2 hx'), if_neg (fun h => by have := c2.1 h; omega), if_neg (fun h => by have := c3.1 h; omega)]; rfl
      · rw [if_neg (fun h => by have := c1.1 h; omega), if_pos (c2.2 hy'), if_neg (fun h => by have := c3.1 h; omega)]; rfl
      · rw [if_neg (fun h => by have := c1.1 h; omega), if_neg (fun h => by have := c2.1 h; omega), if_pos (c3.2 (by omega))]; rfl

theorem half_pow {n s d : Nat} (hs : 1 ≤ s) (h : n - 1 = 2 ^ s * d) : (n - 1) / 2 = 2 ^ (s - 1) * d := by
  obtain ⟨t, rfl⟩ : ∃ t, s = t + 1 := ⟨s - 1, by omega⟩
  rw [h, Nat.pow_succ, Nat.mul_comm (2 ^ t) 2, Nat.mul_assoc, Nat.mul_div_cancel_left _ (by omega)]
  rfl

theorem int_pow_one {n : Nat} {x : Int} (h : (n : Int) ∣ x - 1) : ∀ k : Nat, (n : Int) ∣ x ^ k - 1
  | 0 => by simp
  | k + 1 => by
    obtain ⟨q, hq⟩ := int_pow_one h k
    obtain ⟨r, hr⟩ := h
    have g1 : x ^ k = 1 + n * q := by omega
    refine ⟨q * x + r, ?_⟩
    rw [Int.pow_succ, g1, Int.add_mul, Int.one_mul, Int.mul_add, Int.mul_assoc]
    omega

theorem sq_of {n : Nat} {x y : Int} (h : (n : Int) ∣ x - y) (hy : y * y = 1) : (n : Int) ∣ x ^ 2 - 1 := by
  have e : x ^ 2 - 1 = (x - y) * (x + y) := by
    rw [Int.pow_succ, Int.pow_succ, Int.pow_zero, Int.one_mul, Int.sub_mul, Int.mul_add, Int.mul_add, hy, Int.mul_comm y x]
    omega
  rw [e]
  exact Int.dvd_trans h (Int.dvd_mul_right _ _)

theorem minus_sq {n : Nat} {x : Int} (h : (n : Int) ∣ x + 1) : (n : Int) ∣ x ^ 2 - 1 :=
  sq_of (y := -1) (by have e : x - -1 = x + 1 := by omega
                      rw [e]; exact h) rfl

/-- Miller, Rabin: strong ones seem so by Euler's criterion. -/
theorem strong_euler {a n s d : Nat} (hn : 3 ≤ n) (ho : n % 2 = 1) (hs : 1 ≤ s) (hd : d % 2 = 1) (hsd : n - 1 = 2 ^ s * d) {l : List (Nat × Nat)} (hF : Fac n l) (h : Strong a n s d) : EulerB a n l := by
  have h2 : 2 ≤ n := by omega
  have hdp : 1 ≤ d := by omega
  have hone : 1 % n = 1 := Nat.mod_eq_of_lt (by omega)
  unfold EulerB
  rw [half_pow hs hsd]
  rcases h with h | ⟨j, hj, h⟩
  · have hg : Nat.gcd a n = 1 := cop_of_pow (k := d) (by omega) hdp (by rw [hone]; exact h)
    refine ⟨hg, ?_⟩
    have hj1 : jac a l = 1 := by
      have e : jac (a ^ d) l = jac 1 l := jac_mod hF (by rw [h, hone])
      have hpw : ∀ k, jac (a ^ k) l = jac a l ^ k := by
        intro k
        induction k with
        | zero => rw [Nat.pow_zero, jac_one hF, Int.pow_zero]
        | succ k ih => rw [Nat.pow_succ, jac_mul hF ho, ih, Int.pow_succ]
      rw [hpw, jac_one hF] at e
      rcases jac_three (n := n) (l := l) a with e0 | e0 | e0
      · exact absurd hg ((jac_zero hF).1 e0)
      · exact e0
      · exfalso
        rw [e0] at e
        have : ∀ k : Nat, k % 2 = 1 → (-1 : Int) ^ k = -1 := by
          intro k hk
          obtain ⟨m, rfl⟩ : ∃ m, k = 2 * m + 1 := ⟨k / 2, by omega⟩
          rw [Int.pow_succ, Int.pow_mul]
          have : ((-1 : Int) ^ 2) = 1 := rfl
          rw [this, Int.one_pow]; rfl
        rw [this d hd] at e
        cases e
    rw [hj1]
    have h5 := (one_iff h2).1 h
    rw [natpow_cast] at h5
    have h6 := int_pow_one h5 (2 ^ (s - 1))
    rw [← Int.pow_mul, Nat.mul_comm] at h6
    exact h6
  · have h5 := (minus_iff h2).1 h
    rw [natpow_cast] at h5
    have hmj := (jac_of_minus hd n (by omega) ho (fun _ => h) l hF).2
    have hg : Nat.gcd a n = 1 := by
      have hsq : a ^ (2 ^ j * d * 2) % n = 1 % n := by
        rw [hone]
        refine (one_iff h2).2 ?_
        rw [natpow_cast, Int.pow_mul]
        exact minus_sq h5
      exact cop_of_pow (by omega) (Nat.mul_le_mul (Nat.mul_le_mul (Nat.pow_pos (by omega)) hdp) (show 1 ≤ 2 by omega)) hsq
    refine ⟨hg, ?_⟩
    rw [hmj]
    have hdv : ∀ k, 1 ≤ k → (n % 2 ^ k = 1 ↔ 2 ^ k ∣ n - 1) := by
      intro k hk
      have h4 := two_le_pow (p := 2) (Nat.le_refl 2) hk
      constructor
      · intro e
        have e2 := Nat.div_add_mod n (2 ^ k)
        rw [e] at e2
        exact ⟨n / 2 ^ k, by omega⟩
      · rintro ⟨q, hq⟩
        have : n = 1 + 2 ^ k * q := by omega
        rw [this, Nat.add_mul_mod_self_left]
        exact Nat.mod_eq_of_lt (by omega)
    by_cases hjs : j + 2 ≤ s
    · have h7 : n % 2 ^ (j + 2) = 1 := (hdv (j + 2) (by omega)).2 (by rw [hsd]; exact Nat.dvd_trans (Nat.pow_dvd_pow 2 hjs) (Nat.dvd_mul_right _ _))
      rw [if_pos h7]
      -- a square of -1 and on
      have h8 : (n : Int) ∣ ((a : Int) ^ (2 ^ j * d)) ^ 2 - 1 := minus_sq h5
      have h9 := int_pow_one h8 (2 ^ (s - 1 - j - 1))
      rw [← Int.pow_mul, ← Int.pow_mul] at h9
      have e : 2 ^ j * d * (2 * 2 ^ (s - 1 - j - 1)) = 2 ^ (s - 1) * d := by
        have e1 : 2 ^ (s - 1) = 2 ^ j * (2 * 2 ^ (s - 1 - j - 1)) := by
          rw [← Nat.pow_succ', ← Nat.pow_add]; congr 1; omega
        rw [e1]
        simp only [Nat.mul_assoc, Nat.mul_comm, Nat.mul_left_comm]
      rw [e] at h9
      exact h9
    · have hjs2 : j = s - 1 := by omega
      have h7 : ¬ n % 2 ^ (j + 2) = 1 := fun e => by
        have h8 := (hdv (j + 2) (by omega)).1 e
        rw [hsd, show j + 2 = s + 1 by omega, Nat.pow_succ] at h8
        have := Nat.dvd_of_mul_dvd_mul_left (Nat.pow_pos (by omega)) h8
        omega
      rw [if_neg h7, ← hjs2]
      have e : (a : Int) ^ (2 ^ j * d) - -1 = (a : Int) ^ (2 ^ j * d) + 1 := by omega
      rw [e]; exact h5

/-- Solovay, Strassen: and these by Fermat's theorem. -/
theorem euler_fermat {a n : Nat} (hn : 3 ≤ n) (ho : n % 2 = 1) {l : List (Nat × Nat)} (hF : Fac n l) (h : EulerB a n l) : a ^ (n - 1) % n = 1 := by
  obtain ⟨hg, q, hq⟩ := h
  have hj : jac a l * jac a l = 1 := by
    rcases jac_three (n := n) (l := l) a with e | e | e
    · exact absurd hg ((jac_zero hF).1 e)
    · rw [e]; rfl
    · rw [e]; rfl
  refine (one_iff (by omega)).2 ?_
  rw [natpow_cast, show n - 1 = (n - 1) / 2 * 2 by omega, Int.pow_mul]
  exact sq_of ⟨q, hq⟩ hj

end Go.Proofs.Ytpnmepobdnclkaa.Num11

namespace Go.Proofs.Ytpnmepobdnclkaa.Num12
set_option linter.unusedVariables false
open Go.Proofs.Ytpnmepobdnclkaa.Num Go.Proofs.Ytpnmepobdnclkaa.Num3 Go.Proofs.Ytpnmepobdnclkaa.Num6 Go.Proofs.Ytpnmepobdnclkaa.Num7 Go.Proofs.Ytpnmepobdnclkaa.Num8 Go.Proofs.Ytpnmepobdnclkaa.Num9 Go.Proofs.Ytpnmepobdnclkaa.Num10 Go.Proofs.Ytpnmepobdnclkaa.Num11

theorem len_le {l m : List Nat} : l.Nodup → (∀ x ∈ l, x ∈ m) → l.length ≤ m.length := by
  induction l generalizing m with
  | nil => intro _ _; exact Nat.zero_le _
  | cons x t ih =>
    intro hn hs
    obtain ⟨hx, hn'⟩ := List.nodup_cons.1 hn
    have hxm := hs x (by simp)
    have h1 := ih (m := m.erase x) hn' (fun y hy => by
      have hne : y ≠ x := by intro e; subst e; exact hx hy
      exact (List.mem_erase_of_ne hne).2 (hs y (by simp [hy])))
    rw [List.length_erase_of_mem hxm] at h1
    have : 1 ≤ m.length := List.length_pos_of_mem hxm
    rw [List.length_cons]; omega

theorem unit_mul {n a x : Nat} (hn : 2 ≤ n) (ha : Nat.gcd a n = 1) (hx : x ∈ ul n n) : a * x % n ∈ ul n n := by
  obtain ⟨h1, h2, h3⟩ := mem_ul.1 hx
  have hg : Nat.gcd (a * x % n) n = 1 := by rw [gcd_mod]; exact Nat.Coprime.mul_left ha h3
  refine mem_ul.2 ⟨?_, Nat.le_of_lt (Nat.mod_lt _ (by omega)), hg⟩
  rcases Nat.eq_zero_or_pos (a * x % n) with e | e
  · rw [e, Nat.gcd_zero_left] at hg; omega
  · exact e

theorem unit_lt {n x : Nat} (hn : 2 ≤ n) (hx : x ∈ ul n n) : x < n := by
  obtain ⟨h1, h2, h3⟩ := mem_ul.1 hx
  by_cases e : x = n
  · subst e; rw [Nat.gcd_self] at h3; omega
  · omega

/-- As many times as nothing meets, so many times they fit. -/
theorem coset {n : Nat} (hn : 2 ≤ n) {L : List Nat} (hL : L.Nodup) (hu : ∀ u ∈ L, u ∈ ul n n) : ∀ T : List Nat, (∀ t ∈ T, Nat.gcd t n = 1) → T.Pairwise (fun s t => ∀ u ∈ L, ∀ v ∈ L, ¬ s * u % n = t * v % n) →
    T.length * L.length ≤ tot n := by
  have key : ∀ T : List Nat, (∀ t ∈ T, Nat.gcd t n = 1) → T.Pairwise (fun s t => ∀ u ∈ L, ∀ v ∈ L, ¬ s * u % n = t * v % n) →
      ∃ M : List Nat, M.Nodup ∧ (∀ x ∈ M, x ∈ ul n n) ∧ M.length = T.length * L.length ∧ ∀ x ∈ M, ∃ t ∈ T, ∃ u ∈ L, x = t * u % n := by
    intro T
    induction T with
    | nil => intro _ _; exact ⟨[], by simp, by simp, by simp, by simp⟩
    | cons t T ih =>
      intro hg hw
      obtain ⟨M, h1, h2, h3, h4⟩ := ih (fun s hs => hg s (by simp [hs])) (List.pairwise_cons.1 hw).2
      refine ⟨L.map (fun u => t * u % n) ++ M, ?_, ?_, ?_, ?_⟩
      · refine List.nodup_append.2 ⟨?_, h1, fun a ha b hb e => ?_⟩
        · refine List.pairwise_map.2 (hL.imp_of_mem (fun {x y} hx hy hne e => hne ?_))
          have e2 := cancel (m := n) (x := x) (y := y) (c := t) (by rw [Nat.mul_comm x, Nat.mul_comm y]; exact e) (hg t (by simp))
          rwa [Nat.mod_eq_of_lt (unit_lt hn (hu x hx)), Nat.mod_eq_of_lt (unit_lt hn (hu y hy))] at e2
        · obtain ⟨u, hu', rfl⟩ := List.mem_map.1 ha
          obtain ⟨s, hs, v, hv, rfl⟩ := h4 b hb
          exact (List.pairwise_cons.1 hw).1 s hs u hu' v hv e
      · intro x hx
        rcases List.mem_append.1 hx with hx | hx
        · obtain ⟨u, hu', rfl⟩ := List.mem_map.1 hx
          exact unit_mul hn (hg t (by simp)) (hu u hu')
        · exact h2 x hx
      · rw [List.length_append, List.length_map, h3, List.length_cons, Nat.succ_mul]; omega
      · intro x hx
        rcases List.mem_append.1 hx with hx | hx
        · obtain ⟨u, hu', rfl⟩ := List.mem_map.1 hx
          exact ⟨t, by simp, u, hu', rfl⟩
        · obtain ⟨s, hs, v, hv, e⟩ := h4 x hx
          exact ⟨s, by simp [hs], v, hv, e⟩
  intro T hg hw
  obtain ⟨M, h1, h2, h3, _⟩ := key T hg hw
  have := len_le h1 h2
  rw [h3, ul_length] at this
  exact this

/-- What is not 1 by Fermat, where a square divides. -/
theorem square_b {n p N : Nat} (hp : Pr p) (hn : n = p * N) (hpN : p ∣ N) (hN : 1 ≤ N) (k : Nat) : (1 + N) ^ k % n = 1 % n ↔ p ∣ k := by
  obtain ⟨w, hw⟩ := binom1 N k
  obtain ⟨r, hr⟩ := hpN
  have e : N * N * w = n * (r * w) := by
    rw [hn]
    conv => lhs; rw [show N * N = N * (p * r) by rw [← hr]]
    simp only [Nat.mul_assoc, Nat.mul_left_comm]
  rw [hw, e, Nat.add_mul_mod_self_left, mod_eq_iff]
  have e2 : ((1 + k * N : Nat) : Int) - ((1 : Nat) : Int) = ((k * N : Nat) : Int) := by omega
  rw [e2, Int.natCast_dvd_natCast, hn]
  exact Nat.mul_dvd_mul_iff_right (by omega)

theorem tot_low {p N : Nat} (hp : Pr p) : tot (p * N) ≤ (p - 1) * N := by
  have h1 : ∀ k, cnt (fun x => Nat.gcd x (p * N) == 1) k ≤ cnt (fun x => !decide (p ∣ x)) k := by
    intro k
    induction k with
    | zero => exact Nat.le_refl _
    | succ k ih =>
      simp only [cnt]
      by_cases h : Nat.gcd (k + 1) (p * N) = 1
      · have h2 : ¬ p ∣ k + 1 := (gcd_prime hp).1 (Nat.Coprime.coprime_dvd_right (Nat.dvd_mul_right p N) h)
        rw [if_pos (by simpa using h), if_pos (by simpa using h2)]; omega
      · rw [if_neg (by simpa using h)]
        split <;> omega
  have h2 := cnt_not (fun x => decide (p ∣ x)) (p * N)
  have h3 := cnt_multiples (p := p) (by have := hp.1; omega) (fun _ => true) N
  simp only [Bool.and_true] at h3
  have h4 : ∀ k, cnt (fun _ => true) k = k := by
    intro k
    induction k with
    | zero => rfl
    | succ k ih => simp only [cnt, ih]; rfl
  rw [h4] at h3
  rw [h3] at h2
  have h5 := h1 (p * N)
  have e : p * N = (p - 1) * N + N := by
    obtain ⟨q, hq⟩ : ∃ q, p = q + 1 := ⟨p - 1, by have := hp.1; omega⟩
    rw [hq, Nat.succ_mul, Nat.add_sub_cancel]
  show cnt (fun x => Nat.gcd x (p * N) == 1) (p * N) ≤ _
  omega

theorem tot_lt {n : Nat} (hn : 2 ≤ n) : tot n ≤ n - 1 := by
  obtain ⟨p, hp, ⟨N, rfl⟩, _⟩ := least_prime hn
  have := tot_low (N := N) hp
  have h2 := hp.1
  have hN : 1 ≤ N := by
    rcases Nat.eq_zero_or_pos N with e | e
    · subst e; simp at hn
    · exact e
  have e : p * N = (p - 1) * N + N := by
    obtain ⟨q, hq⟩ : ∃ q, p = q + 1 := ⟨p - 1, by omega⟩
    rw [hq, Nat.succ_mul, Nat.add_sub_cancel]
  omega

theorem pow_mod_mul (a b k n : Nat) : (a * b % n) ^ k % n = a ^ k * b ^ k % n := by rw [← Nat.pow_mod, Nat.mul_pow]

/-- Where a square divides: of those that are 1 by Fermat. -/
theorem fermat_square {n p N : Nat} (hp : Pr p) (hp3 : 3 ≤ p) (hn : n = p * N) (hpN : p ∣ N) (hN : 1 ≤ N) {L : List Nat} (hL : L.Nodup) (hu : ∀ u ∈ L, u ∈ ul n n) (hF : ∀ u ∈ L, u ^ (n - 1) % n = 1) : 4 * L.length ≤ n - 1 := by
  have hn2 : 2 ≤ n := by
    have : p * 1 ≤ p * N := Nat.mul_le_mul_left p hN
    omega
  have hone : 1 % n = 1 := Nat.mod_eq_of_lt (by omega)
  have hb := square_b hp hn hpN hN
  have hg : Nat.gcd (1 + N) n = 1 := cop_of_pow (k := p) (by omega) (by omega) ((hb p).2 (Nat.dvd_refl _))
  have hnp : ¬ p ∣ n - 1 := fun h => by
    have h1 : p ∣ n := by rw [hn]; exact Nat.dvd_mul_right _ _
    have h2 : p ∣ n - (n - 1) := Nat.dvd_sub h1 h
    rw [show n - (n - 1) = 1 by omega] at h2
    have := Nat.le_of_dvd (by omega) h2
    omega
  have hc := coset hn2 hL hu ((List.range p).map (fun i => (1 + N) ^ i)) (fun t ht => by
    obtain ⟨i, _, rfl⟩ := List.mem_map.1 ht
    exact Nat.Coprime.pow_left i hg) (by
    refine List.pairwise_map.2 ((List.nodup_range (n := p)).imp_of_mem (fun {i j} hi hj hne u hu' v hv e => ?_))
    have hi' := List.mem_range.1 hi
    have hj' := List.mem_range.1 hj
    have e2 : ((1 + N) ^ i * u) ^ (n - 1) % n = ((1 + N) ^ j * v) ^ (n - 1) % n := by rw [Nat.pow_mod, e, ← Nat.pow_mod]
    have e3 : ∀ {i u : Nat}, u ∈ L → ((1 + N) ^ i * u) ^ (n - 1) % n = (1 + N) ^ (i * (n - 1)) % n := fun {i u} hu' => by
      rw [Nat.mul_pow, Nat.mul_mod, hF u hu', Nat.mul_one, Nat.mod_mod, ← Nat.pow_mul]
    rw [e3 hu', e3 hv] at e2
    have key : ∀ i j, i < p → j < p → i < j → (1 + N) ^ (i * (n - 1)) % n = (1 + N) ^ (j * (n - 1)) % n → False := by
      intro i j hi hj hij e
      have e4 : (1 + N) ^ (j * (n - 1)) = (1 + N) ^ ((j - i) * (n - 1)) * (1 + N) ^ (i * (n - 1)) := by
        rw [← Nat.pow_add, ← Nat.add_mul]; congr 2; omega
      have e5 : (1 + N) ^ ((j - i) * (n - 1)) * (1 + N) ^ (i * (n - 1)) % n = 1 * (1 + N) ^ (i * (n - 1)) % n := by rw [← e4, Nat.one_mul]; exact e.symm
      have e6 := cancel e5 (Nat.Coprime.pow_left _ hg)
      rcases hp.dvd_mul ((hb _).1 e6) with h | h
      · have := Nat.le_of_dvd (by omega) h; omega
      · exact hnp h
    rcases Nat.lt_trichotomy i j with h | h | h
    · exact key i j hi' hj' h e2
    · exact hne h
    · exact key j i hj' hi' h e2.symm)
  rw [List.length_map, List.length_range] at hc
  obtain ⟨r, hr⟩ := hpN
  have ht : tot n ≤ (p - 1) * N := by rw [hn]; exact tot_low hp
  have h1 : p * L.length ≤ p * ((p - 1) * r) := by
    refine Nat.le_trans hc (Nat.le_trans ht ?_)
    rw [hr, Nat.mul_left_comm]; exact Nat.le_refl _
  have h2 : L.length ≤ (p - 1) * r := Nat.le_of_mul_le_mul_left h1 (by omega)
  have hr1 : 1 ≤ r := by
    rcases Nat.eq_zero_or_pos r with e | e
    · subst e; rw [Nat.mul_zero] at hr; omega
    · exact e
  obtain ⟨q, rfl⟩ : ∃ q, p = q + 3 := ⟨p - 3, by omega⟩
  have h3 : 4 * ((q + 3 - 1) * r) + 1 ≤ (q + 3) * N := by
    rw [hr]
    have e1 : q + 3 - 1 = q + 2 := by omega
    rw [e1]
    have e2 : (q + 3) * ((q + 3) * r) = 4 * ((q + 2) * r) + (q * q + 2 * q + 1) * r := by
      rw [← Nat.mul_assoc, ← Nat.mul_assoc, ← Nat.add_mul]
      congr 1
      simp only [Nat.mul_add, Nat.add_mul]
      omega
    rw [e2]
    have : 1 * 1 ≤ (q * q + 2 * q + 1) * r := Nat.mul_le_mul (by omega) hr1
    omega
  rw [hn]
  omega

/-- A composite odd number has a square that divides it, or is a product of a prime and a number that have nothing in common. -/
theorem comp_cases {n : Nat} (hn : 3 ≤ n) (ho : n % 2 = 1) (hc : ¬ Pr n) : (∃ p N, Pr p ∧ 3 ≤ p ∧ n = p * N ∧ p ∣ N ∧ 1 ≤ N) ∨ ∃ p m, Pr p ∧ 3 ≤ p ∧ n = p * m ∧ ¬ p ∣ m ∧ 3 ≤ m ∧ m % 2 = 1 := by
  obtain ⟨p, hp, ⟨m, hm⟩, _⟩ := least_prime (n := n) (by omega)
  have h2 := hp.1
  rw [hm] at ho
  obtain ⟨hp2, hm2⟩ := odd_factors ho
  have hm1 : m ≠ 1 := fun e => hc (by rw [hm, e, Nat.mul_one]; exact hp)
  by_cases hd : p ∣ m
  · exact .inl ⟨p, m, hp, by omega, hm, hd, by omega⟩
  · exact .inr ⟨p, m, hp, by omega, hm, hd, by omega, hm2⟩

theorem cop_prime {p m : Nat} (hp : Pr p) (h : ¬ p ∣ m) : Nat.gcd p m = 1 := by
  have := (gcd_prime hp).2 h
  rw [Nat.gcd_comm]; exact this

/-- Some one does not seem to be so. -/
theorem not_euler {n : Nat} (hn : 3 ≤ n) (ho : n % 2 = 1) (hc : ¬ Pr n) {l : List (Nat × Nat)} (hF : Fac n l) : ∃ b, Nat.gcd b n = 1 ∧ ¬ EulerB b n l := by
  rcases comp_cases hn ho hc with ⟨p, N, hp, hp3, e, hpN, hN⟩ | ⟨p, m, hp, hp3, e, hd, hm, hm2⟩
  · have hb := square_b hp e hpN hN
    refine ⟨1 + N, cop_of_pow (k := p) (by omega) (by omega) ((hb p).2 (Nat.dvd_refl _)), fun h => ?_⟩
    have h1 := euler_fermat hn ho hF h
    have h2 := (hb (n - 1)).1 (by rw [h1, Nat.mod_eq_of_lt (show 1 < n by omega)])
    have h3 : p ∣ n := by rw [e]; exact Nat.dvd_mul_right _ _
    have h4 : p ∣ n - (n - 1) := Nat.dvd_sub h3 h2
    rw [show n - (n - 1) = 1 by omega] at h4
    have := Nat.le_of_dvd (by omega) h4
    omega
  · obtain ⟨h, hh, hh1⟩ := odd_half hp (by omega)
    -- a number whose powers are all has no root
    obtain ⟨g, hg⟩ := prim_ex hp
    have hgp := cop_of_pow (by omega) hg.1 hg.2.1
    have hg0 : ¬ g % p = 0 := fun e => (gcd_prime hp).1 hgp (Nat.dvd_of_mod_eq_zero e)
    have hlg : leg g p = -1 := by
      rcases leg_three g p with e0 | e0 | e0
      · exact absurd (leg_zero.1 e0) hg0
      · exfalso
        have h1 := euler_crit hp hh hh1 g
        rw [e0, ← natpow_cast] at h1
        have h2 := (one_iff (by omega)).2 h1
        have h3 := (hg.dvd h).1 (by rw [h2, one_mod hp])
        have := Nat.le_of_dvd (by omega) h3
        omega
      · exact e0
    have hpm := cop_prime hp hd
    obtain ⟨b, hb1, hb2⟩ := sun (by omega) (by omega) hpm g 1
    have hgb1 : Nat.gcd b p = 1 := by rw [← gcd_mod, hb1, gcd_mod]; exact hgp
    have hgb2 : Nat.gcd b m = 1 := by rw [← gcd_mod, hb2, gcd_mod]; exact Nat.gcd_one_left _
    refine ⟨b, by rw [e]; exact Nat.Coprime.mul_right hgb1 hgb2, fun hE => ?_⟩
    obtain ⟨k, hk⟩ := Fac.exists m (by omega)
    have hj : jac b l = -1 := by
      have e1 : jac b l = leg b p * jac b k := by
        have hF2 := bump_fac hk hp
        rw [← e] at hF2
        rw [hF.unique hF2]; exact jlc_bump _ _ _
      rw [e1, leg_mod hb1, hlg, jac_mod hk hb2, jac_one hk]; rfl
    obtain ⟨_, hd2⟩ := hE
    rw [hj] at hd2
    have h3 : (m : Int) ∣ (b : Int) ^ ((n - 1) / 2) - -1 := Int.dvd_trans ⟨(p : Int), by rw [e, Int.natCast_mul, Int.mul_comm]⟩ hd2
    have h4 : (m : Int) ∣ (b : Int) - 1 := (mod_eq_iff (x := b) (y := 1)).1 hb2
    have h5 := int_pow_one h4 ((n - 1) / 2)
    have h6 := Int.dvd_sub h3 h5
    have e7 : (b : Int) ^ ((n - 1) / 2) - -1 - ((b : Int) ^ ((n - 1) / 2) - 1) = 2 := by omega
    rw [e7] at h6
    have := Int.le_of_dvd (by omega) h6
    omega

/-- Solovay, Strassen. -/
theorem solovay {n : Nat} (hn : 3 ≤ n) (ho : n % 2 = 1) (hc : ¬ Pr n) {l : List (Nat × Nat)} (hF : Fac n l) {L : List Nat} (hL : L.Nodup) (hu : ∀ u ∈ L, 1 ≤ u ∧ u < n) (hE : ∀ u ∈ L, EulerB u n l) : 2 * L.length ≤ tot n := by
  obtain ⟨b, hb, hnb⟩ := not_euler hn ho hc hF
  have hul : ∀ u ∈ L, u ∈ ul n n := fun u h => mem_ul.2 ⟨(hu u h).1, by have := (hu u h).2; omega, (hE u h).1⟩
  have hcs := coset (by omega) hL hul [1, b] (fun t ht => by
    rcases List.mem_cons.1 ht with e | ht
    · subst e; exact Nat.gcd_one_left _
    · simp at ht; subst ht; exact hb) (by
    refine List.pairwise_cons.2 ⟨fun t ht u hu' v hv e => ?_, by simp⟩
    simp at ht; subst ht
    rw [Nat.one_mul] at e
    -- u is t * v
    refine hnb ⟨hb, ?_⟩
    obtain ⟨_, hu1⟩ := hE u hu'
    obtain ⟨hvg, hv1⟩ := hE v hv
    have hjv : jac v l * jac v l = 1 := by
      rcases jac_three (n := n) (l := l) v with e0 | e0 | e0
      · exact absurd hvg ((jac_zero hF).1 e0)
      · rw [e0]; rfl
      · rw [e0]; rfl
    have hju : jac u l = jac t l * jac v l := by rw [jac_mod hF e, jac_mul hF ho]
    have hpw : (n : Int) ∣ ((u : Int) ^ ((n - 1) / 2)) - (t : Int) ^ ((n - 1) / 2) * (v : Int) ^ ((n - 1) / 2) := by
      have e1 : u ^ ((n - 1) / 2) % n = (t * v) ^ ((n - 1) / 2) % n := by rw [Nat.pow_mod, e, ← Nat.pow_mod]
      have e2 := mod_eq_iff.1 e1
      rw [natpow_cast, Nat.mul_pow, Int.natCast_mul, natpow_cast, natpow_cast] at e2
      exact e2
    rw [hju] at hu1
    generalize (u : Int) ^ ((n - 1) / 2) = U at *
    generalize (t : Int) ^ ((n - 1) / 2) = X at *
    generalize (v : Int) ^ ((n - 1) / 2) = V at *
    generalize jac t l = jt at *
    generalize jac v l = jv at *
    obtain ⟨q1, e1⟩ := hu1
    obtain ⟨q2, e2⟩ := hv1
    obtain ⟨q3, e3⟩ := hpw
    -- X * V = jt * jv, V = jv
    have g1 : V = jv + n * q2 := by omega
    have g2 : X * V = jt * jv + n * (q1 - q3) := by rw [Int.mul_sub]; omega
    rw [g1, Int.mul_add] at g2
    -- times jv
    have g3 : (X * jv + X * (n * q2)) * jv = (jt * jv + n * (q1 - q3)) * jv := by rw [g2]
    rw [Int.add_mul, Int.add_mul, Int.mul_assoc X jv jv, Int.mul_assoc jt jv jv, hjv, Int.mul_one, Int.mul_one] at g3
    refine ⟨(q1 - q3) * jv - X * q2 * jv, ?_⟩
    have g4 : X * (n * q2) * jv = n * (X * q2 * jv) := by rw [Int.mul_left_comm X, Int.mul_assoc]
    have g5 : n * (q1 - q3) * jv = n * ((q1 - q3) * jv) := Int.mul_assoc _ _ _
    rw [g4, g5] at g3
    rw [Int.mul_sub]; omega)
  simpa using hcs

end Go.Proofs.Ytpnmepobdnclkaa.Num12
