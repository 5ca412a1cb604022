/-
  Plain arithmetic, without the model: primes, and lists of prime powers that rise; there is just one such list for each number.
-/
namespace Go.Proofs.Ytjpmkcijkcnfiaa.Num
set_option linter.unusedVariables false

/-- A prime. -/
def Pr (n : Nat) : Prop := 2 ≤ n ∧ ∀ d, d ∣ n → d = 1 ∨ d = n

theorem Pr.two {p : Nat} (h : Pr p) : 2 ≤ p := h.1

theorem Pr.dvd_mul {p a b : Nat} (h : Pr p) (hd : p ∣ a * b) : p ∣ a ∨ p ∣ b := by
  rcases h.2 (Nat.gcd p a) (Nat.gcd_dvd_left p a) with e | e
  · right
    exact Nat.Coprime.dvd_of_dvd_mul_left e hd
  · left
    rw [← e]
    exact Nat.gcd_dvd_right p a

theorem Pr.dvd_pow {p q : Nat} (h : Pr p) : ∀ {k : Nat}, p ∣ q ^ k → p ∣ q
  | 0, hd => by
    have := Nat.le_of_dvd (by simp) hd
    have := h.1
    simp at *
    omega
  | k + 1, hd => by
    rw [Nat.pow_succ] at hd
    rcases h.dvd_mul hd with h1 | h1
    · exact Pr.dvd_pow h h1
    · exact h1

theorem Pr.eq_of_dvd {p q : Nat} (h : Pr p) (hq : Pr q) (hd : p ∣ q) : p = q := by
  rcases hq.2 p hd with e | e
  · have := h.1; omega
  · exact e

/-- What nothing from 2 up to its root divides is a prime. -/
theorem pr_of_small {n : Nat} (h2 : 2 ≤ n) (h : ∀ d, 2 ≤ d → d * d ≤ n → ¬ d ∣ n) : Pr n := by
  refine ⟨h2, fun d hd => ?_⟩
  obtain ⟨e, rfl⟩ := hd
  by_cases h1 : d = 1
  · exact .inl h1
  · right
    have hd0 : d ≠ 0 := by intro h0; subst h0; simp at h2
    have he0 : e ≠ 0 := by intro h0; subst h0; simp at h2
    by_cases he1 : e = 1
    · subst he1; simp
    · exfalso
      by_cases hle : d ≤ e
      · exact h d (by omega) (Nat.mul_le_mul_left d hle) (Nat.dvd_mul_right d e)
      · exact h e (by omega) (Nat.mul_le_mul_right e (by omega)) (Nat.dvd_mul_left e d)

theorem not_pr_of_dvd {n d : Nat} (h2 : 2 ≤ d) (hlt : d < n) (hd : d ∣ n) : ¬ Pr n := by
  intro h
  rcases h.2 d hd with e | e <;> omega

/-- The product of a list of powers. -/
def pd : List (Nat × Nat) → Nat
  | [] => 1
  | x :: xs => x.1 ^ x.2 * pd xs

theorem pd_append (l m : List (Nat × Nat)) : pd (l ++ m) = pd l * pd m := by
  induction l with
  | nil => simp [pd]
  | cons x xs ih => simp [pd, ih, Nat.mul_assoc]

theorem pd_snoc (l : List (Nat × Nat)) (p k : Nat) : pd (l ++ [(p, k)]) = pd l * p ^ k := by
  rw [pd_append]; simp [pd]

/-- The primes of a number, rising, each with how often it divides. -/
def Fac (n : Nat) (l : List (Nat × Nat)) : Prop :=
  (∀ x ∈ l, Pr x.1 ∧ 1 ≤ x.2) ∧ l.Pairwise (fun x y => x.1 < y.1) ∧ pd l = n

theorem pd_pos {l : List (Nat × Nat)} (h : ∀ x ∈ l, Pr x.1 ∧ 1 ≤ x.2) : 1 ≤ pd l := by
  induction l with
  | nil => simp [pd]
  | cons x xs ih =>
    have h1 := ih (fun y hy => h y (by simp [hy]))
    have h2 : 1 ≤ x.1 ^ x.2 := Nat.pow_pos (by have := (h x (by simp)).1.1; omega)
    exact Nat.mul_le_mul h2 h1

theorem two_pow_le {p k : Nat} (h : 2 ≤ p) : 2 ^ k ≤ p ^ k := Nat.pow_le_pow_left h k

theorem two_le_pow {p k : Nat} (h : 2 ≤ p) (hk : 1 ≤ k) : 2 ≤ p ^ k := by
  have h1 : p ^ 1 ≤ p ^ k := Nat.pow_le_pow_right (by omega) hk
  simp at h1; omega

theorem pd_len {l : List (Nat × Nat)} (h : ∀ x ∈ l, Pr x.1 ∧ 1 ≤ x.2) : 2 ^ l.length ≤ pd l := by
  induction l with
  | nil => simp [pd]
  | cons x xs ih =>
    have h1 := ih (fun y hy => h y (by simp [hy]))
    have h2 := two_le_pow (h x (by simp)).1.1 (h x (by simp)).2
    rw [List.length_cons, Nat.pow_succ, Nat.mul_comm]
    exact Nat.mul_le_mul h2 h1

theorem pr_dvd_pd {p : Nat} (hp : Pr p) {l : List (Nat × Nat)} (h : ∀ x ∈ l, Pr x.1 ∧ 1 ≤ x.2) (hd : p ∣ pd l) : ∃ x ∈ l, x.1 = p := by
  induction l with
  | nil =>
    have := Nat.le_of_dvd (by simp [pd]) hd
    have := hp.1
    simp [pd] at *; omega
  | cons x xs ih =>
    rcases hp.dvd_mul hd with h1 | h1
    · exact ⟨x, by simp, ((hp.eq_of_dvd (h x (by simp)).1 (hp.dvd_pow h1))).symm⟩
    · obtain ⟨y, hy, e⟩ := ih (fun y hy => h y (by simp [hy])) h1
      exact ⟨y, by simp [hy], e⟩

theorem mem_dvd_pd {l : List (Nat × Nat)} (h : ∀ x ∈ l, Pr x.1 ∧ 1 ≤ x.2) {x : Nat × Nat} (hx : x ∈ l) : x.1 ∣ pd l := by
  induction l with
  | nil => simp at hx
  | cons y ys ih =>
    rcases List.mem_cons.1 hx with e | hm
    · subst e
      have h1 : x.1 ∣ x.1 ^ x.2 := by
        have := Nat.pow_dvd_pow x.1 (h x (by simp)).2
        simpa using this
      exact Nat.dvd_trans h1 (Nat.dvd_mul_right _ _)
    · exact Nat.dvd_trans (ih (fun z hz => h z (by simp [hz])) hm) (Nat.dvd_mul_left _ _)

theorem pow_split {p a b A B : Nat} (hp : 2 ≤ p) (hA : ¬ p ∣ A) (hB : ¬ p ∣ B) (e : p ^ a * A = p ^ b * B) : a = b ∧ A = B := by
  induction a generalizing b with
  | zero =>
    cases b with
    | zero => simpa using e
    | succ b =>
      exfalso; apply hA
      simp at e
      rw [e, Nat.pow_succ, Nat.mul_assoc]
      exact Nat.dvd_trans (Nat.dvd_mul_right p B) (Nat.dvd_mul_left _ _)
  | succ a ih =>
    cases b with
    | zero =>
      exfalso; apply hB
      simp at e
      rw [← e, Nat.pow_succ, Nat.mul_assoc]
      exact Nat.dvd_trans (Nat.dvd_mul_right p A) (Nat.dvd_mul_left _ _)
    | succ b =>
      have h : p * (p ^ a * A) = p * (p ^ b * B) := by
        rw [Nat.pow_succ, Nat.pow_succ] at e
        have e1 : p ^ a * p * A = p * (p ^ a * A) := by rw [Nat.mul_comm (p ^ a) p, Nat.mul_assoc]
        have e2 : p ^ b * p * B = p * (p ^ b * B) := by rw [Nat.mul_comm (p ^ b) p, Nat.mul_assoc]
        rw [← e1, ← e2]; exact e
      obtain ⟨h1, h2⟩ := ih (Nat.eq_of_mul_eq_mul_left (by omega) h)
      exact ⟨by omega, h2⟩

theorem Fac.tail {n : Nat} {x : Nat × Nat} {l : List (Nat × Nat)} (h : Fac n (x :: l)) : Fac (pd l) l :=
  ⟨fun y hy => h.1 y (by simp [hy]), (List.pairwise_cons.1 h.2.1).2, rfl⟩

theorem Fac.head_not {n : Nat} {x : Nat × Nat} {l : List (Nat × Nat)} (h : Fac n (x :: l)) : ¬ x.1 ∣ pd l := by
  intro hd
  obtain ⟨y, hy, e⟩ := pr_dvd_pd (h.1 x (by simp)).1 (fun y hy => h.1 y (by simp [hy])) hd
  have := (List.pairwise_cons.1 h.2.1).1 y hy
  omega

theorem Fac.head_le {n : Nat} {x y : Nat × Nat} {l m : List (Nat × Nat)} (h : Fac n (x :: l)) (h' : Fac n (y :: m)) : y.1 ≤ x.1 := by
  have hd : x.1 ∣ pd (y :: m) := by rw [h'.2.2, ← h.2.2]; exact mem_dvd_pd h.1 (by simp)
  obtain ⟨z, hz, e⟩ := pr_dvd_pd (h.1 x (by simp)).1 h'.1 hd
  rcases List.mem_cons.1 hz with e' | hm
  · subst e'; omega
  · have := (List.pairwise_cons.1 h'.2.1).1 z hm
    omega

/-- There is at most one. -/
theorem Fac.unique {n : Nat} {l m : List (Nat × Nat)} (h : Fac n l) (h' : Fac n m) : l = m := by
  induction l generalizing n m with
  | nil =>
    cases m with
    | nil => rfl
    | cons y ys =>
      exfalso
      have h1 := pd_len h'.1
      have h2 := h.2.2
      have h3 := h'.2.2
      simp [pd] at h2
      have h4 : 2 ^ 1 ≤ 2 ^ (y :: ys).length := Nat.pow_le_pow_right (by omega) (by simp)
      omega
  | cons x xs ih =>
    cases m with
    | nil =>
      exfalso
      have h1 := pd_len h.1
      have h2 := h'.2.2
      have h3 := h.2.2
      simp [pd] at h2
      have h4 : 2 ^ 1 ≤ 2 ^ (x :: xs).length := Nat.pow_le_pow_right (by omega) (by simp)
      omega
    | cons y ys =>
      have e : x.1 = y.1 := Nat.le_antisymm (h'.head_le h) (h.head_le h')
      have hx := h.head_not
      have hy := h'.head_not
      have hn : x.1 ^ x.2 * pd xs = y.1 ^ y.2 * pd ys := h.2.2.trans h'.2.2.symm
      rw [← e] at hn hy
      obtain ⟨e2, e3⟩ := pow_split (h.1 x (by simp)).1.1 hx hy hn
      have ht := h'.tail
      rw [← e3] at ht
      rw [ih h.tail ht, show x = y from Prod.ext e e2]

/-- A number from 2 on has a prime, below which nothing from 2 on divides it. -/
theorem least_prime {n : Nat} (h : 2 ≤ n) : ∃ p, Pr p ∧ p ∣ n ∧ ∀ d, 2 ≤ d → d ∣ n → p ≤ d := by
  have key : ∀ k, ∀ p, p + k = n → (∀ d, 2 ≤ d → d < p → ¬ d ∣ n) → 2 ≤ p → ∃ p, Pr p ∧ p ∣ n ∧ ∀ d, 2 ≤ d → d ∣ n → p ≤ d := by
    intro k
    induction k with
    | zero =>
      intro p hp hnone h2
      have : p = n := by omega
      subst this
      refine ⟨p, ⟨h2, fun d hd => ?_⟩, Nat.dvd_refl _, fun d h2 hd => ?_⟩
      · have := Nat.le_of_dvd (by omega) hd
        have hd0 : d ≠ 0 := by intro e; subst e; simp at hd; omega
        by_cases h1 : d = 1
        · exact .inl h1
        · by_cases h3 : d < p
          · exact absurd hd (hnone d (by omega) h3)
          · right; omega
      · by_cases h3 : d < p
        · exact absurd hd (hnone d h2 h3)
        · omega
    | succ k ih =>
      intro p hp hnone h2
      by_cases hd : p ∣ n
      · refine ⟨p, ⟨h2, fun d hdp => ?_⟩, hd, fun d h2 hd => ?_⟩
        · have := Nat.le_of_dvd (by omega) hdp
          have hd0 : d ≠ 0 := by intro e; subst e; simp at hdp; omega
          by_cases h1 : d = 1
          · exact .inl h1
          · by_cases h3 : d < p
            · exact absurd (Nat.dvd_trans hdp hd) (hnone d (by omega) h3)
            · right; omega
        · by_cases h3 : d < p
          · exact absurd hd (hnone d h2 h3)
          · omega
      · refine ih (p + 1) (by omega) (fun d h2 h3 => ?_) (by omega)
        by_cases e : d = p
        · subst e; exact hd
        · exact hnone d h2 (by omega)
  exact key (n - 2) 2 (by omega) (fun d h1 h2 => by omega) (by omega)

theorem pow_out {p : Nat} (hp : 2 ≤ p) : ∀ (n : Nat), 1 ≤ n → ∃ k m, n = p ^ k * m ∧ ¬ p ∣ m ∧ 1 ≤ m := by
  intro n
  induction n using Nat.strongRecOn with
  | ind n ih =>
    intro hn
    by_cases hd : p ∣ n
    · obtain ⟨m, rfl⟩ := hd
      have hm : 1 ≤ m := by
        rcases Nat.eq_zero_or_pos m with e | e
        · subst e; simp at hn
        · exact e
      have hlt : m < p * m := by
        have : 2 * m ≤ p * m := Nat.mul_le_mul_right m hp
        omega
      obtain ⟨k, m', e, h1, h2⟩ := ih m hlt hm
      refine ⟨k + 1, m', ?_, h1, h2⟩
      rw [Nat.pow_succ, Nat.mul_comm (p ^ k) p, Nat.mul_assoc, ← e]
    · exact ⟨0, n, by simp, hd, hn⟩

/-- There is one. -/
theorem Fac.exists : ∀ (n : Nat), 1 ≤ n → ∃ l, Fac n l := by
  intro n
  induction n using Nat.strongRecOn with
  | ind n ih =>
    intro hn
    by_cases h1 : n = 1
    · subst h1; exact ⟨[], by simp [Fac, pd]⟩
    · obtain ⟨p, hp, hd, hl⟩ := least_prime (n := n) (by omega)
      obtain ⟨k, m, e, hm, hm1⟩ := pow_out hp.1 n hn
      have hk : 1 ≤ k := by
        rcases Nat.eq_zero_or_pos k with e0 | e0
        · subst e0; simp at e; subst e; exact absurd hd hm
        · exact e0
      have h2 := two_le_pow hp.1 hk
      have hlt : m < n := by
        have : 2 * m ≤ p ^ k * m := Nat.mul_le_mul_right m h2
        omega
      obtain ⟨l, hl'⟩ := ih m hlt hm1
      refine ⟨(p, k) :: l, ?_, ?_, ?_⟩
      · intro x hx
        rcases List.mem_cons.1 hx with rfl | hx
        · exact ⟨hp, hk⟩
        · exact hl'.1 x hx
      · refine List.pairwise_cons.2 ⟨fun x hx => ?_, hl'.2.1⟩
        have hdx : x.1 ∣ m := by have := mem_dvd_pd hl'.1 hx; rwa [hl'.2.2] at this
        have h3 := hl x.1 (hl'.1 x hx).1.1 (by rw [e]; exact Nat.dvd_trans hdx (Nat.dvd_mul_left _ _))
        have h4 : p ≠ x.1 := by intro e4; rw [← e4] at hdx; exact hm hdx
        simp; omega
      · simp [pd, hl'.2.2]; exact e.symm

theorem Fac.prime {p : Nat} (h : Pr p) : Fac p [(p, 1)] := by
  refine ⟨?_, ?_, ?_⟩
  · intro x hx; simp at hx; subst hx; exact ⟨h, Nat.le_refl _⟩
  · simp
  · simp [pd]

/-- What trial division has so far: the powers, what is left, and how far it has come. -/
structure Trial (n : Nat) (pre : List (Nat × Nat)) (rest p : Nat) : Prop where
  two : 2 ≤ p
  pos : 1 ≤ rest
  prod : pd pre * rest = n
  all : ∀ x ∈ pre, Pr x.1 ∧ 1 ≤ x.2
  rise : pre.Pairwise (fun x y => x.1 < y.1)
  low : ∀ x ∈ pre, x.1 < p
  none : ∀ d, 2 ≤ d → d < p → ¬ d ∣ rest

theorem Trial.start {n : Nat} (h : 1 ≤ n) : Trial n [] n 2 :=
  ⟨by omega, h, by simp [pd], by simp, by simp, by simp, fun d h1 h2 => by omega⟩

theorem Trial.le {n : Nat} {pre : List (Nat × Nat)} {rest p : Nat} (h : Trial n pre rest p) : rest ≤ n := by
  have h1 := pd_pos h.all
  have h2 : 1 * rest ≤ pd pre * rest := Nat.mul_le_mul_right rest h1
  have := h.prod
  omega

theorem Trial.len {n : Nat} {pre : List (Nat × Nat)} {rest p : Nat} (h : Trial n pre rest p) (hn : n ≤ 1048576) : pre.length ≤ 20 := by
  have h1 := pd_len h.all
  have h2 : pd pre * 1 ≤ pd pre * rest := Nat.mul_le_mul_left _ h.pos
  rw [h.prod] at h2
  have h3 : 2 ^ pre.length ≤ 2 ^ 20 := by
    have : (2 : Nat) ^ 20 = 1048576 := by decide
    omega
  exact (Nat.pow_le_pow_iff_right (by omega)).1 h3

theorem Trial.skip {n : Nat} {pre : List (Nat × Nat)} {rest p : Nat} (h : Trial n pre rest p) (hd : ¬ p ∣ rest) : Trial n pre rest (p + 1) :=
  ⟨by have := h.two; omega, h.pos, h.prod, h.all, h.rise, fun x hx => by have := h.low x hx; omega, fun d h1 h2 => by
    by_cases e : d = p
    · subst e; exact hd
    · exact h.none d h1 (by omega)⟩

theorem Trial.pr {n : Nat} {pre : List (Nat × Nat)} {rest p : Nat} (h : Trial n pre rest p) (hd : p ∣ rest) : Pr p := by
  refine ⟨h.two, fun d hdp => ?_⟩
  have h2 := h.two
  have := Nat.le_of_dvd (by omega) hdp
  have hd0 : d ≠ 0 := by intro e; subst e; simp at hdp; omega
  by_cases h1 : d = 1
  · exact .inl h1
  · by_cases h3 : d < p
    · exact absurd (Nat.dvd_trans hdp hd) (h.none d (by omega) h3)
    · right; omega

theorem Trial.take {n : Nat} {pre : List (Nat × Nat)} {rest p k rest' : Nat} (h : Trial n pre rest p) (hk : 1 ≤ k) (e : rest = p ^ k * rest') (hd : ¬ p ∣ rest') : Trial n (pre ++ [(p, k)]) rest' (p + 1) := by
  have hdv : p ∣ rest := by
    rw [e]
    have : p ^ 1 ∣ p ^ k := Nat.pow_dvd_pow p hk
    rw [Nat.pow_one] at this
    exact Nat.dvd_trans this (Nat.dvd_mul_right _ _)
  have hpr := h.pr hdv
  refine ⟨by have := h.two; omega, ?_, ?_, ?_, ?_, ?_, ?_⟩
  · rcases Nat.eq_zero_or_pos rest' with e0 | e0
    · subst e0; simp at hd
    · exact e0
  · rw [pd_snoc, Nat.mul_assoc, ← e]; exact h.prod
  · intro x hx
    rcases List.mem_append.1 hx with hx | hx
    · exact h.all x hx
    · simp at hx; subst hx; exact ⟨hpr, hk⟩
  · refine List.pairwise_append.2 ⟨h.rise, by simp, fun x hx y hy => ?_⟩
    simp at hy; subst hy; exact h.low x hx
  · intro x hx
    rcases List.mem_append.1 hx with hx | hx
    · have := h.low x hx; omega
    · simp at hx; subst hx; simp
  · intro d h1 h2
    by_cases e1 : d = p
    · subst e1; exact hd
    · intro hdd
      exact h.none d h1 (by omega) (by rw [e]; exact Nat.dvd_trans hdd (Nat.dvd_mul_left _ _))

/-- What is left when the root is passed is 1 or a prime. -/
theorem Trial.done1 {n : Nat} {pre : List (Nat × Nat)} {p : Nat} (h : Trial n pre 1 p) : Fac n pre :=
  ⟨h.all, h.rise, by have := h.prod; omega⟩

theorem Trial.done {n : Nat} {pre : List (Nat × Nat)} {rest p : Nat} (h : Trial n pre rest p) (hr : 2 ≤ rest) (hp : rest < p * p) : Fac n (pre ++ [(rest, 1)]) := by
  have hpr : Pr rest := pr_of_small hr (fun d h2 hd hdv => by
    by_cases hlt : d < p
    · exact h.none d h2 hlt hdv
    · have : p * p ≤ d * d := Nat.mul_le_mul (by omega) (by omega)
      omega)
  refine ⟨?_, ?_, ?_⟩
  · intro x hx
    rcases List.mem_append.1 hx with hx | hx
    · exact h.all x hx
    · simp at hx; subst hx; exact ⟨hpr, Nat.le_refl _⟩
  · refine List.pairwise_append.2 ⟨h.rise, by simp, fun x hx y hy => ?_⟩
    simp at hy; subst hy
    have h1 := h.low x hx
    by_cases hlt : rest < p
    · exact absurd (Nat.dvd_refl rest) (h.none rest hr hlt)
    · simp; omega
  · rw [pd_snoc]; simpa using h.prod

/-- What came so far is how the list of all begins. -/
theorem Trial.pre {n : Nat} {pre : List (Nat × Nat)} {rest p : Nat} (h : Trial n pre rest p) : ∃ l, Fac n (pre ++ l) := by
  obtain ⟨l, hl⟩ := Fac.exists rest h.pos
  refine ⟨l, ?_, ?_, ?_⟩
  · intro x hx
    rcases List.mem_append.1 hx with hx | hx
    · exact h.all x hx
    · exact hl.1 x hx
  · refine List.pairwise_append.2 ⟨h.rise, hl.2.1, fun x hx y hy => ?_⟩
    have h1 := h.low x hx
    have h2 : y.1 ∣ rest := by have := mem_dvd_pd hl.1 hy; rwa [hl.2.2] at this
    by_cases hlt : y.1 < p
    · exact absurd h2 (h.none y.1 (hl.1 y hy).1.1 hlt)
    · omega
  · rw [pd_append, hl.2.2]; exact h.prod

/-- The product of so many numbers behind c. -/
def up : Nat → Nat → Nat
  | _, 0 => 1
  | c, n + 1 => (c + 1) * up (c + 1) n

theorem up_le {l : List (Nat × Nat)} : ∀ {c : Nat}, (∀ x ∈ l, Pr x.1 ∧ 1 ≤ x.2) → l.Pairwise (fun x y => x.1 < y.1) → (∀ x ∈ l, c < x.1) → up c l.length ≤ pd l := by
  induction l with
  | nil => intro c _ _ _; exact Nat.le_refl _
  | cons x xs ih =>
    intro c h1 h2 h3
    have hx := h3 x (by simp)
    have h4 := ih (c := c + 1) (fun y hy => h1 y (by simp [hy])) (List.pairwise_cons.1 h2).2 (fun y hy => by have := (List.pairwise_cons.1 h2).1 y hy; omega)
    have h5 : x.1 ^ 1 ≤ x.1 ^ x.2 := Nat.pow_le_pow_right (by omega) (h1 x (by simp)).2
    rw [Nat.pow_one] at h5
    exact Nat.mul_le_mul (by omega) h4

theorem len8 {l : List (Nat × Nat)} (h1 : ∀ x ∈ l, Pr x.1 ∧ 1 ≤ x.2) (h2 : l.Pairwise (fun x y => x.1 < y.1)) (h3 : pd l ≤ 1048576) : l.length ≤ 8 := by
  rcases Nat.lt_or_ge l.length 9 with h | h
  · omega
  · exfalso
    have hm : ∀ n c, 1 ≤ up c n := by
      intro n
      induction n with
      | zero => intro c; exact Nat.le_refl _
      | succ n ih => intro c; exact Nat.mul_le_mul (show 1 ≤ c + 1 by omega) (ih (c + 1))
    have h4 : up 1 9 ≤ up 1 l.length := by
      have mono : ∀ n d c, up c n ≤ up c (n + d) := by
        intro n
        induction n with
        | zero => intro d c; exact hm _ _
        | succ n ih =>
          intro d c
          rw [show n + 1 + d = (n + d) + 1 by omega]
          exact Nat.mul_le_mul_left _ (ih d (c + 1))
      have := mono 9 (l.length - 9) 1
      rwa [show 9 + (l.length - 9) = l.length by omega] at this
    have h5 := up_le (c := 1) h1 h2 (fun x hx => by have := (h1 x hx).1.1; omega)
    have h6 : up 1 9 = 3628800 := by decide
    omega

theorem Trial.len8 {n : Nat} {pre : List (Nat × Nat)} {rest p : Nat} (h : Trial n pre rest p) (hn : n ≤ 1048576) : pre.length ≤ 8 := by
  refine Num.len8 h.all h.rise ?_
  have h2 : pd pre * 1 ≤ pd pre * rest := Nat.mul_le_mul_left _ h.pos
  rw [h.prod] at h2
  omega

theorem exp_le {p k m n : Nat} (hp : 2 ≤ p) (hm : 1 ≤ m) (e : p ^ k * m = n) (hn : n ≤ 1048576) : k ≤ 20 := by
  have h1 := two_pow_le (k := k) hp
  have h2 : p ^ k * 1 ≤ p ^ k * m := Nat.mul_le_mul_left _ hm
  have h3 : 2 ^ k ≤ 2 ^ 20 := by
    have : (2 : Nat) ^ 20 = 1048576 := by decide
    omega
  exact (Nat.pow_le_pow_iff_right (by omega)).1 h3

end Go.Proofs.Ytjpmkcijkcnfiaa.Num
