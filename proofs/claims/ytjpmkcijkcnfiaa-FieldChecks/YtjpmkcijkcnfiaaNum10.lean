/-
  Plain arithmetic, without the model: Jacobi's symbol: products above and below, reciprocity, what it has of -1 and of 2.
-/
import Derived.Test.YtjpmkcijkcnfiaaNum9
namespace Go.Proofs.Ytjpmkcijkcnfiaa.Num10
set_option linter.unusedVariables false
open Go.Proofs.Ytjpmkcijkcnfiaa.Num Go.Proofs.Ytjpmkcijkcnfiaa.Num3 Go.Proofs.Ytjpmkcijkcnfiaa.Num6 Go.Proofs.Ytjpmkcijkcnfiaa.Num7 Go.Proofs.Ytjpmkcijkcnfiaa.Num9

/-- A product over prime powers. -/
def jlc (c : Nat → Int) : List (Nat × Nat) → Int
  | [] => 1
  | x :: xs => c x.1 ^ x.2 * jlc c xs

/-- One prime more. -/
def bump (p : Nat) : List (Nat × Nat) → List (Nat × Nat)
  | [] => [(p, 1)]
  | x :: xs => if p < x.1 then (p, 1) :: x :: xs else if p = x.1 then (p, x.2 + 1) :: xs else x :: bump p xs

theorem bump_mem {p : Nat} : ∀ {l : List (Nat × Nat)} {y : Nat × Nat}, y ∈ bump p l → (y.1 = p ∧ 1 ≤ y.2) ∨ y ∈ l
  | [], y, h => by simp [bump] at h; subst h; exact .inl ⟨rfl, Nat.le_refl _⟩
  | x :: xs, y, h => by
    unfold bump at h
    split at h
    · rcases List.mem_cons.1 h with e | h
      · subst e; exact .inl ⟨rfl, Nat.le_refl _⟩
      · exact .inr h
    · split at h
      · rcases List.mem_cons.1 h with e | h
        · subst e; exact .inl ⟨rfl, by simp⟩
        · exact .inr (List.mem_cons_of_mem _ h)
      · rcases List.mem_cons.1 h with e | h
        · subst e; exact .inr (by simp)
        · rcases bump_mem h with h | h
          · exact .inl h
          · exact .inr (List.mem_cons_of_mem _ h)

theorem bump_pd {p : Nat} : ∀ l : List (Nat × Nat), pd (bump p l) = p * pd l
  | [] => by simp [bump, pd]
  | x :: xs => by
    unfold bump
    split
    · simp [pd]
    · split
      · rename_i h
        simp only [pd]
        rw [← h, Nat.pow_succ, Nat.mul_comm (p ^ x.2) p, Nat.mul_assoc]
      · simp only [pd]
        rw [bump_pd xs, Nat.mul_left_comm]

theorem bump_rise {p : Nat} : ∀ {l : List (Nat × Nat)}, l.Pairwise (fun x y => x.1 < y.1) → (bump p l).Pairwise (fun x y => x.1 < y.1)
  | [], _ => by simp [bump]
  | x :: xs, h => by
    obtain ⟨h1, h2⟩ := List.pairwise_cons.1 h
    unfold bump
    split
    · rename_i hlt
      refine List.pairwise_cons.2 ⟨fun y hy => ?_, h⟩
      rcases List.mem_cons.1 hy with e | hy
      · subst e; exact hlt
      · have := h1 y hy; simp; omega
    · split
      · rename_i he
        refine List.pairwise_cons.2 ⟨fun y hy => ?_, h2⟩
        have := h1 y hy; simp; omega
      · refine List.pairwise_cons.2 ⟨fun y hy => ?_, bump_rise h2⟩
        rcases bump_mem hy with ⟨e, _⟩ | hy
        · omega
        · exact h1 y hy

theorem bump_fac {n p : Nat} {l : List (Nat × Nat)} (h : Fac n l) (hp : Pr p) : Fac (p * n) (bump p l) := by
  refine ⟨fun x hx => ?_, bump_rise h.2.1, by rw [bump_pd, h.2.2]⟩
  rcases bump_mem hx with ⟨e, e2⟩ | hx
  · rw [e]; exact ⟨hp, e2⟩
  · exact h.1 x hx

theorem jlc_bump (c : Nat → Int) (p : Nat) : ∀ l : List (Nat × Nat), jlc c (bump p l) = c p * jlc c l
  | [] => by simp only [bump, jlc]; rw [Int.pow_succ, Int.pow_zero, Int.one_mul]
  | x :: xs => by
    unfold bump
    split
    · simp only [jlc]; rw [Int.pow_succ, Int.pow_zero, Int.one_mul]
    · split
      · rename_i h
        simp only [jlc]
        rw [← h, Int.pow_succ, Int.mul_comm (c p ^ x.2) (c p), Int.mul_assoc]
      · simp only [jlc]
        rw [jlc_bump c p xs, Int.mul_left_comm]

/-- Whatever holds of 1 and is handed on by each prime. -/
theorem prime_ind {G : Nat → Prop} (h1 : G 1) (hG : ∀ p n, Pr p → 1 ≤ n → G n → G (p * n)) : ∀ n, 1 ≤ n → G n := by
  intro n
  induction n using Nat.strongRecOn with
  | ind n ih =>
    intro hn
    by_cases e : n = 1
    · subst e; exact h1
    · obtain ⟨p, hp, ⟨m, rfl⟩, _⟩ := least_prime (n := n) (by omega)
      have hm : 1 ≤ m := by
        rcases Nat.eq_zero_or_pos m with e | e
        · subst e; simp at hn
        · exact e
      have hlt : m < p * m := by
        have : 2 * m ≤ p * m := Nat.mul_le_mul_right m hp.1
        omega
      exact hG p m hp hm (ih m hlt hm)

theorem fac_one : Fac 1 [] := ⟨by simp, by simp, rfl⟩

/-- Products below. -/
theorem jlc_mul (c : Nat → Int) {m n : Nat} (hm : 1 ≤ m) (hn : 1 ≤ n) {l k r : List (Nat × Nat)} (hl : Fac m l) (hk : Fac n k) (hr : Fac (m * n) r) : jlc c r = jlc c l * jlc c k := by
  have key : ∀ m, 1 ≤ m → ∀ l r, Fac m l → Fac (m * n) r → jlc c r = jlc c l * jlc c k := by
    refine prime_ind ?_ ?_
    · intro l r hl hr
      rw [Nat.one_mul] at hr
      rw [hl.unique fac_one, hr.unique hk]
      simp [jlc]
    · intro p m hp hm ih l r hl hr
      obtain ⟨l', hl'⟩ := Fac.exists m hm
      obtain ⟨r', hr'⟩ := Fac.exists (m * n) (Nat.mul_le_mul hm hn)
      rw [Nat.mul_assoc] at hr
      rw [hl.unique (bump_fac hl' hp), hr.unique (bump_fac hr' hp), jlc_bump, jlc_bump, ih l' r' hl' hr', Int.mul_assoc]
  exact key m hm l r hl hr

theorem fac_odd {n : Nat} {l : List (Nat × Nat)} (hF : Fac n l) (ho : n % 2 = 1) : ∀ x ∈ l, x.1 ≠ 2 := fun x hx e => by
  have := mem_dvd_pd hF.1 hx
  rw [hF.2.2, e] at this
  omega

theorem fac_dvd {n : Nat} {l : List (Nat × Nat)} (hF : Fac n l) : ∀ x ∈ l, x.1 ∣ n := fun x hx => by
  have := mem_dvd_pd hF.1 hx
  rwa [hF.2.2] at this

theorem jlc_congr {c d : Nat → Int} {l : List (Nat × Nat)} (h : ∀ x ∈ l, c x.1 = d x.1) : jlc c l = jlc d l := by
  induction l with
  | nil => rfl
  | cons x xs ih =>
    simp only [jlc]
    rw [h x (by simp), ih (fun y hy => h y (by simp [hy]))]

theorem jlc_prod {c d e : Nat → Int} {l : List (Nat × Nat)} (h : ∀ x ∈ l, e x.1 = c x.1 * d x.1) : jlc e l = jlc c l * jlc d l := by
  induction l with
  | nil => rfl
  | cons x xs ih =>
    simp only [jlc]
    rw [h x (by simp), ih (fun y hy => h y (by simp [hy])), Int.mul_pow, Int.mul_assoc, Int.mul_assoc, Int.mul_left_comm (d x.1 ^ x.2)]

/-- What Jacobi has of a by the number whose primes these are. -/
def jac (a : Nat) (l : List (Nat × Nat)) : Int := jlc (leg a) l

theorem jac_mod {n a b : Nat} {l : List (Nat × Nat)} (hF : Fac n l) (h : a % n = b % n) : jac a l = jac b l := by
  refine jlc_congr (fun x hx => leg_mod ?_)
  have hd := fac_dvd hF x hx
  rw [← Nat.mod_mod_of_dvd a hd, ← Nat.mod_mod_of_dvd b hd, h]

theorem jac_mul {n a b : Nat} {l : List (Nat × Nat)} (hF : Fac n l) (ho : n % 2 = 1) : jac (a * b) l = jac a l * jac b l :=
  jlc_prod (fun x hx => leg_mul (hF.1 x hx).1 (fac_odd hF ho x hx) a b)

theorem jac_one {n : Nat} {l : List (Nat × Nat)} (hF : Fac n l) : jac 1 l = 1 := by
  have h1 : ∀ x ∈ l, leg 1 x.1 = 1 := fun x hx => by
    have hp := (hF.1 x hx).1
    have h2 := hp.1
    unfold leg
    rw [if_neg (by rw [one_mod hp]; omega), if_pos ((sq_iff (by omega)).2 ⟨1, rfl⟩)]
  have : ∀ l : List (Nat × Nat), (∀ x ∈ l, leg 1 x.1 = 1) → jlc (leg 1) l = 1 := by
    intro l
    induction l with
    | nil => intro _; rfl
    | cons x xs ih =>
      intro h
      simp only [jlc]
      rw [h x (by simp), ih (fun y hy => h y (by simp [hy])), Int.one_pow]; rfl
  exact this l h1

theorem jac_three {n : Nat} {l : List (Nat × Nat)} (a : Nat) : jac a l = 0 ∨ jac a l = 1 ∨ jac a l = -1 := by
  unfold jac
  induction l with
  | nil => simp [jlc]
  | cons x xs ih =>
    have hk : ∀ k, leg a x.1 ^ k = 0 ∨ leg a x.1 ^ k = 1 ∨ leg a x.1 ^ k = -1 := by
      intro k
      induction k with
      | zero => simp
      | succ k ihk =>
        rw [Int.pow_succ]
        rcases ihk with h | h | h <;> rcases leg_three a x.1 with g | g | g <;> rw [h, g] <;> simp
    simp only [jlc]
    rcases hk x.2 with h | h | h <;> rcases ih with g | g | g <;> rw [h, g] <;> simp

theorem jac_zero {n a : Nat} {l : List (Nat × Nat)} (hF : Fac n l) : jac a l = 0 ↔ ¬ Nat.gcd a n = 1 := by
  have key : ∀ l : List (Nat × Nat), (∀ x ∈ l, 1 ≤ x.2) → (jlc (leg a) l = 0 ↔ ∃ x ∈ l, a % x.1 = 0) := by
    intro l
    induction l with
    | nil => intro _; simp [jlc]
    | cons x xs ih =>
      intro h
      simp only [jlc, Int.mul_eq_zero]
      rw [ih (fun y hy => h y (by simp [hy]))]
      have hpw : leg a x.1 ^ x.2 = 0 ↔ a % x.1 = 0 := by
        rw [← leg_zero]
        constructor
        · intro e
          have : ∀ k, leg a x.1 ^ k = 0 → leg a x.1 = 0 := by
            intro k
            induction k with
            | zero => intro e; simp at e
            | succ k ihk =>
              intro e
              rw [Int.pow_succ] at e
              rcases Int.mul_eq_zero.1 e with h | h
              · exact ihk h
              · exact h
          exact this _ e
        · intro e
          rw [e]
          have := h x (by simp)
          exact Int.zero_pow (by omega)
      rw [hpw]
      constructor
      · rintro (h | ⟨y, hy, h⟩)
        · exact ⟨x, by simp, h⟩
        · exact ⟨y, by simp [hy], h⟩
      · rintro ⟨y, hy, h'⟩
        rcases List.mem_cons.1 hy with e | hy
        · subst e; exact .inl h'
        · exact .inr ⟨y, hy, h'⟩
  unfold jac
  rw [key l (fun x hx => (hF.1 x hx).2)]
  constructor
  · rintro ⟨x, hx, h⟩ hg
    have hd : x.1 ∣ Nat.gcd a n := Nat.dvd_gcd (Nat.dvd_of_mod_eq_zero h) (fac_dvd hF x hx)
    rw [hg] at hd
    have := Nat.le_of_dvd (by omega) hd
    have := (hF.1 x hx).1.1
    omega
  · intro hg
    have hn : 1 ≤ n := by have := pd_pos hF.1; rw [hF.2.2] at this; exact this
    have hgp : 1 ≤ Nat.gcd a n := Nat.gcd_pos_of_pos_right a (by omega)
    obtain ⟨p, hp, hd, _⟩ := least_prime (n := Nat.gcd a n) (by omega)
    have hpn := Nat.dvd_trans hd (Nat.gcd_dvd_right a n)
    rw [← hF.2.2] at hpn
    obtain ⟨x, hx, e⟩ := pr_dvd_pd hp hF.1 hpn
    exact ⟨x, hx, by rw [e]; exact Nat.mod_eq_zero_of_dvd (Nat.dvd_trans hd (Nat.gcd_dvd_left a n))⟩

/-- What a product over primes is, if it is what a product says at each. -/
theorem jlc_chi {c chi : Nat → Int} (h1 : chi 1 = 1) (hm : ∀ a b, a % 2 = 1 → b % 2 = 1 → chi (a * b) = chi a * chi b) (hc : ∀ p, Pr p → p ≠ 2 → c p = chi p) :
    ∀ n, 1 ≤ n → n % 2 = 1 → ∀ l, Fac n l → jlc c l = chi n := by
  refine prime_ind (G := fun n => n % 2 = 1 → ∀ l, Fac n l → jlc c l = chi n) ?_ ?_
  · intro _ l hl; rw [hl.unique fac_one, h1]; rfl
  · intro p n hp hn ih ho l hl
    have hp2 : p % 2 = 1 := by
      rcases Nat.mod_two_eq_zero_or_one p with h | h
      · rw [Nat.mul_mod, h] at ho; simp at ho
      · exact h
    have hn2 : n % 2 = 1 := by
      rcases Nat.mod_two_eq_zero_or_one n with h | h
      · rw [Nat.mul_mod, h] at ho; simp at ho
      · exact h
    obtain ⟨l', hl'⟩ := Fac.exists n hn
    rw [hl.unique (bump_fac hl' hp), jlc_bump, ih hn2 l' hl', hc p hp (fun e => by rw [e] at hp2; omega), hm p n hp2 hn2]

def chi4 (n : Nat) : Int := if n % 4 = 1 then 1 else -1
def chi8 (n : Nat) : Int := if n % 8 = 1 ∨ n % 8 = 7 then 1 else -1

theorem chi4_mul (a b : Nat) (ha : a % 2 = 1) (hb : b % 2 = 1) : chi4 (a * b) = chi4 a * chi4 b := by
  have h1 : a % 4 = 1 ∨ a % 4 = 3 := by omega
  have h2 : b % 4 = 1 ∨ b % 4 = 3 := by omega
  unfold chi4
  rw [Nat.mul_mod]
  rcases h1 with h1 | h1 <;> rcases h2 with h2 | h2 <;> rw [h1, h2] <;> rfl

theorem chi8_mul (a b : Nat) (ha : a % 2 = 1) (hb : b % 2 = 1) : chi8 (a * b) = chi8 a * chi8 b := by
  have h1 : a % 8 = 1 ∨ a % 8 = 3 ∨ a % 8 = 5 ∨ a % 8 = 7 := by omega
  have h2 : b % 8 = 1 ∨ b % 8 = 3 ∨ b % 8 = 5 ∨ b % 8 = 7 := by omega
  unfold chi8
  rw [Nat.mul_mod]
  rcases h1 with h1 | h1 | h1 | h1 <;> rcases h2 with h2 | h2 | h2 | h2 <;> rw [h1, h2] <;> rfl

theorem jac_minus {n : Nat} {l : List (Nat × Nat)} (hF : Fac n l) (ho : n % 2 = 1) : jac (n - 1) l = chi4 n := by
  have e : jac (n - 1) l = jlc (fun p => leg (p - 1) p) l := by
    refine jlc_congr (fun x hx => leg_mod ?_)
    obtain ⟨q, hq⟩ := fac_dvd hF x hx
    have hp := (hF.1 x hx).1.1
    have hq1 : 1 ≤ q := by
      rcases Nat.eq_zero_or_pos q with e | e
      · subst e; rw [Nat.mul_zero] at hq; omega
      · exact e
    have : n - 1 = (x.1 - 1) + x.1 * (q - 1) := by
      obtain ⟨r, rfl⟩ : ∃ r, q = r + 1 := ⟨q - 1, by omega⟩
      rw [hq, Nat.mul_succ, Nat.add_sub_cancel]; omega
    rw [this, Nat.add_mul_mod_self_left]
  rw [e]
  refine jlc_chi (chi := chi4) rfl chi4_mul (fun p hp h2 => ?_) n (by omega) ho l hF
  rw [leg_minus hp h2]; rfl

theorem jac_two {n : Nat} {l : List (Nat × Nat)} (hF : Fac n l) (ho : n % 2 = 1) : jac 2 l = chi8 n :=
  jlc_chi (c := leg 2) (chi := chi8) rfl chi8_mul (fun p hp h2 => by rw [leg_two hp h2]; rfl) n (by omega) ho l hF

def eps (m n : Nat) : Int := if m % 4 = 3 ∧ n % 4 = 3 then -1 else 1

theorem eps_left (a b n : Nat) (ha : a % 2 = 1) (hb : b % 2 = 1) : eps (a * b) n = eps a n * eps b n := by
  have h1 : a % 4 = 1 ∨ a % 4 = 3 := by omega
  have h2 : b % 4 = 1 ∨ b % 4 = 3 := by omega
  unfold eps
  rw [Nat.mul_mod]
  by_cases hn : n % 4 = 3
  · rcases h1 with h1 | h1 <;> rcases h2 with h2 | h2 <;> rw [h1, h2, hn] <;> rfl
  · simp [hn]

theorem eps_comm (m n : Nat) : eps m n = eps n m := by
  unfold eps
  by_cases h : m % 4 = 3 ∧ n % 4 = 3
  · rw [if_pos h, if_pos ⟨h.2, h.1⟩]
  · rw [if_neg h, if_neg (fun k => h ⟨k.2, k.1⟩)]

theorem odd_factors {p n : Nat} (h : p * n % 2 = 1) : p % 2 = 1 ∧ n % 2 = 1 := by
  rw [Nat.mul_mod] at h
  rcases Nat.mod_two_eq_zero_or_one p with a | a <;> rcases Nat.mod_two_eq_zero_or_one n with b | b <;> rw [a, b] at h <;> simp at h
  exact ⟨a, b⟩

theorem recip_prime {p : Nat} (hp : Pr p) (ho : p ≠ 2) : ∀ m, 1 ≤ m → m % 2 = 1 → ¬ p ∣ m → ∀ l, Fac m l → leg m p * jac p l = eps p m := by
  refine prime_ind (G := fun m => m % 2 = 1 → ¬ p ∣ m → ∀ l, Fac m l → leg m p * jac p l = eps p m) ?_ ?_
  · intro _ _ l hl
    rw [hl.unique fac_one]
    have h1 : leg 1 p = 1 := by
      unfold leg
      rw [if_neg (by rw [one_mod hp]; omega), if_pos ((sq_iff (by have := hp.1; omega)).2 ⟨1, rfl⟩)]
    rw [h1]
    unfold eps
    rw [if_neg (by omega)]; rfl
  · intro q m hq hm ih hodd hd l hl
    obtain ⟨hq2, hm2⟩ := odd_factors hodd
    obtain ⟨l', hl'⟩ := Fac.exists m hm
    have hne : p ≠ q := fun e => hd (by rw [e]; exact Nat.dvd_mul_right _ _)
    have hdm : ¬ p ∣ m := fun h => hd (Nat.dvd_trans h (Nat.dvd_mul_left _ _))
    have ih' := ih hm2 hdm l' hl'
    have hr := recip hp hq ho (fun e => by rw [e] at hq2; omega) hne
    rw [hl.unique (bump_fac hl' hq)]
    unfold jac at ih' ⊢
    rw [jlc_bump, leg_mul hp ho, eps_comm, eps_left q m p hq2 hm2, eps_comm m p, ← ih']
    have e : eps q p = leg q p * leg p q := by rw [hr, eps_comm]; rfl
    rw [e]
    simp only [Int.mul_assoc, Int.mul_comm, Int.mul_left_comm]

/-- Reciprocity. -/
theorem recip_jac {m : Nat} (hm : 1 ≤ m) (hmo : m % 2 = 1) {l : List (Nat × Nat)} (hl : Fac m l) : ∀ n, 1 ≤ n → n % 2 = 1 → Nat.gcd m n = 1 → ∀ k, Fac n k → jac m k * jac n l = eps m n := by
  refine prime_ind (G := fun n => n % 2 = 1 → Nat.gcd m n = 1 → ∀ k, Fac n k → jac m k * jac n l = eps m n) ?_ ?_
  · intro _ _ k hk
    rw [hk.unique fac_one, jac_one hl]
    unfold eps
    rw [if_neg (by omega)]; rfl
  · intro p n hp hn ih hodd hg k hk
    obtain ⟨hp2, hn2⟩ := odd_factors hodd
    obtain ⟨k', hk'⟩ := Fac.exists n hn
    have hgp : Nat.gcd m p = 1 := Nat.Coprime.coprime_dvd_right (Nat.dvd_mul_right p n) hg
    have hgn : Nat.gcd m n = 1 := Nat.Coprime.coprime_dvd_right (Nat.dvd_mul_left n p) hg
    have hd : ¬ p ∣ m := (gcd_prime hp).1 hgp
    have h1 := recip_prime hp (fun e => by rw [e] at hp2; omega) m hm hmo hd l hl
    have h2 := ih hn2 hgn k' hk'
    have e1 : jac m k = leg m p * jac m k' := by rw [hk.unique (bump_fac hk' hp)]; exact jlc_bump _ _ _
    rw [e1, jac_mul hl hmo, eps_comm m, eps_left p n m hp2 hn2, eps_comm n m, ← h1, ← h2]
    simp only [Int.mul_assoc, Int.mul_comm, Int.mul_left_comm]

end Go.Proofs.Ytjpmkcijkcnfiaa.Num10
