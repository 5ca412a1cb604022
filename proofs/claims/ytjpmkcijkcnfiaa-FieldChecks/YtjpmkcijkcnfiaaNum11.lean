/-
  Plain arithmetic, without the model: numbers that seem to be primes: strong ones seem so by Euler's criterion (Miller, Rabin; Solovay, Strassen), half at most by that (Solovay, Strassen), a quarter at most by square roots of 1 (Rabin, Monier).
-/
import Derived.Test.YtjpmkcijkcnfiaaNum8
import Derived.Test.YtjpmkcijkcnfiaaNum10
namespace Go.Proofs.Ytjpmkcijkcnfiaa.Num11
set_option linter.unusedVariables false
open Go.Proofs.Ytjpmkcijkcnfiaa.Num Go.Proofs.Ytjpmkcijkcnfiaa.Num3 Go.Proofs.Ytjpmkcijkcnfiaa.Num6 Go.Proofs.Ytjpmkcijkcnfiaa.Num7 Go.Proofs.Ytjpmkcijkcnfiaa.Num8 Go.Proofs.Ytjpmkcijkcnfiaa.Num9 Go.Proofs.Ytjpmkcijkcnfiaa.Num10

/-- Does it seem a prime by square roots of 1? -/
def Strong (a n s d : Nat) : Prop := a ^ d % n = 1 ∨ ∃ j, j < s ∧ a ^ (2 ^ j * d) % n = n - 1

/-- Does it seem a prime by Euler's criterion? -/
def EulerB (a n : Nat) (l : List (Nat × Nat)) : Prop := Nat.gcd a n = 1 ∧ (n : Int) ∣ (a : Int) ^ ((n - 1) / 2) - jac a l

theorem minus_iff {n x : Nat} (hn : 2 ≤ n) : x % n = n - 1 ↔ (n : Int) ∣ (x : Int) + 1 := by
  constructor
  · intro h
    have e := Nat.div_add_mod x n
    rw [h] at e
    refine ⟨((x / n : Nat) : Int) + 1, ?_⟩
    have f : (x : Int) = (n : Int) * ((x / n : Nat) : Int) + ((n - 1 : Nat) : Int) := by rw [← Int.natCast_mul, ← Int.natCast_add, e]
    rw [Int.mul_add]; omega
  · rintro ⟨q, hq⟩
    have h1 : (x + 1) % n = 0 := by
      have : (n : Int) ∣ ((x + 1 : Nat) : Int) := ⟨q, by simpa using hq⟩
      exact Nat.mod_eq_zero_of_dvd (Int.natCast_dvd_natCast.1 this)
    have h2 := Nat.mod_lt x (show n > 0 by omega)
    have h3 : (x % n + 1) % n = 0 := by rw [Nat.add_mod, Nat.mod_mod, ← Nat.add_mod]; exact h1
    rcases Nat.lt_or_ge (x % n + 1) n with h | h
    · rw [Nat.mod_eq_of_lt h] at h3; omega
    · omega

theorem one_iff {n x : Nat} (hn : 2 ≤ n) : x % n = 1 ↔ (n : Int) ∣ (x : Int) - 1 := by
  have := mod_eq_iff (m := n) (x := x) (y := 1)
  rw [Nat.mod_eq_of_lt (show 1 < n by omega)] at this
  exact this

/-- What a power that is -1 tells of each prime. -/
theorem leg_of_minus {p a j d : Nat} (hp : Pr p) (ho : p ≠ 2) (hd : d % 2 = 1) (h : a ^ (2 ^ j * d) % p = p - 1) :
    p % 2 ^ (j + 1) = 1 ∧ leg a p = if p % 2 ^ (j + 2) = 1 then 1 else -1 := by
  obtain ⟨h', hh, h1⟩ := odd_half hp ho
  have h2 := hp.1
  have hone := one_mod hp
  have hne : ¬ a ^ (2 ^ j * d) % p = 1 % p := by rw [h, hone]; omega
  have hsq : a ^ (2 ^ (j + 1) * d) % p = 1 % p := by
    have e : 2 ^ (j + 1) * d = (2 ^ j * d) * 2 := by rw [Nat.pow_succ, Nat.mul_assoc, Nat.mul_comm 2 d, ← Nat.mul_assoc]
    rw [e, Nat.pow_mul, Nat.pow_mod, h]
    have e2 : (p - 1) ^ 2 = 1 + p * (p - 2) := by
      obtain ⟨q, rfl⟩ : ∃ q, p = q + 2 := ⟨p - 2, by omega⟩
      have e3 : q + 2 - 1 = q + 1 := by omega
      have e4 : q + 2 - 2 = q := by omega
      rw [e3, e4, Nat.pow_succ, Nat.pow_one]
      simp only [Nat.mul_add, Nat.add_mul, Nat.mul_one, Nat.one_mul]
      omega
    rw [e2, Nat.add_mul_mod_self_left]
  have hdpos : 1 ≤ d := by omega
  have hg : Nat.gcd a p = 1 := cop_of_pow (by omega) (Nat.mul_le_mul (Nat.pow_pos (by omega)) hdpos) hsq
  have ha0 : ¬ a % p = 0 := fun e => (gcd_prime hp).1 hg (Nat.dvd_of_mod_eq_zero e)
  obtain ⟨o, hoo, hot⟩ := ord_ex (m := p) (by omega) hg
  have htot : tot p = p - 1 := by
    have := tot_out (m := 1) hp (fun h => by have := Nat.le_of_dvd (by omega) h; omega)
    rw [Nat.mul_one, tot_one, Nat.mul_one] at this
    exact this
  rw [htot] at hot
  have d1 : o ∣ 2 ^ (j + 1) * d := (hoo.dvd _).1 hsq
  have d2 : ¬ o ∣ 2 ^ j * d := fun hd' => hne ((hoo.dvd _).2 hd')
  -- the even part of o
  obtain ⟨t, u, eo, hu, hu1⟩ := pow_out (p := 2) (Nat.le_refl 2) o hoo.1
  have hu2 : u % 2 = 1 := by omega
  have hud : u ∣ d := by
    have hc : Nat.gcd u (2 ^ (j + 1)) = 1 := Nat.Coprime.pow_right (j + 1) ((gcd_prime pr_two).2 hu)
    exact Nat.Coprime.dvd_of_dvd_mul_left hc (Nat.dvd_trans (by rw [eo]; exact Nat.dvd_mul_left _ _) d1)
  have ht1 : j + 1 ≤ t := by
    rcases Nat.lt_or_ge t (j + 1) with hlt | hge
    · exfalso
      exact d2 (by rw [eo]; exact Nat.mul_dvd_mul (Nat.pow_dvd_pow 2 (by omega)) hud)
    · exact hge
  have ht2 : t ≤ j + 1 := by
    rcases Nat.lt_or_ge (j + 1) t with hlt | hge
    · exfalso
      have h3 : 2 ^ (j + 1) * 2 ∣ 2 ^ (j + 1) * d := by
        refine Nat.dvd_trans ?_ d1
        rw [eo, ← Nat.pow_succ]
        exact Nat.dvd_trans (Nat.pow_dvd_pow 2 hlt) (Nat.dvd_mul_right _ _)
      have := Nat.dvd_of_mul_dvd_mul_left (Nat.pow_pos (by omega)) h3
      omega
    · exact hge
  have ht : t = j + 1 := by omega
  subst ht
  have hpd : 2 ^ (j + 1) ∣ p - 1 := Nat.dvd_trans (by rw [eo]; exact Nat.dvd_mul_right _ _) hot
  have hmod : ∀ k, 1 ≤ k → (p % 2 ^ k = 1 ↔ 2 ^ k ∣ p - 1) := by
    intro k hk
    have h4 := two_le_pow (p := 2) (Nat.le_refl 2) hk
    constructor
    · intro e
      have e2 := Nat.div_add_mod p (2 ^ k)
      rw [e] at e2
      exact ⟨p / 2 ^ k, by omega⟩
    · rintro ⟨q, hq⟩
      have : p = 1 + 2 ^ k * q := by omega
      rw [this, Nat.add_mul_mod_self_left]
      exact Nat.mod_eq_of_lt (by omega)
  refine ⟨(hmod (j + 1) (by omega)).2 hpd, ?_⟩
  have hcrit := euler_crit hp hh h1 a
  have hleg : leg a p = 1 ↔ o ∣ h' := by
    rw [← hoo.dvd, hone]
    constructor
    · intro e
      rw [e] at hcrit
      exact (one_iff h2).2 (by rw [natpow_cast]; exact hcrit)
    · intro e
      have h5 := (one_iff h2).1 e
      rw [natpow_cast] at h5
      have h6 := Int.dvd_sub h5 hcrit
      have e7 : (a : Int) ^ h' - 1 - ((a : Int) ^ h' - leg a p) = leg a p - 1 := by omega
      rw [e7] at h6
      exact small_eq (by omega) h6 (leg_bd _ _) (by omega)
  by_cases hc : p % 2 ^ (j + 2) = 1
  · rw [if_pos hc, hleg]
    have h8 := (hmod (j + 2) (by omega)).1 hc
    obtain ⟨q, hq⟩ := h8
    have h9 : h' = 2 ^ (j + 1) * q := by
      rw [Nat.pow_succ, Nat.mul_assoc, Nat.mul_left_comm] at hq
      omega
    rw [eo, h9]
    refine Nat.mul_dvd_mul (Nat.dvd_refl _) ?_
    -- u divides p - 1 = 2^(j+2) q and is odd
    have h10 : u ∣ 2 ^ (j + 2) * q := by rw [← hq]; exact Nat.dvd_trans (by rw [eo]; exact Nat.dvd_mul_left _ _) hot
    exact Nat.Coprime.dvd_of_dvd_mul_left (Nat.Coprime.pow_right (j + 2) ((gcd_prime pr_two).2 hu)) h10
  · rw [if_neg hc]
    have h8 : ¬ 2 ^ (j + 2) ∣ p - 1 := fun h => hc ((hmod (j + 2) (by omega)).2 h)
    have h9 : ¬ leg a p = 1 := fun e => by
      have h10 := hleg.1 e
      have h11 : 2 ^ (j + 1) ∣ h' := Nat.dvd_trans (by rw [eo]; exact Nat.dvd_mul_right _ _) h10
      obtain ⟨q, hq⟩ := h11
      exact h8 ⟨q, by rw [Nat.pow_succ, Nat.mul_assoc, Nat.mul_left_comm, ← hq]; omega⟩
    rcases leg_three a p with e | e | e
    · exact absurd (leg_zero.1 e) ha0
    · exact absurd e h9
    · exact e

theorem two_adic {M : Nat} (x : Nat) (hM : 2 ≤ M) : (M * x + 1) % (2 * M) = 1 ↔ x % 2 = 0 := by
  have e := Nat.div_add_mod x 2
  obtain ⟨y, hy⟩ : ∃ y, x / 2 = y := ⟨_, rfl⟩
  rw [hy] at e
  have e2 : M * x + 1 = (M * (x % 2) + 1) + 2 * M * y := by
    have : M * x = M * (2 * y) + M * (x % 2) := by rw [← Nat.mul_add, e]
    rw [this, Nat.mul_assoc, Nat.mul_left_comm M 2 y]; omega
  rw [e2, Nat.add_mul_mod_self_left]
  rcases Nat.mod_two_eq_zero_or_one x with h | h
  · rw [h, Nat.mul_zero, Nat.mod_eq_of_lt (by omega)]; omega
  · rw [h, Nat.mul_one, Nat.mod_eq_of_lt (by omega)]; omega

/-- And of the whole. -/
theorem jac_of_minus {a j d : Nat} (hd : d % 2 = 1) : ∀ n, 1 ≤ n → n % 2 = 1 → (2 ≤ n → a ^ (2 ^ j * d) % n = n - 1) → ∀ l, Fac n l →
    n % 2 ^ (j + 1) = 1 ∧ jac a l = if n % 2 ^ (j + 2) = 1 then 1 else -1 := by
  have h4 : 2 ≤ 2 ^ (j + 1) := two_le_pow (Nat.le_refl 2) (by omega)
  have h5 : 2 ^ (j + 2) = 2 * 2 ^ (j + 1) := by rw [Nat.pow_succ 2 (j + 1), Nat.mul_comm]
  refine prime_ind (G := fun n => n % 2 = 1 → (2 ≤ n → a ^ (2 ^ j * d) % n = n - 1) → ∀ l, Fac n l → n % 2 ^ (j + 1) = 1 ∧ jac a l = if n % 2 ^ (j + 2) = 1 then 1 else -1) ?_ ?_
  · intro _ _ l hl
    rw [hl.unique fac_one, Nat.mod_eq_of_lt (show 1 < 2 ^ (j + 1) by omega), Nat.mod_eq_of_lt (show 1 < 2 ^ (j + 2) by omega)]
    exact ⟨rfl, rfl⟩
  · intro p n hp hn ih hodd hm l hl
    obtain ⟨hp2, hn2⟩ := odd_factors hodd
    have h2 := hp.1
    have hpn : 2 ≤ p * n := by have : p * 1 ≤ p * n := Nat.mul_le_mul_left p hn; omega
    have hm' := (minus_iff hpn).1 (hm hpn)
    have hmp : a ^ (2 ^ j * d) % p = p - 1 := (minus_iff h2).2 (Int.dvd_trans ⟨(n : Int), by rw [Int.natCast_mul]⟩ hm')
    have hmn : 2 ≤ n → a ^ (2 ^ j * d) % n = n - 1 := fun h => (minus_iff h).2 (Int.dvd_trans ⟨(p : Int), by rw [Int.natCast_mul, Int.mul_comm]⟩ hm')
    obtain ⟨l', hl'⟩ := Fac.exists n hn
    obtain ⟨i1, i2⟩ := ih hn2 hmn l' hl'
    obtain ⟨e1, e2⟩ := leg_of_minus hp (fun e => by rw [e] at hp2; omega) hd hmp
    rw [hl.unique (bump_fac hl' hp)]
    unfold jac at i2 ⊢
    rw [jlc_bump, e2, i2]
    -- both are 1 and some times 2^(j+1)
    have hP := Nat.div_add_mod p (2 ^ (j + 1))
    have hN := Nat.div_add_mod n (2 ^ (j + 1))
    rw [e1] at hP
    rw [i1] at hN
    have hr2 : 2 ^ (j + 1) = 2 * 2 ^ j := by rw [Nat.pow_succ, Nat.mul_comm]
    obtain ⟨x, hx⟩ : ∃ x, p / 2 ^ (j + 1) = x := ⟨_, rfl⟩
    obtain ⟨y, hy⟩ : ∃ y, n / 2 ^ (j + 1) = y := ⟨_, rfl⟩
    rw [hx] at hP
    rw [hy] at hN
    have hpe : p = 2 ^ (j + 1) * x + 1 := hP.symm
    have hne : n = 2 ^ (j + 1) * y + 1 := hN.symm
    have hpne : p * n = 2 ^ (j + 1) * (2 * (2 ^ j * (x * y)) + x + y) + 1 := by
      rw [hpe, hne]
      simp only [Nat.mul_add, Nat.add_mul, Nat.mul_one, Nat.one_mul]
      have e3 : 2 ^ (j + 1) * x * (2 ^ (j + 1) * y) = 2 ^ (j + 1) * (2 * (2 ^ j * (x * y))) := by
        rw [← Nat.mul_assoc 2 (2 ^ j), ← hr2]
        simp only [Nat.mul_assoc, Nat.mul_left_comm]
      omega
    have c1 := two_adic (M := 2 ^ (j + 1)) x h4
    have c2 := two_adic (M := 2 ^ (j + 1)) y h4
    have c3 := two_adic (M := 2 ^ (j + 1)) (2 * (2 ^ j * (x * y)) + x + y) h4
    rw [← hpe, ← h5] at c1
    rw [← hne, ← h5] at c2
    rw [← hpne, ← h5] at c3
    refine ⟨?_, ?_⟩
    · rw [hpne, Nat.add_comm, Nat.add_mul_mod_self_left]
      exact Nat.mod_eq_of_lt (by omega)
    · rcases Nat.mod_two_eq_zero_or_one x with hx' | hx' <;> rcases Nat.mod_two_eq_zero_or_one y with hy' | hy'
      · rw [if_pos (c1.2 hx'), if_pos (c2.2 hy'), if_pos (c3.2 (by omega))]; rfl
      · rw [if_pos (c1.2 hx'), if_neg (fun h => by have := c2.1 h; omega), if_neg (fun h => by have := c3.1 h; omega)]; rfl
      · rw [if_neg (fun h => by have := c1.1 h; omega), if_pos (c2.2 hy'), if_neg (fun h => by have := c3.1 h; omega)]; rfl
      · rw [if_neg (fun h => by have := c1.1 h; omega), if_neg (fun h => by have := c2.1 h; omega), if_pos (c3.2 (by omega))]; rfl

theorem half_pow {n s d : Nat} (hs : 1 ≤ s) (h : n - 1 = 2 ^ s * d) : (n - 1) / 2 = 2 ^ (s - 1) * d := by
  obtain ⟨t, rfl⟩ : ∃ t, s = t + 1 := ⟨s - 1, by omega⟩
  rw [h, Nat.pow_succ, Nat.mul_comm (2 ^ t) 2, Nat.mul_assoc, Nat.mul_div_cancel_left _ (by omega)]
  rfl

theorem int_pow_one {n : Nat} {x : Int} (h : (n : Int) ∣ x - 1) : ∀ k : Nat, (n : Int) ∣ x ^ k - 1
  | 0 => by simp
  | k + 1 => by
    obtain ⟨q, hq⟩ := int_pow_one h k
    obtain ⟨r, hr⟩ := h
    have g1 : x ^ k = 1 + n * q := by omega
    refine ⟨q * x + r, ?_⟩
    rw [Int.pow_succ, g1, Int.add_mul, Int.one_mul, Int.mul_add, Int.mul_assoc]
    omega

theorem sq_of {n : Nat} {x y : Int} (h : (n : Int) ∣ x - y) (hy : y * y = 1) : (n : Int) ∣ x ^ 2 - 1 := by
  have e : x ^ 2 - 1 = (x - y) * (x + y) := by
    rw [Int.pow_succ, Int.pow_succ, Int.pow_zero, Int.one_mul, Int.sub_mul, Int.mul_add, Int.mul_add, hy, Int.mul_comm y x]
    omega
  rw [e]
  exact Int.dvd_trans h (Int.dvd_mul_right _ _)

theorem minus_sq {n : Nat} {x : Int} (h : (n : Int) ∣ x + 1) : (n : Int) ∣ x ^ 2 - 1 :=
  sq_of (y := -1) (by have e : x - -1 = x + 1 := by omega
                      rw [e]; exact h) rfl

/-- Miller, Rabin: strong ones seem so by Euler's criterion. -/
theorem strong_euler {a n s d : Nat} (hn : 3 ≤ n) (ho : n % 2 = 1) (hs : 1 ≤ s) (hd : d % 2 = 1) (hsd : n - 1 = 2 ^ s * d) {l : List (Nat × Nat)} (hF : Fac n l) (h : Strong a n s d) : EulerB a n l := by
  have h2 : 2 ≤ n := by omega
  have hdp : 1 ≤ d := by omega
  have hone : 1 % n = 1 := Nat.mod_eq_of_lt (by omega)
  unfold EulerB
  rw [half_pow hs hsd]
  rcases h with h | ⟨j, hj, h⟩
  · have hg : Nat.gcd a n = 1 := cop_of_pow (k := d) (by omega) hdp (by rw [hone]; exact h)
    refine ⟨hg, ?_⟩
    have hj1 : jac a l = 1 := by
      have e : jac (a ^ d) l = jac 1 l := jac_mod hF (by rw [h, hone])
      have hpw : ∀ k, jac (a ^ k) l = jac a l ^ k := by
        intro k
        induction k with
        | zero => rw [Nat.pow_zero, jac_one hF, Int.pow_zero]
        | succ k ih => rw [Nat.pow_succ, jac_mul hF ho, ih, Int.pow_succ]
      rw [hpw, jac_one hF] at e
      rcases jac_three (n := n) (l := l) a with e0 | e0 | e0
      · exact absurd hg ((jac_zero hF).1 e0)
      · exact e0
      · exfalso
        rw [e0] at e
        have : ∀ k : Nat, k % 2 = 1 → (-1 : Int) ^ k = -1 := by
          intro k hk
          obtain ⟨m, rfl⟩ : ∃ m, k = 2 * m + 1 := ⟨k / 2, by omega⟩
          rw [Int.pow_succ, Int.pow_mul]
          have : ((-1 : Int) ^ 2) = 1 := rfl
          rw [this, Int.one_pow]; rfl
        rw [this d hd] at e
        cases e
    rw [hj1]
    have h5 := (one_iff h2).1 h
    rw [natpow_cast] at h5
    have h6 := int_pow_one h5 (2 ^ (s - 1))
    rw [← Int.pow_mul, Nat.mul_comm] at h6
    exact h6
  · have h5 := (minus_iff h2).1 h
    rw [natpow_cast] at h5
    have hmj := (jac_of_minus hd n (by omega) ho (fun _ => h) l hF).2
    have hg : Nat.gcd a n = 1 := by
      have hsq : a ^ (2 ^ j * d * 2) % n = 1 % n := by
        rw [hone]
        refine (one_iff h2).2 ?_
        rw [natpow_cast, Int.pow_mul]
        exact minus_sq h5
      exact cop_of_pow (by omega) (Nat.mul_le_mul (Nat.mul_le_mul (Nat.pow_pos (by omega)) hdp) (show 1 ≤ 2 by omega)) hsq
    refine ⟨hg, ?_⟩
    rw [hmj]
    have hdv : ∀ k, 1 ≤ k → (n % 2 ^ k = 1 ↔ 2 ^ k ∣ n - 1) := by
      intro k hk
      have h4 := two_le_pow (p := 2) (Nat.le_refl 2) hk
      constructor
      · intro e
        have e2 := Nat.div_add_mod n (2 ^ k)
        rw [e] at e2
        exact ⟨n / 2 ^ k, by omega⟩
      · rintro ⟨q, hq⟩
        have : n = 1 + 2 ^ k * q := by omega
        rw [this, Nat.add_mul_mod_self_left]
        exact Nat.mod_eq_of_lt (by omega)
    by_cases hjs : j + 2 ≤ s
    · have h7 : n % 2 ^ (j + 2) = 1 := (hdv (j + 2) (by omega)).2 (by rw [hsd]; exact Nat.dvd_trans (Nat.pow_dvd_pow 2 hjs) (Nat.dvd_mul_right _ _))
      rw [if_pos h7]
      -- a square of -1 and on
      have h8 : (n : Int) ∣ ((a : Int) ^ (2 ^ j * d)) ^ 2 - 1 := minus_sq h5
      have h9 := int_pow_one h8 (2 ^ (s - 1 - j - 1))
      rw [← Int.pow_mul, ← Int.pow_mul] at h9
      have e : 2 ^ j * d * (2 * 2 ^ (s - 1 - j - 1)) = 2 ^ (s - 1) * d := by
        have e1 : 2 ^ (s - 1) = 2 ^ j * (2 * 2 ^ (s - 1 - j - 1)) := by
          rw [← Nat.pow_succ', ← Nat.pow_add]; congr 1; omega
        rw [e1]
        simp only [Nat.mul_assoc, Nat.mul_comm, Nat.mul_left_comm]
      rw [e] at h9
      exact h9
    · have hjs2 : j = s - 1 := by omega
      have h7 : ¬ n % 2 ^ (j + 2) = 1 := fun e => by
        have h8 := (hdv (j + 2) (by omega)).1 e
        rw [hsd, show j + 2 = s + 1 by omega, Nat.pow_succ] at h8
        have := Nat.dvd_of_mul_dvd_mul_left (Nat.pow_pos (by omega)) h8
        omega
      rw [if_neg h7, ← hjs2]
      have e : (a : Int) ^ (2 ^ j * d) - -1 = (a : Int) ^ (2 ^ j * d) + 1 := by omega
      rw [e]; exact h5

/-- Solovay, Strassen: and these by Fermat's theorem. -/
theorem euler_fermat {a n : Nat} (hn : 3 ≤ n) (ho : n % 2 = 1) {l : List (Nat × Nat)} (hF : Fac n l) (h : EulerB a n l) : a ^ (n - 1) % n = 1 := by
  obtain ⟨hg, q, hq⟩ := h
  have hj : jac a l * jac a l = 1 := by
    rcases jac_three (n := n) (l := l) a with e | e | e
    · exact absurd hg ((jac_zero hF).1 e)
    · rw [e]; rfl
    · rw [e]; rfl
  refine (one_iff (by omega)).2 ?_
  rw [natpow_cast, show n - 1 = (n - 1) / 2 * 2 by omega, Int.pow_mul]
  exact sq_of ⟨q, hq⟩ hj

end Go.Proofs.Ytjpmkcijkcnfiaa.Num11
