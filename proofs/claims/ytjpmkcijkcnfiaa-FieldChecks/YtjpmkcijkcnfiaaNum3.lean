/-
  Plain arithmetic, without the model: how many have nothing in common with a number (Euler's count), by counting, by the primes, and of products.
-/
import Derived.Test.YtjpmkcijkcnfiaaNum
namespace Go.Proofs.Ytjpmkcijkcnfiaa.Num3
set_option linter.unusedVariables false
open Go.Proofs.Ytjpmkcijkcnfiaa.Num

/-- How many of 1 to k. -/
def cnt (P : Nat → Bool) : Nat → Nat
  | 0 => 0
  | k + 1 => cnt P k + (if P (k + 1) then 1 else 0)

theorem cnt_congr {P Q : Nat → Bool} : ∀ {k : Nat}, (∀ x, 1 ≤ x → x ≤ k → P x = Q x) → cnt P k = cnt Q k
  | 0, _ => rfl
  | k + 1, h => by
    simp only [cnt]
    rw [cnt_congr (k := k) (fun x h1 h2 => h x h1 (by omega)), h (k + 1) (by omega) (by omega)]

theorem cnt_add (P : Nat → Bool) (a : Nat) : ∀ b, cnt P (a + b) = cnt P a + cnt (fun x => P (a + x)) b
  | 0 => rfl
  | b + 1 => by
    show cnt P (a + b) + _ = _
    rw [cnt_add P a b]
    simp only [cnt]
    rw [Nat.add_assoc]; rfl

theorem cnt_false {P : Nat → Bool} : ∀ {k : Nat}, (∀ x, 1 ≤ x → x ≤ k → P x = false) → cnt P k = 0
  | 0, _ => rfl
  | k + 1, h => by
    simp only [cnt]
    rw [cnt_false (k := k) (fun x h1 h2 => h x h1 (by omega)), h (k + 1) (by omega) (by omega)]
    rfl

theorem cnt_le (P : Nat → Bool) : ∀ k, cnt P k ≤ k
  | 0 => Nat.le_refl _
  | k + 1 => by
    have := cnt_le P k
    simp only [cnt]
    split <;> omega

theorem cnt_mul {P : Nat → Bool} {m : Nat} (h : ∀ x, P (x + m) = P x) : ∀ k, cnt P (k * m) = k * cnt P m := by
  have hk : ∀ k x, P (k * m + x) = P x := by
    intro k
    induction k with
    | zero => intro x; simp
    | succ k ih =>
      intro x
      rw [show (k + 1) * m + x = (k * m + x) + m by rw [Nat.succ_mul]; omega, h, ih]
  intro k
  induction k with
  | zero => simp [cnt]
  | succ k ih =>
    rw [Nat.succ_mul, cnt_add, ih, Nat.succ_mul, cnt_congr (Q := P) (fun x _ _ => hk k x)]

theorem cnt_split (P Q : Nat → Bool) : ∀ k, cnt (fun x => P x && !Q x) k + cnt (fun x => Q x && P x) k = cnt P k
  | 0 => rfl
  | k + 1 => by
    have := cnt_split P Q k
    simp only [cnt]
    rcases Bool.eq_false_or_eq_true (P (k + 1)) with hP | hP <;> rcases Bool.eq_false_or_eq_true (Q (k + 1)) with hQ | hQ <;> simp [hP, hQ] <;> omega

theorem cnt_multiples {p : Nat} (hp : 1 ≤ p) (Q : Nat → Bool) : ∀ m, cnt (fun x => decide (p ∣ x) && Q x) (p * m) = cnt (fun y => Q (p * y)) m
  | 0 => rfl
  | m + 1 => by
    rw [Nat.mul_succ, cnt_add, cnt_multiples hp Q m]
    show _ = cnt (fun y => Q (p * y)) m + (if Q (p * (m + 1)) then 1 else 0)
    obtain ⟨q, rfl⟩ : ∃ q, p = q + 1 := ⟨p - 1, by omega⟩
    show _ + (cnt _ q + _) = _
    rw [cnt_false (k := q)]
    · have e : decide (q + 1 ∣ (q + 1) * m + (q + 1)) = true := decide_eq_true (Nat.dvd_add (Nat.dvd_mul_right _ _) (Nat.dvd_refl _))
      show _ + (0 + if (decide (q + 1 ∣ (q + 1) * m + (q + 1)) && Q ((q + 1) * m + (q + 1))) = true then 1 else 0) = _
      rw [e, Nat.mul_succ]; simp
    · intro x h1 h2
      have : ¬ q + 1 ∣ (q + 1) * m + x := by
        intro h
        have := (Nat.dvd_add_right (Nat.dvd_mul_right (q + 1) m)).1 h
        have := Nat.le_of_dvd (by omega) this
        omega
      rw [decide_eq_false this]; rfl

/-- How many of 1 to n have nothing in common with n. -/
def tot (n : Nat) : Nat := cnt (fun x => Nat.gcd x n == 1) n

theorem gcd_prime {p x : Nat} (hp : Pr p) : Nat.gcd x p = 1 ↔ ¬ p ∣ x := by
  constructor
  · intro h hd
    have : p ∣ Nat.gcd x p := Nat.dvd_gcd hd (Nat.dvd_refl _)
    rw [h] at this
    have := Nat.le_of_dvd (by omega) this
    have := hp.1
    omega
  · intro h
    rcases hp.2 (Nat.gcd x p) (Nat.gcd_dvd_right x p) with e | e
    · exact e
    · exact absurd (e ▸ Nat.gcd_dvd_left x p) h

theorem gcd_mul {x a b : Nat} : Nat.gcd x (a * b) = 1 ↔ Nat.gcd x a = 1 ∧ Nat.gcd x b = 1 := Nat.coprime_mul_iff_right

theorem per (m x : Nat) : (Nat.gcd (x + m) m == 1) = (Nat.gcd x m == 1) := by rw [Nat.gcd_add_self_left]

theorem tot_in {p m : Nat} (hp : Pr p) (hd : p ∣ m) : tot (p * m) = p * tot m := by
  have e : cnt (fun x => Nat.gcd x (p * m) == 1) (p * m) = cnt (fun x => Nat.gcd x m == 1) (p * m) := by
    refine cnt_congr (fun x _ _ => ?_)
    have h : Nat.gcd x (p * m) = 1 ↔ Nat.gcd x m = 1 := by
      rw [gcd_mul]
      exact ⟨fun h => h.2, fun h => ⟨Nat.Coprime.coprime_dvd_right hd h, h⟩⟩
    rw [Bool.eq_iff_iff]; simpa using h
  unfold tot
  rw [e, cnt_mul (per m)]

theorem tot_out {p m : Nat} (hp : Pr p) (hd : ¬ p ∣ m) : tot (p * m) = (p - 1) * tot m := by
  have h1 := cnt_split (fun x => Nat.gcd x m == 1) (fun x => decide (p ∣ x)) (p * m)
  rw [cnt_multiples (by have := hp.1; omega), cnt_mul (P := fun x => Nat.gcd x m == 1) (per m)] at h1
  have e1 : cnt (fun y => Nat.gcd (p * y) m == 1) m = tot m := by
    refine cnt_congr (fun y _ _ => ?_)
    have h : Nat.gcd (p * y) m = 1 ↔ Nat.gcd y m = 1 := by
      rw [Nat.gcd_comm, gcd_mul, Nat.gcd_comm m y]
      exact ⟨fun h => h.2, fun h => ⟨(gcd_prime hp).2 hd, h⟩⟩
    rw [Bool.eq_iff_iff]; simpa using h
  have e2 : tot (p * m) = cnt (fun x => Nat.gcd x m == 1 && !decide (p ∣ x)) (p * m) := by
    refine cnt_congr (fun x _ _ => ?_)
    have h : Nat.gcd x (p * m) = 1 ↔ Nat.gcd x m = 1 ∧ ¬ p ∣ x := by
      rw [gcd_mul, gcd_prime hp, and_comm]
    rw [Bool.eq_iff_iff]; simpa using h
  rw [e1, ← e2] at h1
  change tot (p * m) + tot m = p * tot m at h1
  have e3 : p * tot m = (p - 1) * tot m + tot m := by
    obtain ⟨q, hq⟩ : ∃ q, p = q + 1 := ⟨p - 1, by have := hp.1; omega⟩
    rw [hq, Nat.succ_mul, Nat.add_sub_cancel]
  omega

theorem tot_one : tot 1 = 1 := rfl

theorem tot_pow {p m : Nat} (hp : Pr p) (hd : ¬ p ∣ m) : ∀ k, tot (p ^ (k + 1) * m) = p ^ k * (p - 1) * tot m
  | 0 => by simp; exact tot_out hp hd
  | k + 1 => by
    have e : p ^ (k + 1 + 1) * m = p * (p ^ (k + 1) * m) := by rw [Nat.pow_succ p (k + 1), Nat.mul_comm (p ^ (k + 1)) p, Nat.mul_assoc]
    have hdv : p ∣ p ^ (k + 1) * m := by
      rw [Nat.pow_succ, Nat.mul_assoc]
      exact Nat.dvd_trans (Nat.dvd_mul_right p m) (Nat.dvd_mul_left _ _)
    rw [e, tot_in hp hdv, tot_pow hp hd k, Nat.pow_succ, Nat.mul_comm (p ^ k) p]
    simp only [Nat.mul_assoc]

/-- By the primes. -/
def phl : List (Nat × Nat) → Nat
  | [] => 1
  | x :: xs => x.1 ^ (x.2 - 1) * (x.1 - 1) * phl xs

theorem tot_fac {n : Nat} {l : List (Nat × Nat)} (h : Fac n l) : tot n = phl l := by
  induction l generalizing n with
  | nil => have := h.2.2; simp [pd] at this; subst this; rfl
  | cons x xs ih =>
    obtain ⟨hp, hk⟩ := h.1 x (by simp)
    obtain ⟨k, hk'⟩ : ∃ k, x.2 = k + 1 := ⟨x.2 - 1, by omega⟩
    have e : n = x.1 ^ (k + 1) * pd xs := by rw [← h.2.2]; simp [pd, hk']
    rw [e, tot_pow hp h.head_not k, ih h.tail]
    simp [phl, hk']

theorem tot_pos {n : Nat} (h : 1 ≤ n) : 1 ≤ tot n := by
  obtain ⟨l, hl⟩ := Fac.exists n h
  rw [tot_fac hl]
  have : ∀ l : List (Nat × Nat), (∀ x ∈ l, Pr x.1 ∧ 1 ≤ x.2) → 1 ≤ phl l := by
    intro l
    induction l with
    | nil => intro _; simp [phl]
    | cons x xs ih =>
      intro h
      have h1 := ih (fun y hy => h y (by simp [hy]))
      have hp := (h x (by simp)).1.1
      have h2 : 1 ≤ x.1 ^ (x.2 - 1) := Nat.pow_pos (by omega)
      exact Nat.mul_le_mul (Nat.mul_le_mul h2 (show 1 ≤ x.1 - 1 by omega)) h1
  exact this l hl.1

theorem tot_le (n : Nat) : tot n ≤ n := cnt_le _ _

/-- What is told of a product. -/
theorem tot_mul : ∀ (a b : Nat), 1 ≤ a → 1 ≤ b → (Nat.gcd a b = 1 → tot (a * b) = tot a * tot b) ∧ (Nat.gcd a b ≠ 1 → tot a * tot b < tot (a * b)) := by
  intro a
  induction a using Nat.strongRecOn with
  | ind a ih =>
    intro b ha hb
    by_cases h1 : a = 1
    · subst h1
      simp [tot_one]
    · obtain ⟨p, hp, hd, _⟩ := least_prime (n := a) (by omega)
      obtain ⟨a', rfl⟩ := hd
      have ha' : 1 ≤ a' := by
        rcases Nat.eq_zero_or_pos a' with e | e
        · subst e; simp at ha
        · exact e
      have hlt : a' < p * a' := by
        have : 2 * a' ≤ p * a' := Nat.mul_le_mul_right a' hp.1
        omega
      obtain ⟨i1, i2⟩ := ih a' hlt b ha' hb
      have hge : tot a' * tot b ≤ tot (a' * b) := by
        by_cases hg : Nat.gcd a' b = 1
        · rw [i1 hg]; exact Nat.le_refl _
        · exact Nat.le_of_lt (i2 hg)
      have hpos : 1 ≤ tot a' * tot b := Nat.mul_le_mul (tot_pos ha') (tot_pos hb)
      have hgc : Nat.gcd (p * a') b = 1 ↔ Nat.gcd b p = 1 ∧ Nat.gcd a' b = 1 := by
        rw [Nat.gcd_comm, gcd_mul, Nat.gcd_comm b a']
      rw [Nat.mul_assoc p a' b]
      by_cases hpa : p ∣ a'
      · rw [tot_in hp hpa, tot_in hp (Nat.dvd_trans hpa (Nat.dvd_mul_right a' b)), Nat.mul_assoc]
        have hg2 : Nat.gcd (p * a') b = 1 ↔ Nat.gcd a' b = 1 := by
          rw [hgc]
          exact ⟨fun h => h.2, fun h => ⟨by rw [Nat.gcd_comm]; exact Nat.Coprime.coprime_dvd_left hpa h, h⟩⟩
        refine ⟨fun h => by rw [i1 (hg2.1 h)], fun h => ?_⟩
        exact Nat.mul_lt_mul_of_pos_left (i2 (fun e => h (hg2.2 e))) (by have := hp.1; omega)
      · by_cases hpb : p ∣ b
        · rw [tot_out hp hpa, tot_in hp (Nat.dvd_trans hpb (Nat.dvd_mul_left b a'))]
          refine ⟨fun h => absurd hpb ((gcd_prime hp).1 (hgc.1 h).1), fun _ => ?_⟩
          have h1 : p * (tot a' * tot b) ≤ p * tot (a' * b) := Nat.mul_le_mul_left p hge
          have h2 : (p - 1) * (tot a' * tot b) < p * (tot a' * tot b) := Nat.mul_lt_mul_of_pos_right (by have := hp.1; omega) (by omega)
          rw [Nat.mul_assoc]
          omega
        · have hpab : ¬ p ∣ a' * b := fun h => (hp.dvd_mul h).elim hpa hpb
          rw [tot_out hp hpa, tot_out hp hpab, Nat.mul_assoc]
          have hg2 : Nat.gcd (p * a') b = 1 ↔ Nat.gcd a' b = 1 := by
            rw [hgc]
            exact ⟨fun h => h.2, fun h => ⟨(gcd_prime hp).2 hpb, h⟩⟩
          refine ⟨fun h => by rw [i1 (hg2.1 h)], fun h => ?_⟩
          exact Nat.mul_lt_mul_of_pos_left (i2 (fun e => h (hg2.2 e))) (by have := hp.1; omega)

/-- By what is left when each prime takes its part. -/
theorem fold_phl (l : List (Nat × Nat)) (h : ∀ x ∈ l, Pr x.1 ∧ 1 ≤ x.2) : ∀ A, l.foldl (fun c x => c - c / x.1) (A * pd l) = A * phl l := by
  induction l with
  | nil => intro A; simp [pd, phl]
  | cons x xs ih =>
    intro A
    obtain ⟨hp, hk⟩ := h x (by simp)
    obtain ⟨k, hk'⟩ : ∃ k, x.2 = k + 1 := ⟨x.2 - 1, by omega⟩
    have e : A * pd (x :: xs) = x.1 * (A * x.1 ^ k * pd xs) := by
      simp only [pd, hk', Nat.pow_succ]
      simp only [Nat.mul_assoc, Nat.mul_comm, Nat.mul_left_comm]
    rw [List.foldl_cons, e, Nat.mul_div_cancel_left _ (by have := hp.1; omega)]
    have e2 : x.1 * (A * x.1 ^ k * pd xs) - A * x.1 ^ k * pd xs = (A * (x.1 ^ k * (x.1 - 1))) * pd xs := by
      obtain ⟨q, hq⟩ : ∃ q, x.1 = q + 1 := ⟨x.1 - 1, by have := hp.1; omega⟩
      rw [hq, Nat.succ_mul]
      simp only [Nat.add_sub_cancel]
      simp only [Nat.mul_assoc, Nat.mul_comm, Nat.mul_left_comm]
    rw [e2, ih (fun y hy => h y (by simp [hy]))]
    simp only [phl, hk', Nat.add_sub_cancel, Nat.mul_assoc]

theorem fold_tot {n : Nat} {l : List (Nat × Nat)} (h : Fac n l) : l.foldl (fun c x => c - c / x.1) n = tot n := by
  have := fold_phl l h.1 1
  rw [Nat.one_mul, Nat.one_mul, h.2.2] at this
  rw [this, tot_fac h]

end Go.Proofs.Ytjpmkcijkcnfiaa.Num3
