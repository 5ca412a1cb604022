/-
  Plain arithmetic, without the model: inverses by a prime, Wilson's theorem, and primes between a number and its double up to 2^19.
-/
import Derived.Test.YtjpmkcijkcnfiaaNum
namespace Go.Proofs.Ytjpmkcijkcnfiaa.Num2
set_option linter.unusedVariables false
open Go.Proofs.Ytjpmkcijkcnfiaa.Num

theorem bez (a b : Nat) : ∃ u v : Int, u * (a : Int) + v * (b : Int) = (Nat.gcd a b : Int) := by
  induction a, b using Nat.gcd.induction with
  | H0 n => exact ⟨0, 1, by simp⟩
  | H1 m n hm ih =>
    obtain ⟨u, v, h⟩ := ih
    rw [Nat.gcd_rec]
    refine ⟨v - u * ((n / m : Nat) : Int), u, ?_⟩
    have hd : (n : Int) = (m : Int) * ((n / m : Nat) : Int) + ((n % m : Nat) : Int) := by
      have := Nat.div_add_mod n m
      exact_mod_cast this.symm
    have e1 : (v - u * ((n / m : Nat) : Int)) * (m : Int) = v * (m : Int) - u * ((m : Int) * ((n / m : Nat) : Int)) := by
      rw [Int.sub_mul, Int.mul_assoc, Int.mul_comm ((n / m : Nat) : Int) (m : Int)]
    have e2 : u * (n : Int) = u * ((m : Int) * ((n / m : Nat) : Int)) + u * ((n % m : Nat) : Int) := by
      rw [← Int.mul_add, ← hd]
    rw [e1, e2]
    omega

/-- Whatever a prime does not divide has an inverse. -/
theorem inv_ex {p x : Nat} (hp : Pr p) (hx : ¬ p ∣ x) : ∃ y, y < p ∧ x * y % p = 1 := by
  have hg : Nat.gcd x p = 1 := by
    rcases hp.2 (Nat.gcd x p) (Nat.gcd_dvd_right x p) with e | e
    · exact e
    · exact absurd (e ▸ Nat.gcd_dvd_left x p) hx
  obtain ⟨u, v, h⟩ := bez x p
  rw [hg] at h
  have hp0 : (p : Int) ≠ 0 := by have := hp.1; omega
  have h0 := Int.emod_nonneg u hp0
  have h1 := Int.emod_lt_of_pos u (show 0 < (p : Int) by have := hp.1; omega)
  refine ⟨(u % (p : Int)).toNat, by omega, ?_⟩
  have hc : ((x * (u % (p : Int)).toNat % p : Nat) : Int) = 1 := by
    rw [Int.natCast_emod, Int.natCast_mul, Int.toNat_of_nonneg h0, Int.mul_emod, Int.emod_emod_of_dvd _ (Int.dvd_refl _), ← Int.mul_emod]
    have e : (x : Int) * u = 1 + (p : Int) * (-v) := by
      have e1 : (x : Int) * u = u * (x : Int) := Int.mul_comm _ _
      have e2 : (p : Int) * (-v) = - (v * (p : Int)) := by rw [Int.mul_neg, Int.mul_comm]
      rw [e1, e2]; omega
    rw [e, Int.add_mul_emod_self_left]
    exact Int.emod_eq_of_lt (by omega) (by have := hp.1; omega)
  exact_mod_cast hc

theorem inv_uniq {p a b c : Nat} (ha : a < p) (hb : b < p) (h1 : a * c % p = 1) (h2 : b * c % p = 1) : a = b := by
  have e1 : a * (b * c) % p = a := by
    rw [Nat.mul_mod, h2, Nat.mul_one, Nat.mod_mod, Nat.mod_eq_of_lt ha]
  have e2 : b * (a * c) % p = b := by
    rw [Nat.mul_mod, h1, Nat.mul_one, Nat.mod_mod, Nat.mod_eq_of_lt hb]
  have e3 : a * (b * c) = b * (a * c) := Nat.mul_left_comm _ _ _
  rw [e3, e2] at e1
  exact e1.symm

theorem no_self {p x : Nat} (hp : Pr p) (h2 : 2 ≤ x) (h3 : x + 2 ≤ p) : ¬ x * x % p = 1 := by
  intro h
  have hd : p ∣ (x - 1) * (x + 1) := by
    have e : x * x = p * (x * x / p) + 1 := by have := Nat.div_add_mod (x * x) p; omega
    have e2 : (x - 1) * (x + 1) = p * (x * x / p) := by
      obtain ⟨y, rfl⟩ : ∃ y, x = y + 1 := ⟨x - 1, by omega⟩
      have e3 : (y + 1) * (y + 1) = y * (y + 1 + 1) + 1 := by
        simp only [Nat.mul_add, Nat.add_mul]; omega
      have e4 : y + 1 - 1 = y := by omega
      rw [e4]; omega
    rw [e2]; exact Nat.dvd_mul_right _ _
  rcases hp.dvd_mul hd with h | h
  · have := Nat.le_of_dvd (by omega) h; omega
  · have := Nat.le_of_dvd (by omega) h; omega

def prod (l : List Nat) : Nat := l.foldr (· * ·) 1

theorem prod_erase {l : List Nat} {y : Nat} (h : y ∈ l) : prod l = y * prod (l.erase y) := by
  induction l with
  | nil => simp at h
  | cons x xs ih =>
    by_cases e : x = y
    · subst e; simp [prod]
    · have hm : y ∈ xs := by
        rcases List.mem_cons.1 h with h | h
        · exact absurd h.symm e
        · exact h
      rw [List.erase_cons_tail (by simpa using e)]
      show x * prod xs = y * (x * prod (xs.erase y))
      rw [ih hm, Nat.mul_left_comm]

theorem pairs {p : Nat} (hp : Pr p) : ∀ (k : Nat) (l : List Nat), l.length ≤ k → l.Nodup → (∀ x ∈ l, 2 ≤ x ∧ x + 2 ≤ p) → (∀ x ∈ l, ∃ y ∈ l, x * y % p = 1) → prod l % p = 1 := by
  intro k
  induction k with
  | zero =>
    intro l hl _ _ _
    have : l = [] := List.length_eq_zero_iff.1 (by omega)
    subst this
    have := hp.1
    exact Nat.mod_eq_of_lt (show 1 < p by omega)
  | succ k ih =>
    intro l hl hnd hb hc
    cases l with
    | nil => exact Nat.mod_eq_of_lt (show 1 < p by have := hp.1; omega)
    | cons x l' =>
      obtain ⟨hx, hnd'⟩ := List.nodup_cons.1 hnd
      obtain ⟨y, hy, hxy⟩ := hc x (by simp)
      have hbx := hb x (by simp)
      have hby := hb y hy
      have hne : y ≠ x := by intro e; subst e; exact no_self hp hbx.1 hbx.2 hxy
      have hy' : y ∈ l' := by
        rcases List.mem_cons.1 hy with h | h
        · exact absurd h hne
        · exact h
      have hrec : prod (l'.erase y) % p = 1 := by
        refine ih (l'.erase y) ?_ (hnd'.erase y) (fun z hz => hb z (List.mem_cons_of_mem _ (List.mem_of_mem_erase hz))) ?_
        · rw [List.length_erase_of_mem hy']; simp at hl; omega
        · intro z hz
          have hz' := List.mem_of_mem_erase hz
          have hzy : z ≠ y := by
            intro e; subst e
            exact (List.Nodup.not_mem_erase hnd') hz
          have hzx : z ≠ x := by intro e; subst e; exact hx hz'
          obtain ⟨u, hu, hzu⟩ := hc z (List.mem_cons_of_mem _ hz')
          have hbz := hb z (List.mem_cons_of_mem _ hz')
          have hux : u ≠ x := by
            intro e; subst e
            exact hzy (inv_uniq (p := p) (c := u) (by omega) (by omega) hzu (by rw [Nat.mul_comm]; exact hxy))
          have huy : u ≠ y := by
            intro e; subst e
            exact hzx (inv_uniq (p := p) (c := u) (by omega) (by omega) hzu hxy)
          have hul : u ∈ l' := by
            rcases List.mem_cons.1 hu with h | h
            · exact absurd h hux
            · exact h
          exact ⟨u, (List.mem_erase_of_ne huy).2 hul, hzu⟩
      show x * prod l' % p = 1
      rw [prod_erase hy', ← Nat.mul_assoc, Nat.mul_mod, hxy, hrec]
      have := hp.1
      exact Nat.mod_eq_of_lt (by omega)

/-- The product of all from 1 on. -/
def fact : Nat → Nat
  | 0 => 1
  | n + 1 => (n + 1) * fact n

theorem prod_snoc (l : List Nat) (x : Nat) : prod (l ++ [x]) = prod l * x := by
  induction l with
  | nil => simp [prod]
  | cons y ys ih =>
    show y * prod (ys ++ [x]) = y * prod ys * x
    rw [ih, Nat.mul_assoc]

theorem prod_range (k : Nat) : prod ((List.range k).map (· + 2)) = fact (k + 1) := by
  induction k with
  | zero => rfl
  | succ k ih =>
    rw [List.range_succ, List.map_append, List.map_cons, List.map_nil, prod_snoc, ih]
    show fact (k + 1) * (k + 2) = (k + 1 + 1) * fact (k + 1)
    rw [Nat.mul_comm]

theorem wilson_prime {p : Nat} (hp : Pr p) : fact (p - 1) % p = p - 1 := by
  have h2 := hp.1
  by_cases e2 : p = 2
  · subst e2; rfl
  · have hmid : fact (p - 2) % p = 1 := by
      have hpr := prod_range (p - 3)
      rw [show p - 3 + 1 = p - 2 by omega] at hpr
      rw [← hpr]
      refine pairs hp _ _ (Nat.le_refl _) ?_ ?_ ?_
      · have hnd : ∀ k, ((List.range k).map (· + 2)).Nodup := by
          intro k
          refine List.Pairwise.map _ ?_ (List.nodup_range (n := k))
          intro a b h e
          exact h (by omega)
        exact hnd _
      · intro x hx
        obtain ⟨d, hd, rfl⟩ := List.mem_map.1 hx
        have := List.mem_range.1 hd
        omega
      · intro x hx
        obtain ⟨d, hd, rfl⟩ := List.mem_map.1 hx
        have hd' := List.mem_range.1 hd
        have hnd : ¬ p ∣ d + 2 := by
          intro h
          have := Nat.le_of_dvd (by omega) h
          omega
        obtain ⟨y, hy, hxy⟩ := inv_ex hp hnd
        have hy0 : y ≠ 0 := by intro e; subst e; simp at hxy
        have hy1 : y ≠ 1 := by
          intro e; subst e
          rw [Nat.mul_one, Nat.mod_eq_of_lt (by omega)] at hxy
          omega
        have hym : y ≠ p - 1 := by
          intro e
          have e1 : (d + 2) * y + (d + 2) = (d + 2) * p := by
            rw [e, ← Nat.mul_succ]; congr 1; omega
          have e3 : ((d + 2) * y + (d + 2)) % p = 0 := by rw [e1]; exact Nat.mul_mod_left _ _
          rw [Nat.add_mod, hxy, Nat.mod_eq_of_lt (show d + 2 < p by omega), Nat.mod_eq_of_lt (show 1 + (d + 2) < p by omega)] at e3
          omega
        refine ⟨y, List.mem_map.2 ⟨y - 2, List.mem_range.2 (by omega), by omega⟩, hxy⟩
    have e : fact (p - 1) = (p - 1) * fact (p - 2) := by
      obtain ⟨q, rfl⟩ : ∃ q, p = q + 2 := ⟨p - 2, by omega⟩
      rfl
    rw [e, Nat.mul_mod, hmid, Nat.mul_one, Nat.mod_mod, Nat.mod_eq_of_lt (by omega)]

theorem dvd_fact {a : Nat} (h1 : 1 ≤ a) : ∀ {k : Nat}, a ≤ k → a ∣ fact k
  | 0, h => by omega
  | k + 1, h => by
    by_cases e : a = k + 1
    · subst e; exact Nat.dvd_mul_right _ _
    · exact Nat.dvd_trans (dvd_fact h1 (by omega)) (Nat.dvd_mul_left _ _)

theorem wilson_other {n : Nat} (h2 : 2 ≤ n) (h : fact (n - 1) % n = n - 1) : Pr n := by
  refine ⟨h2, fun d hd => ?_⟩
  have hle := Nat.le_of_dvd (by omega) hd
  have hd0 : d ≠ 0 := by intro e; subst e; simp at hd; omega
  by_cases hn : d = n
  · exact .inr hn
  · left
    have hf : d ∣ fact (n - 1) := dvd_fact (by omega) (by omega)
    have e := Nat.div_add_mod (fact (n - 1)) n
    rw [h] at e
    have h1 : d ∣ n - 1 := by
      have h3 : d ∣ n * (fact (n - 1) / n) := Nat.dvd_trans hd (Nat.dvd_mul_right _ _)
      exact (Nat.dvd_add_right h3).1 (by rw [e]; exact hf)
    have h4 : d ∣ 1 := by
      have h5 : d ∣ (n - 1) + 1 := by rw [show n - 1 + 1 = n by omega]; exact hd
      exact (Nat.dvd_add_right h1).1 h5
    exact Nat.dvd_one.1 h4

/-- Wilson. -/
theorem wilson {n : Nat} (h2 : 2 ≤ n) : fact (n - 1) % n = n - 1 ↔ Pr n := ⟨wilson_other h2, wilson_prime⟩

theorem pr_check {m b : Nat} (h2 : 2 ≤ m) (hb : m < b * b) (h : (List.range b).all (fun d => decide (d < 2) || !(m % d == 0)) = true) : Pr m := by
  refine pr_of_small h2 (fun d hd hdd hdv => ?_)
  have hlt : d < b := by
    by_cases h : d < b
    · exact h
    · have : b * b ≤ d * d := Nat.mul_le_mul (by omega) (by omega)
      omega
  have := List.all_eq_true.1 h d (List.mem_range.2 hlt)
  simp at this
  rcases this with h | h
  · omega
  · exact h (Nat.mod_eq_zero_of_dvd hdv)

/-- Chebyshev, up to 2^19: by a chain of primes each of which is below twice the one ahead of it. -/
theorem bertrand {n : Nat} (h1 : 1 ≤ n) (h2 : n ≤ 524288) : ∃ p, Pr p ∧ n < p ∧ p ≤ 2 * n := by
  have go : ∀ p, n < p → p ≤ 2 * n → Pr p → ∃ p, Pr p ∧ n < p ∧ p ≤ 2 * n := fun p a b c => ⟨p, c, a, b⟩
  by_cases c1 : n < 2
  · exact go 2 (by omega) (by omega) (pr_check (b := 2) (by decide) (by decide) (by decide +kernel))
  by_cases c2 : n < 3
  · exact go 3 (by omega) (by omega) (pr_check (b := 2) (by decide) (by decide) (by decide +kernel))
  by_cases c3 : n < 5
  · exact go 5 (by omega) (by omega) (pr_check (b := 3) (by decide) (by decide) (by decide +kernel))
  by_cases c4 : n < 7
  · exact go 7 (by omega) (by omega) (pr_check (b := 3) (by decide) (by decide) (by decide +kernel))
  by_cases c5 : n < 13
  · exact go 13 (by omega) (by omega) (pr_check (b := 4) (by decide) (by decide) (by decide +kernel))
  by_cases c6 : n < 23
  · exact go 23 (by omega) (by omega) (pr_check (b := 5) (by decide) (by decide) (by decide +kernel))
  by_cases c7 : n < 43
  · exact go 43 (by omega) (by omega) (pr_check (b := 7) (by decide) (by decide) (by decide +kernel))
  by_cases c8 : n < 83
  · exact go 83 (by omega) (by omega) (pr_check (b := 10) (by decide) (by decide) (by decide +kernel))
  by_cases c9 : n < 163
  · exact go 163 (by omega) (by omega) (pr_check (b := 13) (by decide) (by decide) (by decide +kernel))
  by_cases c10 : n < 317
  · exact go 317 (by omega) (by omega) (pr_check (b := 18) (by decide) (by decide) (by decide +kernel))
  by_cases c11 : n < 631
  · exact go 631 (by omega) (by omega) (pr_check (b := 26) (by decide) (by decide) (by decide +kernel))
  by_cases c12 : n < 1259
  · exact go 1259 (by omega) (by omega) (pr_check (b := 36) (by decide) (by decide) (by decide +kernel))
  by_cases c13 : n < 2503
  · exact go 2503 (by omega) (by omega) (pr_check (b := 51) (by decide) (by decide) (by decide +kernel))
  by_cases c14 : n < 5003
  · exact go 5003 (by omega) (by omega) (pr_check (b := 71) (by decide) (by decide) (by decide +kernel))
  by_cases c15 : n < 9973
  · exact go 9973 (by omega) (by omega) (pr_check (b := 100) (by decide) (by decide) (by decide +kernel))
  by_cases c16 : n < 19937
  · exact go 19937 (by omega) (by omega) (pr_check (b := 142) (by decide) (by decide) (by decide +kernel))
  by_cases c17 : n < 39869
  · exact go 39869 (by omega) (by omega) (pr_check (b := 200) (by decide) (by decide) (by decide +kernel))
  by_cases c18 : n < 79699
  · exact go 79699 (by omega) (by omega) (pr_check (b := 283) (by decide) (by decide) (by decide +kernel))
  by_cases c19 : n < 159389
  · exact go 159389 (by omega) (by omega) (pr_check (b := 400) (by decide) (by decide) (by decide +kernel))
  by_cases c20 : n < 318751
  · exact go 318751 (by omega) (by omega) (pr_check (b := 565) (by decide) (by decide) (by decide +kernel))
  · exact go 637499 (by omega) (by omega) (pr_check (b := 799) (by decide) (by decide) (by decide +kernel))

/-- A prime that divides a product of rests divides one of the numbers. -/
theorem euclid_rest {p : Nat} (hp : Pr p) (a b : Int) (h : Int.tmod (Int.tmod a p * Int.tmod b p) p = 0) : Int.tmod a p = 0 ∨ Int.tmod b p = 0 := by
  have hd : (p : Int) ∣ Int.tmod a p * Int.tmod b p := Int.dvd_of_tmod_eq_zero h
  have hd2 : p ∣ (Int.tmod a p).natAbs * (Int.tmod b p).natAbs := by
    rw [← Int.natAbs_mul]
    have := Int.natAbs_dvd_natAbs.2 hd
    simpa using this
  have key : ∀ c : Int, p ∣ (Int.tmod c p).natAbs → Int.tmod c p = 0 := by
    intro c hc
    have h1 : (p : Int) ∣ Int.tmod c p := Int.natAbs_dvd_natAbs.1 (by simpa using hc)
    have h2 : (p : Int) ∣ c := by
      have e := Int.mul_tdiv_add_tmod c p
      rw [← e]
      exact Int.dvd_add (Int.dvd_mul_right _ _) h1
    exact Int.tmod_eq_zero_of_dvd h2
  rcases hp.dvd_mul hd2 with h | h
  · exact .inl (key a h)
  · exact .inr (key b h)

end Go.Proofs.Ytjpmkcijkcnfiaa.Num2
