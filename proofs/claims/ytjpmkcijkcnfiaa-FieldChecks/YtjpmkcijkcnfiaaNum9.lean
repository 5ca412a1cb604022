/-
  Plain arithmetic, without the model: what has a root by a prime: Euler's criterion, Gauss's lemma, and reciprocity for two odd primes.
-/
import Derived.Test.YtjpmkcijkcnfiaaNum7
import Derived.Test.YtjpmkcijkcnfiaaNum2
namespace Go.Proofs.Ytjpmkcijkcnfiaa.Num9
set_option linter.unusedVariables false
open Go.Proofs.Ytjpmkcijkcnfiaa.Num Go.Proofs.Ytjpmkcijkcnfiaa.Num3 Go.Proofs.Ytjpmkcijkcnfiaa.Num6 Go.Proofs.Ytjpmkcijkcnfiaa.Num7

/-- Does some square leave what a does? -/
def sq (a p : Nat) : Bool := (List.range p).any (fun x => x * x % p == a % p)

theorem sq_iff {a p : Nat} (hp : 1 ≤ p) : sq a p = true ↔ ∃ x, x * x % p = a % p := by
  unfold sq
  rw [List.any_eq_true]
  constructor
  · rintro ⟨x, _, h⟩; exact ⟨x, by simpa using h⟩
  · rintro ⟨x, h⟩
    refine ⟨x % p, List.mem_range.2 (Nat.mod_lt _ (by omega)), ?_⟩
    rw [← Nat.mul_mod]; simpa using h

/-- What Legendre has of it. -/
def leg (a p : Nat) : Int := if a % p = 0 then 0 else if sq a p then 1 else -1

theorem leg_mod {a b p : Nat} (h : a % p = b % p) : leg a p = leg b p := by
  unfold leg sq; rw [h]

theorem leg_zero {a p : Nat} : leg a p = 0 ↔ a % p = 0 := by
  unfold leg
  split
  · rename_i h; simp [h]
  · rename_i h
    split <;> simp [h]

theorem leg_three (a p : Nat) : leg a p = 0 ∨ leg a p = 1 ∨ leg a p = -1 := by
  unfold leg
  split
  · simp
  · split <;> simp

theorem one_mod {p : Nat} (hp : Pr p) : 1 % p = 1 := Nat.mod_eq_of_lt (by have := hp.1; omega)

theorem fermat' {p a : Nat} (hp : Pr p) (ha : ¬ a % p = 0) : a ^ (p - 1) % p = 1 := by
  have hg := (gcd_prime (x := a) hp).2 (fun h => ha (Nat.mod_eq_zero_of_dvd h))
  have he := euler (m := p) (by have := hp.1; omega) hg
  have htot : tot p = p - 1 := by
    have := tot_out (m := 1) hp (fun h => by have := Nat.le_of_dvd (by omega) h; have := hp.1; omega)
    rw [Nat.mul_one, tot_one, Nat.mul_one] at this
    exact this
  rw [htot, one_mod hp] at he
  exact he

theorem odd_half {p : Nat} (hp : Pr p) (ho : p ≠ 2) : ∃ h, p = 2 * h + 1 ∧ 1 ≤ h := by
  have h2 := hp.1
  rcases Nat.mod_two_eq_zero_or_one p with h | h
  · exfalso
    rcases hp.2 2 (Nat.dvd_of_mod_eq_zero h) with e | e <;> omega
  · exact ⟨p / 2, by omega, by omega⟩

theorem sq_one {p x : Nat} (hp : Pr p) (h : x * x % p = 1) : x % p = 1 ∨ x % p = p - 1 := by
  have h2 := hp.1
  have hx : (x % p) * (x % p) % p = 1 := by rw [← Nat.mul_mod]; exact h
  obtain ⟨y, hy⟩ : ∃ y, x % p = y := ⟨_, rfl⟩
  rw [hy] at hx ⊢
  have hlt : y < p := by rw [← hy]; exact Nat.mod_lt _ (by omega)
  by_cases hb : 2 ≤ y ∧ y + 2 ≤ p
  · exact absurd hx (Num2.no_self hp hb.1 hb.2)
  · rcases Nat.eq_zero_or_pos y with e | e
    · subst e; simp at hx
    · omega

/-- Euler's criterion. -/
theorem euler_yes {p h a : Nat} (hp : Pr p) (hh : p = 2 * h + 1) (ha : ¬ a % p = 0) (hs : sq a p = true) : a ^ h % p = 1 := by
  obtain ⟨x, hx⟩ := (sq_iff (by have := hp.1; omega)).1 hs
  have hx0 : ¬ x % p = 0 := fun e => ha (by rw [← hx, Nat.mul_mod, e]; simp)
  have h1 := fermat' hp hx0
  rw [show p - 1 = 2 * h by omega, Nat.pow_mul, Nat.pow_succ, Nat.pow_one, Nat.pow_mod, hx, ← Nat.pow_mod] at h1
  exact h1

theorem euler_no {p h a : Nat} (hp : Pr p) (hh : p = 2 * h + 1) (h1 : 1 ≤ h) (ha : ¬ a % p = 0) (hs : sq a p = false) : a ^ h % p = p - 1 := by
  have h2 := hp.1
  have hsq : a ^ h * a ^ h % p = 1 := by
    rw [← Nat.pow_add, show h + h = p - 1 by omega]; exact fermat' hp ha
  rcases sq_one hp hsq with e | e
  · exfalso
    -- the squares of 1 to h, and a: one root too many
    have hnd : ((List.range h).map (fun i => (i + 1) * (i + 1) % p)).Nodup := by
      refine List.pairwise_map.2 ((List.nodup_range (n := h)).imp_of_mem (fun {i j} hi hj hne e => hne ?_))
      have hi' := List.mem_range.1 hi
      have hj' := List.mem_range.1 hj
      have key : ∀ i j, i < h → j < h → i < j → (i + 1) * (i + 1) % p = (j + 1) * (j + 1) % p → False := by
        intro i j hi hj hij e
        have h3 : p ∣ (j + 1) * (j + 1) - (i + 1) * (i + 1) := Nat.dvd_of_mod_eq_zero (Nat.sub_mod_eq_zero_of_mod_eq e.symm)
        have h4 : (j + 1) * (j + 1) - (i + 1) * (i + 1) = (j - i) * (j + i + 2) := by
          obtain ⟨d, rfl⟩ : ∃ d, j = i + d := ⟨j - i, by omega⟩
          have e5 : i + d - i = d := by omega
          rw [e5]
          have e6 : (i + d + 1) * (i + d + 1) = (i + 1) * (i + 1) + d * (i + d + i + 2) := by
            simp only [Nat.mul_add, Nat.add_mul, Nat.mul_one, Nat.one_mul]
            have : i * d = d * i := Nat.mul_comm _ _
            omega
          omega
        rw [h4] at h3
        rcases hp.dvd_mul h3 with h | h
        · have := Nat.le_of_dvd (by omega) h; omega
        · have := Nat.le_of_dvd (by omega) h; omega
      rcases Nat.lt_trichotomy i j with hlt | heq | hgt
      · exact (key i j hi' hj' hlt e).elim
      · exact heq
      · exact (key j i hj' hi' hgt e.symm).elim
    have hnot : a % p ∉ (List.range h).map (fun i => (i + 1) * (i + 1) % p) := fun hm => by
      obtain ⟨i, _, hi⟩ := List.mem_map.1 hm
      have : sq a p = true := (sq_iff (by omega)).2 ⟨i + 1, hi⟩
      rw [hs] at this; cases this
    have hb := root_bound (n := h) hp h1 (a % p :: (List.range h).map (fun i => (i + 1) * (i + 1) % p)) (List.nodup_cons.2 ⟨hnot, hnd⟩) (fun x hx => by
      rcases List.mem_cons.1 hx with e | hx
      · subst e; exact Nat.mod_lt _ (by omega)
      · obtain ⟨i, _, rfl⟩ := List.mem_map.1 hx; exact Nat.mod_lt _ (by omega)) (fun x hx => by
      rcases List.mem_cons.1 hx with e' | hx
      · subst e'; rw [← Nat.pow_mod]; exact e
      · obtain ⟨i, hi, rfl⟩ := List.mem_map.1 hx
        have hi' := List.mem_range.1 hi
        rw [← Nat.pow_mod]
        refine euler_yes hp hh ?_ ((sq_iff (by omega)).2 ⟨i + 1, rfl⟩)
        intro e3
        rcases hp.dvd_mul (Nat.dvd_of_mod_eq_zero e3) with h | h
        · have := Nat.le_of_dvd (by omega) h; omega
        · have := Nat.le_of_dvd (by omega) h; omega)
    simp at hb
    omega
  · exact e

/-- As one sentence. -/
theorem euler_crit {p h : Nat} (hp : Pr p) (hh : p = 2 * h + 1) (h1 : 1 ≤ h) (a : Nat) : (p : Int) ∣ (a : Int) ^ h - leg a p := by
  have hdm : ((a ^ h : Nat) : Int) = (p : Int) * ((a ^ h / p : Nat) : Int) + ((a ^ h % p : Nat) : Int) := by
    rw [← Int.natCast_mul, ← Int.natCast_add, Nat.div_add_mod]
  rw [← natpow_cast, hdm]
  by_cases ha : a % p = 0
  · have e : a ^ h % p = 0 := by rw [Nat.pow_mod, ha, Nat.zero_pow (by omega), Nat.zero_mod]
    rw [leg_zero.2 ha, e]
    exact ⟨((a ^ h / p : Nat) : Int), by simp⟩
  · cases hs : sq a p with
    | true =>
      have e := euler_yes hp hh ha hs
      have hl : leg a p = 1 := by unfold leg; rw [if_neg ha, if_pos hs]
      rw [hl, e]
      exact ⟨((a ^ h / p : Nat) : Int), by simp⟩
    | false =>
      have e := euler_no hp hh h1 ha hs
      have hl : leg a p = -1 := by unfold leg; rw [if_neg ha, hs]; rfl
      rw [hl, e]
      refine ⟨((a ^ h / p : Nat) : Int) + 1, ?_⟩
      rw [Int.mul_add]
      omega

theorem small_eq {p : Nat} {x y : Int} (hp : 3 ≤ p) (h : (p : Int) ∣ x - y) (hx : -1 ≤ x ∧ x ≤ 1) (hy : -1 ≤ y ∧ y ≤ 1) : x = y := by
  obtain ⟨q, hq⟩ := h
  have hq1 : q < 1 := by
    rcases Int.lt_or_le q 1 with h | h
    · exact h
    · have : (p : Int) * 1 ≤ p * q := Int.mul_le_mul_of_nonneg_left h (by omega)
      omega
  have hq2 : -1 < q := by
    rcases Int.lt_or_le (-1) q with h | h
    · exact h
    · have : (p : Int) * q ≤ p * (-1) := Int.mul_le_mul_of_nonneg_left h (by omega)
      omega
  have : q = 0 := by omega
  subst this
  simp at hq; omega

theorem leg_bd (a p : Nat) : -1 ≤ leg a p ∧ leg a p ≤ 1 := by
  rcases leg_three a p with h | h | h <;> rw [h] <;> omega

theorem leg_mul {p : Nat} (hp : Pr p) (ho : p ≠ 2) (a b : Nat) : leg (a * b) p = leg a p * leg b p := by
  obtain ⟨h, hh, h1⟩ := odd_half hp ho
  have e1 := euler_crit hp hh h1 (a * b)
  have e2 := euler_crit hp hh h1 a
  have e3 := euler_crit hp hh h1 b
  have hd : (p : Int) ∣ leg (a * b) p - leg a p * leg b p := by
    obtain ⟨x, hx⟩ := e1
    obtain ⟨y, hy⟩ := e2
    obtain ⟨z, hz⟩ := e3
    have f1 : ((a * b : Nat) : Int) ^ h = (a : Int) ^ h * (b : Int) ^ h := by rw [Int.natCast_mul, Int.mul_pow]
    have g1 : (a : Int) ^ h = leg a p + p * y := by omega
    have g2 : (b : Int) ^ h = leg b p + p * z := by omega
    refine ⟨leg a p * z + y * (leg b p + p * z) - x, ?_⟩
    rw [f1, g1, g2] at hx
    have f2 : (leg a p + p * y) * (leg b p + p * z) = leg a p * leg b p + leg a p * (p * z) + p * y * (leg b p + p * z) := by
      rw [Int.add_mul, Int.mul_add]
    rw [f2] at hx
    rw [Int.mul_sub, Int.mul_add, Int.mul_left_comm (p : Int) (leg a p) z, ← Int.mul_assoc (p : Int) y]
    omega
  refine small_eq (by omega) hd (leg_bd _ _) ?_
  rcases leg_three a p with h | h | h <;> rcases leg_three b p with k | k | k <;> rw [h, k] <;> omega

theorem leg_minus {p : Nat} (hp : Pr p) (ho : p ≠ 2) : leg (p - 1) p = if p % 4 = 1 then 1 else -1 := by
  obtain ⟨h, hh, h1⟩ := odd_half hp ho
  have e := euler_crit hp hh h1 (p - 1)
  have hp1 : ((p - 1 : Nat) : Int) = (p : Int) - 1 := by have := hp.1; omega
  have key : ∀ k : Nat, (p : Int) ∣ ((p : Int) - 1) ^ k - (if k % 2 = 0 then 1 else -1) := by
    intro k
    induction k with
    | zero => simp
    | succ k ih =>
      obtain ⟨q, hq⟩ := ih
      have g : ((p : Int) - 1) ^ k = (if k % 2 = 0 then 1 else -1) + p * q := by omega
      rw [Int.pow_succ, g]
      by_cases hk : k % 2 = 0
      · rw [if_pos hk, if_neg (by omega)]
        refine ⟨1 + q * ((p : Int) - 1), ?_⟩
        rw [Int.add_mul, Int.mul_add, Int.one_mul, Int.mul_assoc]; omega
      · rw [if_neg hk, if_pos (by omega)]
        refine ⟨-1 + q * ((p : Int) - 1), ?_⟩
        rw [Int.add_mul, Int.mul_add, Int.mul_assoc]; omega
  rw [hp1] at e
  have hd := Int.dvd_sub (key h) e
  have e2 : ((p : Int) - 1) ^ h - (if h % 2 = 0 then 1 else -1) - (((p : Int) - 1) ^ h - leg (p - 1) p) = leg (p - 1) p - (if h % 2 = 0 then 1 else -1) := by omega
  rw [e2] at hd
  have e3 := small_eq (by omega) hd (leg_bd _ _) (by split <;> omega)
  rw [e3]
  by_cases hk : h % 2 = 0
  · rw [if_pos hk, if_pos (by omega)]
  · rw [if_neg hk, if_neg (by omega)]

/-- Products and sums of 1 to k. -/
def P (f : Nat → Int) : Nat → Int
  | 0 => 1
  | k + 1 => P f k * f (k + 1)

def Sm (f : Nat → Nat) : Nat → Nat
  | 0 => 0
  | k + 1 => Sm f k + f (k + 1)

theorem P_mul (f g : Nat → Int) : ∀ k, P (fun j => f j * g j) k = P f k * P g k
  | 0 => rfl
  | k + 1 => by
    show P (fun j => f j * g j) k * (f (k + 1) * g (k + 1)) = P f k * f (k + 1) * (P g k * g (k + 1))
    rw [P_mul f g k, Int.mul_assoc, Int.mul_assoc, Int.mul_left_comm (P g k)]

theorem P_const (a : Int) : ∀ k, P (fun _ => a) k = a ^ k
  | 0 => by simp [P]
  | k + 1 => by show P (fun _ => a) k * a = _; rw [P_const a k, Int.pow_succ]

theorem P_cong {p : Int} {f g : Nat → Int} : ∀ {k : Nat}, (∀ j, 1 ≤ j → j ≤ k → p ∣ f j - g j) → p ∣ P f k - P g k
  | 0, _ => by simp [P]
  | k + 1, h => by
    have ih := P_cong (k := k) (fun j h1 h2 => h j h1 (by omega))
    have h1 := h (k + 1) (by omega) (Nat.le_refl _)
    obtain ⟨x, hx⟩ := ih
    obtain ⟨y, hy⟩ := h1
    have g1 : P f k = P g k + p * x := by omega
    have g2 : f (k + 1) = g (k + 1) + p * y := by omega
    refine ⟨P g k * y + x * (g (k + 1) + p * y), ?_⟩
    show P f k * f (k + 1) - P g k * g (k + 1) = _
    rw [g1, g2]
    have f1 : (P g k + p * x) * (g (k + 1) + p * y) = P g k * g (k + 1) + P g k * (p * y) + p * x * (g (k + 1) + p * y) := by rw [Int.add_mul, Int.mul_add]
    have f2 : P g k * (p * y) = p * (P g k * y) := Int.mul_left_comm _ _ _
    have f3 : p * x * (g (k + 1) + p * y) = p * (x * (g (k + 1) + p * y)) := Int.mul_assoc _ _ _
    have f4 : p * (P g k * y + x * (g (k + 1) + p * y)) = p * (P g k * y) + p * (x * (g (k + 1) + p * y)) := Int.mul_add _ _ _
    rw [f1, f2, f3, f4]; omega

theorem P_ndvd {p : Nat} (hp : Pr p) {f : Nat → Int} : ∀ {k : Nat}, (∀ j, 1 ≤ j → j ≤ k → ¬ (p : Int) ∣ f j) → ¬ (p : Int) ∣ P f k
  | 0, _ => fun h => by
    have := Int.le_of_dvd (by simp [P]) h
    have := hp.1
    simp [P] at *
    omega
  | k + 1, h => fun hd => by
    rcases int_dvd_mul hp hd with h1 | h1
    · exact P_ndvd hp (k := k) (fun j a b => h j a (by omega)) h1
    · exact h (k + 1) (by omega) (Nat.le_refl _) h1

def ks (k : Nat) : List Nat := (List.range k).map (· + 1)

theorem mem_ks {k x : Nat} : x ∈ ks k ↔ 1 ≤ x ∧ x ≤ k := by
  unfold ks
  rw [List.mem_map]
  constructor
  · rintro ⟨y, hy, rfl⟩; have := List.mem_range.1 hy; omega
  · rintro ⟨h1, h2⟩; exact ⟨x - 1, List.mem_range.2 (by omega), by omega⟩

theorem ks_nodup (k : Nat) : (ks k).Nodup := by
  refine List.pairwise_map.2 ((List.nodup_range (n := k)).imp (fun {a b} h e => h ?_))
  omega

theorem ks_succ (k : Nat) : ks (k + 1) = ks k ++ [k + 1] := by simp [ks, List.range_succ]

def pl (l : List Int) : Int := l.foldr (· * ·) 1
def sl (l : List Nat) : Nat := l.foldr (· + ·) 0

theorem pl_append (l m : List Int) : pl (l ++ m) = pl l * pl m := by
  induction l with
  | nil => simp [pl]
  | cons x xs ih =>
    show x * pl (xs ++ m) = x * pl xs * pl m
    rw [ih, Int.mul_assoc]

theorem sl_append (l m : List Nat) : sl (l ++ m) = sl l + sl m := by
  induction l with
  | nil => simp [sl]
  | cons x xs ih =>
    show x + sl (xs ++ m) = x + sl xs + sl m
    rw [ih, Nat.add_assoc]

theorem pl_perm {l m : List Int} (h : l.Perm m) : pl l = pl m := by
  induction h with
  | nil => rfl
  | cons x _ ih => show x * pl _ = x * pl _; rw [ih]
  | swap x y l => show y * (x * pl l) = x * (y * pl l); rw [Int.mul_left_comm]
  | trans _ _ h1 h2 => rw [h1, h2]

theorem sl_perm {l m : List Nat} (h : l.Perm m) : sl l = sl m := by
  induction h with
  | nil => rfl
  | cons x _ ih => show x + sl _ = x + sl _; rw [ih]
  | swap x y l => show y + (x + sl l) = x + (y + sl l); omega
  | trans _ _ h1 h2 => rw [h1, h2]

theorem P_list (f : Nat → Int) : ∀ k, P f k = pl ((ks k).map f)
  | 0 => rfl
  | k + 1 => by
    rw [ks_succ, List.map_append, pl_append, ← P_list f k]
    show P f k * f (k + 1) = P f k * (f (k + 1) * 1)
    rw [Int.mul_one]

theorem Sm_list (f : Nat → Nat) : ∀ k, Sm f k = sl ((ks k).map f)
  | 0 => rfl
  | k + 1 => by
    rw [ks_succ, List.map_append, sl_append, ← Sm_list f k]
    rfl

/-- What is left, or what it lacks. -/
def sj (a p j : Nat) : Nat := if a * j % p ≤ p / 2 then a * j % p else p - a * j % p

theorem sj_perm {p h a : Nat} (hp : Pr p) (hh : p = 2 * h + 1) (ha : ¬ a % p = 0) : ((ks h).map (sj a p)).Perm (ks h) := by
  have h2 := hp.1
  have hhalf : p / 2 = h := by omega
  have hr0 : ∀ j, 1 ≤ j → j ≤ h → 1 ≤ a * j % p := fun j h1 hj => by
    rcases Nat.eq_zero_or_pos (a * j % p) with e | e
    · exfalso
      rcases hp.dvd_mul (Nat.dvd_of_mod_eq_zero e) with h | h
      · exact ha (Nat.mod_eq_zero_of_dvd h)
      · have := Nat.le_of_dvd (by omega) h; omega
    · exact e
  have hin : ∀ j ∈ ks h, sj a p j ∈ ks h := fun j hj => by
    obtain ⟨j1, j2⟩ := mem_ks.1 hj
    have h1 := hr0 j j1 j2
    have h3 := Nat.mod_lt (a * j) (show p > 0 by omega)
    refine mem_ks.2 ?_
    unfold sj
    rw [hhalf]
    split <;> omega
  refine perm_of_sub ?_ (fun x hx => by obtain ⟨j, hj, rfl⟩ := List.mem_map.1 hx; exact hin j hj) (by simp)
  refine List.pairwise_map.2 ((ks_nodup h).imp_of_mem (fun {i j} hi hj hne e => hne ?_))
  obtain ⟨i1, i2⟩ := mem_ks.1 hi
  obtain ⟨j1, j2⟩ := mem_ks.1 hj
  have ri := Nat.mod_lt (a * i) (show p > 0 by omega)
  have rj := Nat.mod_lt (a * j) (show p > 0 by omega)
  have hga : Nat.gcd a p = 1 := (gcd_prime hp).2 (fun h => ha (Nat.mod_eq_zero_of_dvd h))
  have hsame : a * i % p = a * j % p → i = j := fun e => by
    have e2 := cancel (m := p) (x := i) (y := j) (c := a) (by rw [Nat.mul_comm i, Nat.mul_comm j]; exact e) hga
    rwa [Nat.mod_eq_of_lt (by omega), Nat.mod_eq_of_lt (by omega)] at e2
  have hsum : a * i % p + a * j % p = p → i = j := fun e => by
    exfalso
    have e2 : a * (i + j) % p = 0 := by rw [Nat.mul_add, Nat.add_mod, e, Nat.mod_self]
    rcases hp.dvd_mul (Nat.dvd_of_mod_eq_zero e2) with h | h
    · exact ha (Nat.mod_eq_zero_of_dvd h)
    · have := Nat.le_of_dvd (by omega) h; omega
  unfold sj at e
  rw [hhalf] at e
  split at e <;> split at e
  · exact hsame e
  · exact hsum (by omega)
  · exact hsum (by omega)
  · exact hsame (by omega)

/-- 1, or -1. -/
def par (n : Nat) : Int := if n % 2 = 0 then 1 else -1

theorem par_add (m n : Nat) : par (m + n) = par m * par n := by
  unfold par
  rcases Nat.mod_two_eq_zero_or_one m with h | h <;> rcases Nat.mod_two_eq_zero_or_one n with k | k
  · rw [if_pos (by omega), if_pos h, if_pos k]; rfl
  · rw [if_neg (by omega), if_pos h, if_neg (by omega)]; rfl
  · rw [if_neg (by omega), if_neg (by omega), if_pos k]; rfl
  · rw [if_pos (by omega), if_neg (by omega), if_neg (by omega)]; rfl

theorem par_cong {m n : Nat} (h : m % 2 = n % 2) : par m = par n := by unfold par; rw [h]

/-- Gauss's lemma. -/
theorem gauss_lemma {p h a : Nat} (hp : Pr p) (hh : p = 2 * h + 1) (h1 : 1 ≤ h) (ha : ¬ a % p = 0) : leg a p = par (cnt (fun j => decide (h < a * j % p)) h) := by
  have h2 := hp.1
  have hhalf : p / 2 = h := by omega
  -- the product of all a * j
  have e1 : P (fun j => (a : Int) * (j : Int)) h = (a : Int) ^ h * P (fun j => (j : Int)) h := by rw [P_mul, P_const]
  have e2 : P (fun j => (sj a p j : Int)) h = P (fun j => (j : Int)) h := by
    rw [P_list, P_list]
    have hpm := (sj_perm hp hh ha).map (fun x : Nat => (x : Int))
    rw [List.map_map] at hpm
    exact pl_perm hpm
  have e3 : ∀ k, P (fun j => if h < a * j % p then (-1 : Int) else 1) k = par (cnt (fun j => decide (h < a * j % p)) k) := by
    intro k
    induction k with
    | zero => rfl
    | succ k ih =>
      show P _ k * (if h < a * (k + 1) % p then (-1 : Int) else 1) = par (cnt _ k + (if decide (h < a * (k + 1) % p) = true then 1 else 0))
      rw [ih, par_add]
      by_cases hc : h < a * (k + 1) % p
      · rw [if_pos hc, if_pos (by simpa using hc)]; rfl
      · rw [if_neg hc, if_neg (by simpa using hc)]; rfl
  have hcong : (p : Int) ∣ P (fun j => (a : Int) * (j : Int)) h - P (fun j => (if h < a * j % p then (-1 : Int) else 1) * (sj a p j : Int)) h := by
    refine P_cong (fun j j1 j2 => ?_)
    have hr := Nat.mod_lt (a * j) (show p > 0 by omega)
    have hdm : (a : Int) * (j : Int) = (p : Int) * ((a * j / p : Nat) : Int) + ((a * j % p : Nat) : Int) := by
      rw [← Int.natCast_mul, ← Int.natCast_mul, ← Int.natCast_add, Nat.div_add_mod]
    unfold sj
    rw [hhalf, hdm]
    by_cases hc : h < a * j % p
    · rw [if_pos hc, if_neg (by omega)]
      refine ⟨((a * j / p : Nat) : Int) + 1, ?_⟩
      rw [Int.mul_add]; omega
    · rw [if_neg hc, if_pos (by omega)]
      refine ⟨((a * j / p : Nat) : Int), ?_⟩
      omega
  rw [e1, P_mul, e2, e3] at hcong
  have hnd : ¬ (p : Int) ∣ P (fun j => (j : Int)) h := P_ndvd hp (fun j j1 j2 hd => by
    have := Int.le_of_dvd (by omega) hd
    omega)
  have hd1 : (p : Int) ∣ ((a : Int) ^ h - par (cnt (fun j => decide (h < a * j % p)) h)) * P (fun j => (j : Int)) h := by rw [Int.sub_mul]; exact hcong
  have hd2 := (int_dvd_mul hp hd1).resolve_right hnd
  have hd3 := Int.dvd_sub hd2 (euler_crit hp hh h1 a)
  have e4 : (a : Int) ^ h - par (cnt (fun j => decide (h < a * j % p)) h) - ((a : Int) ^ h - leg a p) = leg a p - par (cnt (fun j => decide (h < a * j % p)) h) := by omega
  rw [e4] at hd3
  exact small_eq (by omega) hd3 (leg_bd _ _) (by unfold par; split <;> omega)

theorem Sm_add (f g : Nat → Nat) : ∀ k, Sm (fun j => f j + g j) k = Sm f k + Sm g k
  | 0 => rfl
  | k + 1 => by
    show Sm (fun j => f j + g j) k + (f (k + 1) + g (k + 1)) = Sm f k + f (k + 1) + (Sm g k + g (k + 1))
    rw [Sm_add f g k]; omega

theorem Sm_mod {f g : Nat → Nat} : ∀ {k : Nat}, (∀ j, 1 ≤ j → j ≤ k → f j % 2 = g j % 2) → Sm f k % 2 = Sm g k % 2
  | 0, _ => rfl
  | k + 1, h => by
    have ih := Sm_mod (k := k) (fun j h1 h2 => h j h1 (by omega))
    have h1 := h (k + 1) (by omega) (Nat.le_refl _)
    show (Sm f k + f (k + 1)) % 2 = (Sm g k + g (k + 1)) % 2
    omega

theorem cnt_Sm (Q : Nat → Bool) : ∀ k, cnt Q k = Sm (fun j => if Q j = true then 1 else 0) k
  | 0 => rfl
  | k + 1 => by
    show cnt Q k + _ = Sm _ k + _
    rw [cnt_Sm Q k]

/-- The count's parity, by quotients. -/
theorem gauss_par {p h a : Nat} (hp : Pr p) (hh : p = 2 * h + 1) (ha : ¬ a % p = 0) : (Sm (fun j => a * j) h + Sm (fun j => a * j / p) h + Sm (fun j => j) h + cnt (fun j => decide (h < a * j % p)) h) % 2 = 0 := by
  have hhalf : p / 2 = h := by omega
  have e1 : Sm (sj a p) h = Sm (fun j => j) h := by
    rw [Sm_list, Sm_list]
    have := sl_perm (sj_perm hp hh ha)
    simpa using this
  have e2 : Sm (fun j => a * j) h % 2 = Sm (fun j => a * j / p + (sj a p j + (if decide (h < a * j % p) = true then 1 else 0))) h % 2 := by
    refine Sm_mod (fun j j1 j2 => ?_)
    have hr := Nat.mod_lt (a * j) (show p > 0 by omega)
    have hdm := Nat.div_add_mod (a * j) p
    have hpq : (p * (a * j / p)) % 2 = (a * j / p) % 2 := by
      rw [hh, Nat.add_mul, Nat.mul_assoc, Nat.one_mul]; omega
    unfold sj
    rw [hhalf]
    by_cases hc : h < a * j % p
    · rw [if_neg (by omega), if_pos (by simpa using hc)]; omega
    · rw [if_pos (by omega), if_neg (by simpa using hc)]; omega
  rw [Sm_add, Sm_add, e1, ← cnt_Sm] at e2
  omega

/-- How many come below, counted both ways. -/
theorem swap (Q : Nat → Nat → Bool) (m : Nat) : ∀ n, Sm (fun j => cnt (Q j) m) n = Sm (fun k => cnt (fun j => Q j k) n) m := by
  intro n
  induction n with
  | zero =>
    have : ∀ m, Sm (fun k => cnt (fun j => Q j k) 0) m = 0 := by
      intro m
      induction m with
      | zero => rfl
      | succ m ih => show Sm _ m + 0 = 0; rw [ih]
    rw [this]; rfl
  | succ n ih =>
    have e : (fun k => cnt (fun j => Q j k) (n + 1)) = fun k => cnt (fun j => Q j k) n + (if Q (n + 1) k = true then 1 else 0) := rfl
    show Sm _ n + cnt (Q (n + 1)) m = _
    rw [e, Sm_add, ← ih, cnt_Sm (Q (n + 1)) m]

theorem cnt_not (Q : Nat → Bool) : ∀ k, cnt Q k + cnt (fun j => !Q j) k = k
  | 0 => rfl
  | k + 1 => by
    have := cnt_not Q k
    simp only [cnt]
    rcases Bool.eq_false_or_eq_true (Q (k + 1)) with h | h <;> simp [h] <;> omega

theorem cnt_quot {q p j k : Nat} (hp : 1 ≤ p) (hb : q * j / p ≤ k) : cnt (fun i => decide (i * p ≤ q * j)) k = q * j / p := by
  have key : ∀ k, cnt (fun i => decide (i * p ≤ q * j)) k = min k (q * j / p) := by
    intro k
    induction k with
    | zero => simp [cnt]
    | succ k ih =>
      simp only [cnt, ih]
      by_cases h : (k + 1) * p ≤ q * j
      · have h1 : k + 1 ≤ q * j / p := (Nat.le_div_iff_mul_le (by omega)).2 h
        rw [if_pos (by simpa using h)]; omega
      · have h1 : ¬ k + 1 ≤ q * j / p := fun h2 => h ((Nat.le_div_iff_mul_le (by omega)).1 h2)
        rw [if_neg (by simpa using h)]; omega
  rw [key]; omega

theorem lattice {p q h k : Nat} (hp : Pr p) (hq : Pr q) (hne : p ≠ q) (hh : p = 2 * h + 1) (hk : q = 2 * k + 1) : Sm (fun j => q * j / p) h + Sm (fun i => p * i / q) k = h * k := by
  have h2p := hp.1
  have h2q := hq.1
  have e1 : Sm (fun j => q * j / p) h = Sm (fun j => cnt (fun i => decide (i * p ≤ q * j)) k) h := by
    have : ∀ n, n ≤ h → Sm (fun j => q * j / p) n = Sm (fun j => cnt (fun i => decide (i * p ≤ q * j)) k) n := by
      intro n
      induction n with
      | zero => intro _; rfl
      | succ n ih =>
        intro hn
        show Sm _ n + q * (n + 1) / p = Sm _ n + cnt _ k
        rw [ih (by omega), cnt_quot (by omega)]
        refine Nat.le_of_lt_succ ((Nat.div_lt_iff_lt_mul (by omega)).2 ?_)
        have h3 : q * (2 * (n + 1)) ≤ q * (p - 1) := Nat.mul_le_mul_left q (by omega)
        have h4 : q * (p - 1) < (k + 1) * p * 2 := by
          have e5 : (k + 1) * p * 2 = (q + 1) * p := by
            rw [hk, Nat.mul_right_comm]; congr 1; omega
          rw [e5, Nat.add_mul, Nat.one_mul]
          have : q * (p - 1) ≤ q * p := Nat.mul_le_mul_left q (by omega)
          omega
        have h5 : q * (2 * (n + 1)) = 2 * (q * (n + 1)) := Nat.mul_left_comm _ _ _
        show q * (n + 1) < (k + 1) * p
        omega
    exact this h (Nat.le_refl _)
  have e2 : Sm (fun i => p * i / q) k = Sm (fun i => cnt (fun j => decide (j * q ≤ p * i)) h) k := by
    have : ∀ n, n ≤ k → Sm (fun i => p * i / q) n = Sm (fun i => cnt (fun j => decide (j * q ≤ p * i)) h) n := by
      intro n
      induction n with
      | zero => intro _; rfl
      | succ n ih =>
        intro hn
        show Sm _ n + p * (n + 1) / q = Sm _ n + cnt _ h
        rw [ih (by omega), cnt_quot (by omega)]
        refine Nat.le_of_lt_succ ((Nat.div_lt_iff_lt_mul (by omega)).2 ?_)
        have h3 : p * (2 * (n + 1)) ≤ p * (q - 1) := Nat.mul_le_mul_left p (by omega)
        have h4 : p * (q - 1) < (h + 1) * q * 2 := by
          have e5 : (h + 1) * q * 2 = (p + 1) * q := by
            rw [hh, Nat.mul_right_comm]; congr 1; omega
          rw [e5, Nat.add_mul, Nat.one_mul]
          have : p * (q - 1) ≤ p * q := Nat.mul_le_mul_left p (by omega)
          omega
        have h5 : p * (2 * (n + 1)) = 2 * (p * (n + 1)) := Nat.mul_left_comm _ _ _
        show p * (n + 1) < (h + 1) * q
        omega
    exact this k (Nat.le_refl _)
  rw [e1, swap, e2, ← Sm_add]
  have key : ∀ n, n ≤ k → Sm (fun i => cnt (fun j => decide (i * p ≤ q * j)) h + cnt (fun j => decide (j * q ≤ p * i)) h) n = h * n := by
    intro n
    induction n with
    | zero => intro _; rfl
    | succ n ih =>
      intro hn
      show Sm _ n + (cnt (fun j => decide ((n + 1) * p ≤ q * j)) h + cnt (fun j => decide (j * q ≤ p * (n + 1))) h) = h * (n + 1)
      rw [ih (by omega)]
      have e3 : cnt (fun j => decide (j * q ≤ p * (n + 1))) h = cnt (fun j => !decide ((n + 1) * p ≤ q * j)) h := by
        refine cnt_congr (fun j j1 j2 => ?_)
        have hneq : (n + 1) * p ≠ q * j := fun e => by
          have h3 : p ∣ q * j := by rw [← e]; exact Nat.dvd_mul_left _ _
          rcases hp.dvd_mul h3 with h | h
          · exact hne (hp.eq_of_dvd hq h)
          · have := Nat.le_of_dvd (by omega) h; omega
        rw [Bool.eq_iff_iff]
        simp only [decide_eq_true_eq, Bool.not_eq_true', decide_eq_false_iff_not]
        rw [Nat.mul_comm j q, Nat.mul_comm p (n + 1)]
        omega
      rw [e3, cnt_not, Nat.mul_succ]
  exact key k (Nat.le_refl _)

/-- Reciprocity of two odd primes. -/
theorem recip {p q : Nat} (hp : Pr p) (hq : Pr q) (hp2 : p ≠ 2) (hq2 : q ≠ 2) (hne : p ≠ q) : leg q p * leg p q = if p % 4 = 3 ∧ q % 4 = 3 then -1 else 1 := by
  obtain ⟨h, hh, h1⟩ := odd_half hp hp2
  obtain ⟨k, hk, k1⟩ := odd_half hq hq2
  have hqp : ¬ q % p = 0 := fun e => hne (hp.eq_of_dvd hq (Nat.dvd_of_mod_eq_zero e))
  have hpq : ¬ p % q = 0 := fun e => hne (hq.eq_of_dvd hp (Nat.dvd_of_mod_eq_zero e)).symm
  rw [gauss_lemma hp hh h1 hqp, gauss_lemma hq hk k1 hpq, ← par_add]
  have g1 := gauss_par hp hh hqp
  have g2 := gauss_par hq hk hpq
  have hl := lattice hp hq hne hh hk
  have o1 : Sm (fun j => q * j) h % 2 = Sm (fun j => j) h % 2 := Sm_mod (fun j _ _ => by rw [hk, Nat.add_mul, Nat.mul_assoc, Nat.one_mul]; omega)
  have o2 : Sm (fun j => p * j) k % 2 = Sm (fun j => j) k % 2 := Sm_mod (fun j _ _ => by rw [hh, Nat.add_mul, Nat.mul_assoc, Nat.one_mul]; omega)
  have e : (cnt (fun j => decide (h < q * j % p)) h + cnt (fun j => decide (k < p * j % q)) k) % 2 = (h * k) % 2 := by omega
  rw [par_cong e]
  unfold par
  rw [Nat.mul_mod]
  rcases Nat.mod_two_eq_zero_or_one h with a | a <;> rcases Nat.mod_two_eq_zero_or_one k with b | b <;> rw [a, b]
  · rw [if_pos (by decide), if_neg (by omega)]
  · rw [if_pos (by decide), if_neg (by omega)]
  · rw [if_pos (by decide), if_neg (by omega)]
  · rw [if_neg (by decide), if_pos (by omega)]

theorem Sm_id : ∀ k, 2 * Sm (fun j => j) k = k * (k + 1)
  | 0 => rfl
  | k + 1 => by
    have := Sm_id k
    show 2 * (Sm (fun j => j) k + (k + 1)) = (k + 1) * (k + 1 + 1)
    simp only [Nat.mul_add, Nat.add_mul, Nat.mul_one, Nat.one_mul] at *
    omega

/-- What Legendre has of 2. -/
theorem leg_two {p : Nat} (hp : Pr p) (ho : p ≠ 2) : leg 2 p = if p % 8 = 1 ∨ p % 8 = 7 then 1 else -1 := by
  obtain ⟨h, hh, h1⟩ := odd_half hp ho
  have h2p : ¬ 2 % p = 0 := fun e => by
    have := Nat.le_of_dvd (by omega) (Nat.dvd_of_mod_eq_zero e)
    have := hp.1
    omega
  rw [gauss_lemma hp hh h1 h2p]
  have g := gauss_par hp hh h2p
  have z : Sm (fun j => 2 * j / p) h = 0 := by
    have : ∀ n, n ≤ h → Sm (fun j => 2 * j / p) n = 0 := by
      intro n
      induction n with
      | zero => intro _; rfl
      | succ n ih =>
        intro hn
        show Sm _ n + 2 * (n + 1) / p = 0
        rw [ih (by omega), Nat.div_eq_of_lt (by omega)]
    exact this h (Nat.le_refl _)
  have e2 : Sm (fun j => 2 * j) h % 2 = 0 := by
    have := Sm_mod (f := fun j => 2 * j) (g := fun _ => 0) (k := h) (fun j _ _ => by simp)
    rw [this]
    have : ∀ n, Sm (fun _ => 0) n = 0 := by
      intro n
      induction n with
      | zero => rfl
      | succ n ih => show Sm _ n + 0 = 0; rw [ih]
    rw [this]
  have hs := Sm_id h
  have e : cnt (fun j => decide (h < 2 * j % p)) h % 2 = Sm (fun j => j) h % 2 := by omega
  rw [par_cong e]
  unfold par
  obtain ⟨t, r, hr, ht⟩ : ∃ t r, r < 4 ∧ h = 4 * t + r := ⟨h / 4, h % 4, Nat.mod_lt _ (by omega), by omega⟩
  have e5 : h * (h + 1) = 4 * (4 * (t * t)) + 4 * t * (2 * r + 1) + r * (r + 1) := by
    rw [ht]
    simp only [Nat.mul_add, Nat.add_mul, Nat.mul_one]
    have a1 : 4 * t * (4 * t) = 4 * (4 * (t * t)) := by rw [Nat.mul_assoc, Nat.mul_left_comm t 4 t]
    have a2 : 4 * t * (2 * r) = 8 * (t * r) := by rw [Nat.mul_mul_mul_comm]
    have a3 : 4 * t * r = 4 * (t * r) := Nat.mul_assoc _ _ _
    have a4 : r * (4 * t) = 4 * (t * r) := by rw [Nat.mul_comm, Nat.mul_assoc]
    omega
  have hrc : r = 0 ∨ r = 1 ∨ r = 2 ∨ r = 3 := by omega
  rcases hrc with e6 | e6 | e6 | e6 <;> subst e6
  · have hm : Sm (fun j => j) h % 2 = 0 := by omega
    rw [hm, if_pos rfl, if_pos (by omega)]
  · have hm : Sm (fun j => j) h % 2 = 1 := by omega
    rw [hm, if_neg (by decide), if_neg (by omega)]
  · have hm : Sm (fun j => j) h % 2 = 1 := by omega
    rw [hm, if_neg (by decide), if_neg (by omega)]
  · have hm : Sm (fun j => j) h % 2 = 0 := by omega
    rw [hm, if_pos rfl, if_pos (by omega)]

end Go.Proofs.Ytjpmkcijkcnfiaa.Num9
