/-
  Plain arithmetic, without the model: Jacobi's symbol by changing places; roots by a prime, Tonelli's and Shanks's way to one.
-/
import Derived.Test.YtnciahbpmajhdabNum10
import Derived.Test.YtnciahbpmajhdabNum13
namespace Go.Proofs.Ytnciahbpmajhdab.Num29
set_option linter.unusedVariables false
open Go.Proofs.Ytnciahbpmajhdab.Num Go.Proofs.Ytnciahbpmajhdab.Num3 Go.Proofs.Ytnciahbpmajhdab.Num6 Go.Proofs.Ytnciahbpmajhdab.Num7 Go.Proofs.Ytnciahbpmajhdab.Num9 Go.Proofs.Ytnciahbpmajhdab.Num10 Go.Proofs.Ytnciahbpmajhdab.Num13

/-- What Jacobi has of a by n. -/
def JJ (a : Int) (n : Nat) (j : Int) : Prop := ∃ l, Fac n l ∧ jac (rs a n) l = j

theorem JJ.ex (a : Int) {n : Nat} (hn : 1 ≤ n) : ∃ j, JJ a n j := by
  obtain ⟨l, hl⟩ := Fac.exists n hn
  exact ⟨_, l, hl, rfl⟩

theorem JJ.uniq {a : Int} {n : Nat} {i j : Int} (h : JJ a n i) (h' : JJ a n j) : i = j := by
  obtain ⟨l, hl, rfl⟩ := h
  obtain ⟨k, hk, rfl⟩ := h'
  rw [hl.unique hk]

theorem JJ.three {a : Int} {n : Nat} {j : Int} (h : JJ a n j) : j = 0 ∨ j = 1 ∨ j = -1 := by
  obtain ⟨l, hl, rfl⟩ := h
  exact jac_three (n := n) _

theorem jac_prime {p a : Nat} (hp : Pr p) {l : List (Nat × Nat)} (h : Fac p l) : jac a l = leg a p := by
  rw [h.unique (Fac.prime hp)]; unfold jac; simp only [jlc]; rw [Int.pow_succ, Int.pow_zero]; omega

theorem JJ.prime {a : Int} {p : Nat} {j : Int} (hp : Pr p) (h : JJ a p j) : j = leg (rs a p) p := by
  obtain ⟨l, hl, rfl⟩ := h
  exact jac_prime hp hl

theorem leg_ne_neg {a p : Nat} (h : leg a p = 0) : ¬ leg a p = -1 := by omega

theorem leg_yes {a p : Nat} (hp : 1 ≤ p) (h : leg a p = 1) : (¬ a % p = 0) ∧ ∃ x, x < p ∧ x * x % p = a % p := by
  unfold leg at h
  split at h
  · omega
  · split at h
    · rename_i h0 hs
      obtain ⟨x, hx⟩ := (sq_iff hp).1 hs
      exact ⟨h0, x % p, Nat.mod_lt _ (by omega), by rw [← hx]; rw [← Nat.mul_mod]⟩
    · omega

theorem leg_no {a p : Nat} (hp : 1 ≤ p) (h : leg a p = -1) : ∀ x, ¬ x * x % p = a % p := by
  unfold leg at h
  split at h
  · omega
  · split at h
    · omega
    · rename_i hs
      intro x hx
      exact hs ((sq_iff hp).2 ⟨x, hx⟩)

theorem leg_of_root {a p : Nat} (hp : 1 ≤ p) (h0 : ¬ a % p = 0) {x : Nat} (hx : x * x % p = a % p) : leg a p = 1 := by
  unfold leg
  rw [if_neg h0, if_pos ((sq_iff hp).2 ⟨x, hx⟩)]

theorem leg_of_none {a p : Nat} (hp : 1 ≤ p) (h0 : ¬ a % p = 0) (hx : ∀ x, 1 ≤ x → x < p → ¬ x * x % p = a % p) : leg a p = -1 := by
  rcases leg_three a p with h | h | h
  · exact absurd (leg_zero.1 h) h0
  · obtain ⟨_, x, hl, e⟩ := leg_yes hp h
    rcases Nat.eq_zero_or_pos x with e0 | e0
    · subst e0; simp at e; omega
    · exact absurd e (hx x e0 hl)
  · exact h

/-- The way of changing places: what is sought is the sign times what Jacobi has of what is left. -/
def Sym (J s : Int) (a n : Nat) : Prop := n % 2 = 1 ∧ (s = 1 ∨ s = -1) ∧ ∃ l, Fac n l ∧ s * jac a l = J

theorem Sym.start {a : Int} {n : Nat} {J : Int} (ho : n % 2 = 1) (h : JJ a n J) : Sym J 1 (rs a n) n := by
  obtain ⟨l, hl, e⟩ := h
  exact ⟨ho, .inl rfl, l, hl, by rw [e]; omega⟩

theorem Sym.half {J s : Int} {a n : Nat} (h : Sym J s a n) (ha : a % 2 = 0) : Sym J (if n % 8 = 3 ∨ n % 8 = 5 then -s else s) (a / 2) n := by
  obtain ⟨ho, hs, l, hl, e⟩ := h
  refine ⟨ho, by split <;> omega, l, hl, ?_⟩
  have e2 : a = 2 * (a / 2) := by omega
  rw [e2, jac_mul hl ho, jac_two hl ho] at e
  rw [← e]
  unfold chi8
  by_cases h8 : n % 8 = 3 ∨ n % 8 = 5
  · rw [if_pos h8, if_neg (by omega)]
    rw [Int.neg_one_mul, Int.neg_mul, Int.mul_neg]
  · rw [if_neg h8, if_pos (by omega), Int.one_mul]

theorem Sym.swap {J s : Int} {a n : Nat} (h : Sym J s a n) (ha : a % 2 = 1) : Sym J (if a % 4 = 3 ∧ n % 4 = 3 then -s else s) n a := by
  obtain ⟨ho, hs, l, hl, e⟩ := h
  obtain ⟨k, hk⟩ := Fac.exists a (by omega)
  refine ⟨ha, by split <;> omega, k, hk, ?_⟩
  by_cases hg : Nat.gcd a n = 1
  · have hr := recip_jac (m := a) (by omega) ha hk n (by omega) ho hg l hl
    have h0 : ¬ jac n k = 0 := fun h0 => (jac_zero hk).1 h0 (by rw [Nat.gcd_comm]; exact hg)
    rw [← e]
    unfold eps at hr
    have h3 := jac_three (n := a) n (l := k)
    have h4 := jac_three (n := n) a (l := l)
    by_cases h8 : a % 4 = 3 ∧ n % 4 = 3
    · rw [if_pos h8] at hr ⊢
      rcases h3 with h3 | h3 | h3
      · exact absurd h3 h0
      · rw [h3] at hr ⊢; rw [show jac a l = -1 by omega]; omega
      · rw [h3] at hr ⊢; rw [show jac a l = 1 by omega]; omega
    · rw [if_neg h8] at hr ⊢
      rcases h3 with h3 | h3 | h3
      · exact absurd h3 h0
      · rw [h3] at hr ⊢; rw [show jac a l = 1 by omega]
      · rw [h3] at hr ⊢; rw [show jac a l = -1 by omega]
  · have z1 := (jac_zero hl).2 hg
    have z2 := (jac_zero hk (a := n)).2 (by rw [Nat.gcd_comm]; exact hg)
    rw [z1, Int.mul_zero] at e
    rw [z2, Int.mul_zero]; exact e

theorem Sym.mod {J s : Int} {a n : Nat} (h : Sym J s a n) : Sym J s (a % n) n := by
  obtain ⟨ho, hs, l, hl, e⟩ := h
  exact ⟨ho, hs, l, hl, by rw [jac_mod hl (Nat.mod_mod a n)]; exact e⟩

theorem Sym.done {J s : Int} {n : Nat} (h : Sym J s 0 n) : J = if n = 1 then s else 0 := by
  obtain ⟨ho, hs, l, hl, e⟩ := h
  by_cases h1 : n = 1
  · subst h1
    rw [if_pos rfl, ← e, hl.unique fac_one]
    unfold jac; simp [jlc]
  · rw [if_neg h1, ← e, (jac_zero hl).2 (by simp; exact h1), Int.mul_zero]

theorem Sym.pos {J s : Int} {a n : Nat} (h : Sym J s a n) : 1 ≤ n := by have := h.1; omega

/-- The other road: the product over the primes, one by one. -/
theorem jlc_take {l : List (Nat × Nat)} (c : Nat → Int) {i : Nat} (hi : i < l.length) : jlc c (l.take (i + 1)) = jlc c (l.take i) * c (l.getD i (0, 0)).1 ^ (l.getD i (0, 0)).2 := by
  have e : l.take (i + 1) = l.take i ++ [l.getD i (0, 0)] := by
    rw [List.take_add_one, List.getD_eq_getElem?_getD]
    rw [List.getElem?_eq_getElem hi]; rfl
  have app : ∀ a b : List (Nat × Nat), jlc c (a ++ b) = jlc c a * jlc c b := by
    intro a b
    induction a with
    | nil => simp [jlc]
    | cons x xs ih => simp only [List.cons_append, jlc]; rw [ih, Int.mul_assoc]
  rw [e, app]
  simp [jlc]

/-- As far as prime i, taken k times. -/
def Jpart (a : Nat) (l : List (Nat × Nat)) (i k : Nat) (j : Int) : Prop := j = jlc (leg a) (l.take i) * leg a (l.getD i (0, 0)).1 ^ k ∧ -1 ≤ j ∧ j ≤ 1

theorem Jpart.start (a : Nat) (l : List (Nat × Nat)) : Jpart a l 0 0 1 := ⟨by simp [jlc], by omega, by omega⟩

theorem three_mul {x y : Int} (hx : -1 ≤ x ∧ x ≤ 1) (hy : y = 0 ∨ y = 1 ∨ y = -1) : -1 ≤ x * y ∧ x * y ≤ 1 := by
  rcases hy with h | h | h <;> rw [h] <;> omega

theorem Jpart.step {a : Nat} {l : List (Nat × Nat)} {i k : Nat} {j : Int} (h : Jpart a l i k j) : Jpart a l i (k + 1) (j * leg a (l.getD i (0, 0)).1) := by
  obtain ⟨e, h1, h2⟩ := h
  refine ⟨?_, three_mul ⟨h1, h2⟩ (leg_three _ _)⟩
  rw [e, Int.pow_succ, Int.mul_assoc]

theorem Jpart.next {a : Nat} {l : List (Nat × Nat)} {i : Nat} {j : Int} (hi : i < l.length) (h : Jpart a l i (l.getD i (0, 0)).2 j) : Jpart a l (i + 1) 0 j := by
  obtain ⟨e, h1, h2⟩ := h
  refine ⟨?_, h1, h2⟩
  rw [jlc_take _ hi, ← e]; simp

theorem Jpart.done {a : Nat} {l : List (Nat × Nat)} {j : Int} (h : Jpart a l l.length 0 j) : jac a l = j := by
  rw [h.1]; simp [jac]

/-- Products. -/
theorem JJ.mul {a b : Int} {n : Nat} {x y : Int} (ho : n % 2 = 1) (h : JJ a n x) (h' : JJ b n y) : JJ (a * b) n (x * y) := by
  obtain ⟨l, hl, rfl⟩ := h
  obtain ⟨k, hk, rfl⟩ := h'
  rw [hk.unique hl]
  refine ⟨l, hl, ?_⟩
  rw [← jac_mul hl ho]
  refine jac_mod hl ?_
  have hn : 1 ≤ n := by omega
  have e : ((rs (a * b) n : Nat) : Int) = (((rs a n * rs b n) % n : Nat) : Int) := by
    rw [rs_cast _ hn]; push_cast; rw [rs_cast _ hn, rs_cast _ hn, Int.mul_emod]
  have e2 : rs (a * b) n = rs a n * rs b n % n := by exact_mod_cast e
  rw [e2, Nat.mod_mod]

theorem rs_dvd (a : Int) {m n : Nat} (hm : 1 ≤ m) (hn : 1 ≤ n) (hd : m ∣ n) : rs a n % m = rs a m := by
  have e : ((rs a n % m : Nat) : Int) = ((rs a m : Nat) : Int) := by
    push_cast
    rw [rs_cast _ hm, rs_cast _ hn, Int.emod_emod_of_dvd a (Int.ofNat_dvd.2 hd)]
  exact_mod_cast e

theorem JJ.low {a : Int} {m n : Nat} {u x : Int} (hm : 1 ≤ m) (hn : 1 ≤ n) (h : JJ a m u) (h' : JJ a n x) : JJ a (m * n) (u * x) := by
  obtain ⟨l, hl, rfl⟩ := h
  obtain ⟨k, hk, rfl⟩ := h'
  obtain ⟨r, hr⟩ := Fac.exists (m * n) (Nat.mul_le_mul hm hn)
  have hmn : 1 ≤ m * n := Nat.mul_le_mul hm hn
  refine ⟨r, hr, ?_⟩
  have e1 : jac (rs a m) l = jac (rs a (m * n)) l := jac_mod hl (by rw [rs_dvd a hm hmn (Nat.dvd_mul_right _ _), rs_mod a hm])
  have e2 : jac (rs a n) k = jac (rs a (m * n)) k := jac_mod hk (by rw [rs_dvd a hn hmn (Nat.dvd_mul_left _ _), rs_mod a hn])
  rw [e1, e2]
  unfold jac
  exact jlc_mul _ hm hn hl hk hr

theorem JJ.one {n : Nat} (hn : 1 ≤ n) : JJ 1 n 1 := by
  obtain ⟨l, hl⟩ := Fac.exists n hn
  refine ⟨l, hl, Eq.trans (jac_mod hl ?_) (jac_one hl)⟩
  rw [rs_mod 1 hn, show (1 : Int) = ((1 : Nat) : Int) from rfl, rs_nat]

theorem JJ.two {n : Nat} {j : Int} (ho : n % 2 = 1) (h : JJ 2 n j) : j = chi8 n := by
  obtain ⟨l, hl, rfl⟩ := h
  rw [← jac_two hl ho]
  refine jac_mod hl ?_
  rw [rs_mod 2 (by omega), show (2 : Int) = ((2 : Nat) : Int) from rfl, rs_nat]

theorem JJ.minus {n : Nat} {j : Int} (ho : n % 2 = 1) (h : JJ (-1) n j) : j = chi4 n := by
  obtain ⟨l, hl, rfl⟩ := h
  rw [← jac_minus hl ho]
  refine jac_mod hl ?_
  have hn : 1 ≤ n := by omega
  rw [rs_mod _ hn]
  have e : ((rs (-1) n : Nat) : Int) = (((n - 1) % n : Nat) : Int) := by
    rw [rs_cast _ hn]
    rw [Nat.mod_eq_of_lt (by omega : n - 1 < n)]
    have : (-1 : Int) % (n : Int) = (-1 + (n : Int)) % (n : Int) := by rw [Int.add_emod_right]
    rw [this, Int.emod_eq_of_lt (by omega) (by omega)]; omega
  exact_mod_cast e

theorem JJ.recip {m n : Nat} {a b : Int} (hm : m % 2 = 1) (hn : n % 2 = 1) (h : JJ (m : Int) n a) (h' : JJ (n : Int) m b) :
    if Nat.gcd m n = 1 then (if m % 4 = 3 ∧ n % 4 = 3 then a = -b ∧ ¬ a = 0 else a = b ∧ ¬ a = 0) else a = 0 ∧ b = 0 := by
  obtain ⟨l, hl, e1⟩ := h
  obtain ⟨k, hk, e2⟩ := h'
  rw [rs_nat, jac_mod hl (Nat.mod_mod m n)] at e1
  rw [rs_nat, jac_mod hk (Nat.mod_mod n m)] at e2
  subst e1 e2
  by_cases hg : Nat.gcd m n = 1
  · rw [if_pos hg]
    have hr := recip_jac (m := m) (by omega) hm hk n (by omega) hn hg l hl
    unfold eps at hr
    have h3 := jac_three (n := m) n (l := k)
    have h4 := jac_three (n := n) m (l := l)
    have h0 : ¬ jac n k = 0 := fun h0 => (jac_zero hk).1 h0 (by rw [Nat.gcd_comm]; exact hg)
    split
    · rename_i h8
      rw [if_pos h8] at hr
      rcases h3 with h3 | h3 | h3
      · exact absurd h3 h0
      · rw [h3] at hr ⊢; omega
      · rw [h3] at hr ⊢; omega
    · rename_i h8
      rw [if_neg h8] at hr
      rcases h3 with h3 | h3 | h3
      · exact absurd h3 h0
      · rw [h3] at hr ⊢; omega
      · rw [h3] at hr ⊢; omega
  · rw [if_neg hg]
    exact ⟨(jac_zero hl).2 hg, (jac_zero hk).2 (by rw [Nat.gcd_comm]; exact hg)⟩

/-- Euler's criterion, as the program tells it. -/
theorem JJ.euler {a : Int} {p : Nat} {j : Int} (hp : Pr p) (ho : p ≠ 2) (h : JJ a p j) : pw a ((p - 1) / 2) p = rs j p := by
  have e := h.prime hp
  obtain ⟨q, hq, hq1⟩ := odd_half hp ho
  have hc := euler_crit hp hq hq1 (rs a p)
  rw [← e] at hc
  have hp1 : 1 ≤ p := by have := hp.1; omega
  rw [show (p - 1) / 2 = q by omega]
  have e2 : ((pw a q p : Nat) : Int) = ((rs j p : Nat) : Int) := by
    unfold pw
    rw [rs_cast _ hp1]
    push_cast
    exact Int.emod_eq_emod_iff_emod_sub_eq_zero.2 (Int.emod_eq_zero_of_dvd hc)
  exact_mod_cast e2

/-- Roots by a prime. -/
theorem root_two {p x y : Nat} (hp : Pr p) (h : x * x % p = y * y % p) (hx : x < p) (hy : y < p) : y = x ∨ y + x = p := by
  have h1 : ((x * x % p : Nat) : Int) = ((y * y % p : Nat) : Int) := by rw [h]
  push_cast at h1
  have h2 : (p : Int) ∣ (y : Int) * y - x * x := Int.dvd_of_emod_eq_zero (Int.emod_eq_emod_iff_emod_sub_eq_zero.1 h1.symm)
  have h3 : (y : Int) * y - x * x = ((y : Int) - x) * (y + x) := by
    rw [Int.sub_mul, Int.mul_add, Int.mul_add, Int.mul_comm (x : Int) y]; omega
  rw [h3] at h2
  rcases int_dvd_mul hp h2 with ⟨c, hc⟩ | ⟨c, hc⟩
  · left
    have : c = 0 := by
      by_cases c1 : 1 ≤ c
      · have : (p : Int) * 1 ≤ p * c := Int.mul_le_mul_of_nonneg_left c1 (by omega)
        omega
      · by_cases c2 : c ≤ -1
        · have : (p : Int) * c ≤ p * (-1) := Int.mul_le_mul_of_nonneg_left c2 (by omega)
          omega
        · omega
    subst this; omega
  · have : c = 0 ∨ c = 1 := by
      by_cases c1 : 2 ≤ c
      · have : (p : Int) * 2 ≤ p * c := Int.mul_le_mul_of_nonneg_left c1 (by omega)
        omega
      · by_cases c2 : c ≤ -1
        · have : (p : Int) * c ≤ p * (-1) := Int.mul_le_mul_of_nonneg_left c2 (by omega)
          omega
        · omega
    rcases this with e | e
    · subst e; left; omega
    · subst e; right; omega

theorem root_other {p x : Nat} (hx : x ≤ p) : (p - x) * (p - x) % p = x * x % p := by
  obtain ⟨y, rfl⟩ : ∃ y, p = x + y := ⟨p - x, by omega⟩
  have e : x + y - x = y := by omega
  rw [e]
  have h1 : (y * y + x * (x + y)) % (x + y) = y * y % (x + y) := Nat.add_mul_mod_self_right _ _ _
  have h2 : (x * x + y * (x + y)) % (x + y) = x * x % (x + y) := Nat.add_mul_mod_self_right _ _ _
  rw [← h1, ← h2, Nat.mul_add, Nat.mul_add, Nat.mul_comm x y]
  congr 1; omega

/-- The least root. -/
def Least (p A r : Nat) : Prop := r * r % p = A ∧ 2 * r ≤ p ∧ (∀ y, y < r → ¬ y * y % p = A) ∧ ∀ y, y < p → y * y % p = A → y = r ∨ y = p - r

theorem Least.of {p A x : Nat} (hp : Pr p) (hx : x < p) (h0 : 1 ≤ x) (h : x * x % p = A) : Least p A (min x (p - x)) := by
  have ho : (p - x) * (p - x) % p = A := by rw [root_other (by omega)]; exact h
  have hy : ∀ y, y < p → y * y % p = A → y = x ∨ y + x = p := fun y hl e => root_two hp (by rw [e]; exact h) hx hl
  rcases Nat.le_total x (p - x) with hle | hle
  · rw [Nat.min_eq_left hle]
    refine ⟨h, by omega, fun y hl e => ?_, fun y hl e => ?_⟩
    · have := hy y (by omega) e; omega
    · have := hy y hl e; omega
  · rw [Nat.min_eq_right hle]
    refine ⟨ho, by omega, fun y hl e => ?_, fun y hl e => ?_⟩
    · have := hy y (by omega) e; omega
    · have := hy y hl e; omega

theorem Least.zero {p : Nat} (hp : Pr p) : Least p 0 0 := by
  refine ⟨by simp, by omega, fun y hl => by omega, fun y hl e => ?_⟩
  rcases hp.dvd_mul (Nat.dvd_of_mod_eq_zero e) with h | h
  · left; rcases Nat.eq_zero_or_pos y with e | e
    · exact e
    · have := Nat.le_of_dvd e h; omega
  · left; rcases Nat.eq_zero_or_pos y with e | e
    · exact e
    · have := Nat.le_of_dvd e h; omega

theorem Least.uniq {p A r s : Nat} (h : Least p A r) (h' : s * s % p = A ∧ ∀ y, y < s → ¬ y * y % p = A) : r = s := by
  rcases Nat.lt_trichotomy r s with hl | e | hl
  · exact absurd h.1 (h'.2 r hl)
  · exact e
  · exact absurd h'.1 (h.2.2.1 s hl)

theorem Least.ex {p A : Nat} (hp : Pr p) (hA : A < p) (h : ¬ leg A p = -1) : ∃ r, Least p A r ∧ r < p := by
  have h2 := hp.1
  rcases leg_three A p with e | e | e
  · have e0 := leg_zero.1 e
    rw [Nat.mod_eq_of_lt hA] at e0
    subst e0
    exact ⟨0, Least.zero hp, by omega⟩
  · obtain ⟨h0, x, hx, hxe⟩ := leg_yes (by omega) e
    rw [Nat.mod_eq_of_lt hA] at h0 hxe
    have hx1 : 1 ≤ x := by
      rcases Nat.eq_zero_or_pos x with e | e
      · subst e; simp at hxe; omega
      · exact e
    refine ⟨_, Least.of hp hx hx1 hxe, by omega⟩
  · exact absurd e h

theorem JJ.at_one {a : Int} {j : Int} (h : JJ a 1 j) : j = 1 := by
  obtain ⟨l, hl, rfl⟩ := h
  rw [hl.unique fac_one]; rfl

theorem rootless_ex {p : Nat} (hp : Pr p) (ho : p ≠ 2) : ∃ z, z < p ∧ leg z p = -1 := by
  obtain ⟨g, hg⟩ := prim_ex hp
  obtain ⟨q, hq, hq1⟩ := odd_half hp ho
  refine ⟨g % p, Nat.mod_lt _ (by have := hp.1; omega), ?_⟩
  rw [leg_mod (Nat.mod_mod g p)]
  have h0 : ¬ g % p = 0 := fun h => by
    have hc := cop_of_pow (m := p) (by omega) hg.1 hg.2.1
    exact (gcd_prime hp).1 hc (Nat.dvd_of_mod_eq_zero h)
  rcases leg_three g p with h | h | h
  · exact absurd (leg_zero.1 h) h0
  · exfalso
    have hs : sq g p = true := by
      obtain ⟨_, x, _, e⟩ := leg_yes (by omega) h
      exact (sq_iff (by omega)).2 ⟨x, e⟩
    have := euler_yes hp hq h0 hs
    have h2 := hg.2.2 q (by omega) (by omega)
    rw [one_mod hp] at h2
    exact h2 this
  · exact h

/-- Tonelli's and Shanks's way: x * x is always A times o, and o is 1 when it was squared e times. -/
def Ton (p A x o t e : Nat) : Prop := x * x % p = A * o % p ∧ o ^ (2 ^ e) % p = 1 ∧ t ^ (2 ^ e) % p = p - 1

theorem pow_mod' (a k p : Nat) : (a % p) ^ k % p = a ^ k % p := by rw [← Nat.pow_mod]

theorem minus_sq {p : Nat} (hp : Pr p) : (p - 1) * (p - 1) % p = 1 := by
  have h2 := hp.1
  rw [root_other (by omega)]
  exact Nat.mod_eq_of_lt (by omega)

theorem Ton.start {p A z d s : Nat} (hp : Pr p) (ho : p ≠ 2) (hd : d % 2 = 1) (hs : 1 ≤ s) (e : p - 1 = d * 2 ^ s) (hA : leg A p = 1) (hz : leg z p = -1) :
    Ton p A (A ^ ((d + 1) / 2) % p) (A ^ d % p) (z ^ d % p) (s - 1) := by
  obtain ⟨q, hq, hq1⟩ := odd_half hp ho
  obtain ⟨s', rfl⟩ : ∃ s', s = s' + 1 := ⟨s - 1, by omega⟩
  have eq : d * 2 ^ s' = q := by rw [Nat.pow_succ, ← Nat.mul_assoc] at e; omega
  obtain ⟨hA0, x, hx, hxe⟩ := leg_yes (by omega) hA
  have hz0 : ¬ z % p = 0 := fun h => by rw [leg_zero.2 h] at hz; omega
  have hzs : sq z p = false := by
    cases h : sq z p
    · rfl
    · obtain ⟨y, hy⟩ := (sq_iff (by omega)).1 h
      exact absurd hy (leg_no (by omega) hz y)
  refine ⟨?_, ?_, ?_⟩
  · rw [← Nat.mul_mod, ← Nat.pow_add, show (d + 1) / 2 + (d + 1) / 2 = d + 1 by omega, Nat.pow_succ, Nat.mul_comm, Nat.mul_mod A (A ^ d % p), Nat.mod_mod, ← Nat.mul_mod]
  · rw [pow_mod', ← Nat.pow_mul, show s' + 1 - 1 = s' by omega, eq]
    exact euler_yes hp hq hA0 ((sq_iff (by omega)).2 ⟨x, hxe⟩)
  · rw [pow_mod', ← Nat.pow_mul, show s' + 1 - 1 = s' by omega, eq]
    exact euler_no hp hq hq1 hz0 hzs

theorem two_pow_sq (o e : Nat) : o ^ (2 ^ (e + 1)) = o ^ (2 ^ e) * o ^ (2 ^ e) := by
  rw [← Nat.pow_add, Nat.pow_succ]; congr 1; omega

theorem Ton.keep {p A x o t e : Nat} (h : Ton p A x o t (e + 1)) (h1 : o ^ (2 ^ e) % p = 1) : Ton p A x o (t * t % p) e := by
  refine ⟨h.1, h1, ?_⟩
  rw [pow_mod', Nat.mul_pow, ← two_pow_sq]
  exact h.2.2

theorem Ton.take {p A x o t e : Nat} (hp : Pr p) (h : Ton p A x o t (e + 1)) (h1 : ¬ o ^ (2 ^ e) % p = 1) : Ton p A (x * t % p) (o * (t * t % p) % p) (t * t % p) e := by
  have ht : (t * t % p) ^ (2 ^ e) % p = p - 1 := by rw [pow_mod', Nat.mul_pow, ← two_pow_sq]; exact h.2.2
  refine ⟨?_, ?_, ht⟩
  · rw [← Nat.mul_mod, Nat.mul_mod A (o * (t * t % p) % p), Nat.mod_mod, ← Nat.mul_mod, Nat.mul_left_comm A o, Nat.mul_mod o (A * (t * t % p)), Nat.mul_mod A (t * t % p), Nat.mod_mod, ← Nat.mul_mod A (t * t), ← Nat.mul_mod, Nat.mul_left_comm o A]
    rw [show x * t * (x * t) = x * x * (t * t) by rw [Nat.mul_assoc, Nat.mul_left_comm t x t, ← Nat.mul_assoc]]
    rw [Nat.mul_mod (x * x), h.1, ← Nat.mul_mod, Nat.mul_assoc]
  · have ho : o ^ (2 ^ e) % p = p - 1 := by
      have h2 := h.2.1
      rw [two_pow_sq] at h2
      rcases sq_one hp h2 with h3 | h3
      · exact absurd h3 h1
      · exact h3
    rw [pow_mod', Nat.mul_pow, Nat.mul_mod, ho, ht]
    exact minus_sq hp

theorem Ton.done {p A x o t : Nat} (h : Ton p A x o t 0) : x * x % p = A % p := by
  have h2 := h.2.1
  simp at h2
  rw [h.1, Nat.mul_mod, h2, Nat.mul_one, Nat.mod_mod]

end Go.Proofs.Ytnciahbpmajhdab.Num29
