/-
  Plain arithmetic, without the model: what powers leave, step by step; when they are 1 again, found by taking primes out; Carmichael's function, put together.
-/
import Derived.Test.YtjpmkcijkcnfiaaNum4
import Derived.Test.YtjpmkcijkcnfiaaNum8
namespace Go.Proofs.Ytjpmkcijkcnfiaa.Num13
set_option linter.unusedVariables false
open Go.Proofs.Ytjpmkcijkcnfiaa.Num Go.Proofs.Ytjpmkcijkcnfiaa.Num3 Go.Proofs.Ytjpmkcijkcnfiaa.Num4 Go.Proofs.Ytjpmkcijkcnfiaa.Num6 Go.Proofs.Ytjpmkcijkcnfiaa.Num7 Go.Proofs.Ytjpmkcijkcnfiaa.Num8

/-- What is left of a number, from 0 on. -/
def rs (a : Int) (m : Nat) : Nat := (a % (m : Int)).toNat

theorem rs_cast (a : Int) {m : Nat} (hm : 1 ≤ m) : ((rs a m : Nat) : Int) = a % (m : Int) := by
  unfold rs
  rw [Int.toNat_of_nonneg (Int.emod_nonneg _ (by omega))]

theorem rs_lt (a : Int) {m : Nat} (hm : 1 ≤ m) : rs a m < m := by
  have h := rs_cast a hm
  have h2 := Int.emod_lt_of_pos a (show (0 : Int) < (m : Int) by omega)
  omega

theorem rs_nat (x m : Nat) : rs (x : Int) m = x % m := by
  unfold rs
  rw [show (x : Int) % (m : Int) = ((x % m : Nat) : Int) by simp, Int.toNat_natCast]

theorem rs_mod (a : Int) {m : Nat} (hm : 1 ≤ m) : rs a m % m = rs a m := Nat.mod_eq_of_lt (rs_lt a hm)

theorem rs_gcd (a : Int) {m : Nat} (hm : 1 ≤ m) : Int.gcd a (m : Int) = Nat.gcd (rs a m) m := by
  have e1 : a = a % (m : Int) + (m : Int) * (a / (m : Int)) := by have := Int.emod_add_mul_ediv a (m : Int); omega
  rw [← Int.gcd_natCast_natCast, rs_cast a hm]
  conv => lhs; rw [e1]
  rw [Int.gcd_add_mul_left_left]

/-- What a power leaves. -/
def pw (a : Int) (k m : Nat) : Nat := rs a m ^ k % m

theorem pw_lt (a : Int) (k : Nat) {m : Nat} (hm : 1 ≤ m) : pw a k m < m := Nat.mod_lt _ (by omega)

theorem pw_zero (a : Int) (m : Nat) : pw a 0 m = 1 % m := by simp [pw]

theorem pw_one (a : Int) {m : Nat} (hm : 1 ≤ m) : pw a 1 m = rs a m := by simp [pw, rs_mod a hm]

theorem pw_add (a : Int) (j k m : Nat) : pw a j m * pw a k m % m = pw a (j + k) m := by
  unfold pw
  rw [← Nat.mul_mod, ← Nat.pow_add]

theorem pw_succ (a : Int) (k : Nat) {m : Nat} (hm : 1 ≤ m) : pw a k m * rs a m % m = pw a (k + 1) m := by
  rw [← pw_add, pw_one a hm]

theorem pw_even (a : Int) {k : Nat} (m : Nat) (h : k % 2 = 0) : pw a (k / 2) m * pw a (k / 2) m % m = pw a k m := by
  rw [pw_add]; congr 1; omega

theorem pw_odd (a : Int) {k m : Nat} (hm : 1 ≤ m) (h : k % 2 = 1) : pw a (k / 2) m * pw a (k / 2) m % m * rs a m % m = pw a k m := by
  rw [pw_add, pw_succ a _ hm]; congr 1; omega

theorem sq_step (x k m : Nat) : (x * x % m) ^ k % m = x ^ (2 * k) % m := by
  rw [← Nat.pow_mod, Nat.pow_mul, Nat.pow_two]

theorem raise_even {p s k m t : Nat} (h : p * s ^ k % m = t) (hk : k % 2 = 0) : p * (s * s % m) ^ (k / 2) % m = t := by
  rw [Nat.mul_mod, sq_step, ← Nat.mul_mod, show 2 * (k / 2) = k by omega]
  exact h

theorem raise_odd {p s k m t : Nat} (h : p * s ^ k % m = t) (hk : k % 2 = 1) : p * s % m * (s * s % m) ^ (k / 2) % m = t := by
  rw [Nat.mul_mod, sq_step, Nat.mod_mod, ← Nat.mul_mod, Nat.mul_assoc, ← Nat.pow_succ', show (2 * (k / 2)).succ = k by omega]
  exact h

theorem raise_start (a : Int) (k : Nat) {m : Nat} : 1 % m * rs a m ^ k % m = pw a k m := by
  unfold pw
  rw [Nat.mul_mod, Nat.mod_mod, ← Nat.mul_mod, Nat.one_mul]

theorem raise_end {p s m t : Nat} (hp : p < m) (h : p * s ^ 0 % m = t) : p = t := by
  rw [Nat.pow_zero, Nat.mul_one, Nat.mod_eq_of_lt hp] at h
  exact h

/-! ### when powers are 1 again -/

theorem ord_le {a m o : Nat} (hm : 1 ≤ m) (h : IsOrd a m o) : o ≤ m := by
  obtain ⟨o', h1, h2⟩ := ord_ex hm (cop_of_pow hm h.1 h.2.1)
  rw [h.uniq h1]
  exact Nat.le_trans (Nat.le_of_dvd (tot_pos hm) h2) (tot_le m)

theorem lam_le {m L : Nat} (hm : 1 ≤ m) (h : IsLam m L) : L ≤ m := Nat.le_trans (Nat.le_of_dvd (tot_pos hm) (h.tot hm)) (tot_le m)

theorem ord_dvd_lam {m L a o : Nat} (h : IsLam m L) (ho : IsOrd a m o) : o ∣ L := h.2 a o ho

theorem pw_is_one {a : Int} {m o : Nat} (ho : IsOrd (rs a m) m o) (k : Nat) : pw a k m = 1 % m ↔ o ∣ k := ho.dvd k

/-- Taking primes out: what holds behind some of the primes. -/
def Out (K o : Nat) (l : List (Nat × Nat)) (i k : Nat) : Prop := 1 ≤ k ∧ k ∣ K ∧ o ∣ k ∧ ∀ j, j < i → ¬ (l.getD j (0, 0)).1 * o ∣ k

theorem Out.start {K o : Nat} {l : List (Nat × Nat)} (hK : 1 ≤ K) (ho : o ∣ K) : Out K o l 0 K := ⟨hK, Nat.dvd_refl _, ho, fun j hj => by omega⟩

theorem out_iff {o k p : Nat} (hp : 1 ≤ p) : p * o ∣ k ↔ p ∣ k ∧ o ∣ k / p := by
  constructor
  · intro h
    have h1 : p ∣ k := Nat.dvd_trans (Nat.dvd_mul_right p o) h
    refine ⟨h1, ?_⟩
    obtain ⟨c, rfl⟩ := h
    rw [Nat.mul_assoc, Nat.mul_div_cancel_left _ (by omega)]
    exact Nat.dvd_mul_right _ _
  · rintro ⟨⟨c, rfl⟩, h⟩
    rw [Nat.mul_div_cancel_left _ (by omega)] at h
    exact Nat.mul_dvd_mul_left p h

theorem Out.take {K o : Nat} {l : List (Nat × Nat)} {i k p : Nat} (h : Out K o l i k) (hp : 2 ≤ p) (hd : p ∣ k) (ho : o ∣ k / p) : Out K o l i (k / p) ∧ k / p < k := by
  have h1 : k / p ∣ k := Nat.div_dvd_of_dvd hd
  exact ⟨⟨Nat.div_pos (Nat.le_of_dvd (by have := h.1; omega) hd) (by omega), Nat.dvd_trans h1 h.2.1, ho, fun j hj h2 => h.2.2.2 j hj (Nat.dvd_trans h2 h1)⟩, Nat.div_lt_self (by have := h.1; omega) (by omega)⟩

theorem Out.next {K o : Nat} {l : List (Nat × Nat)} {i k : Nat} (h : Out K o l i k) (hd : ¬ (l.getD i (0, 0)).1 * o ∣ k) : Out K o l (i + 1) k :=
  ⟨h.1, h.2.1, h.2.2.1, fun j hj => by
    by_cases e : j = i
    · subst e; exact hd
    · exact h.2.2.2 j (by omega)⟩

theorem Out.done {K o : Nat} {l : List (Nat × Nat)} {k : Nat} (hF : Fac K l) (h : Out K o l l.length k) : k = o := by
  obtain ⟨t, rfl⟩ := h.2.2.1
  have h1 := h.1
  rcases Nat.lt_or_ge t 2 with ht | ht
  · have : t = 1 := by
      rcases Nat.eq_zero_or_pos t with e | e
      · subst e; simp at h1
      · omega
    subst this; simp
  · exfalso
    obtain ⟨p, hp, hpt, _⟩ := least_prime ht
    have hpK : p ∣ pd l := by rw [hF.2.2]; exact Nat.dvd_trans (Nat.dvd_trans hpt (Nat.dvd_mul_left _ _)) h.2.1
    obtain ⟨x, hx, e⟩ := pr_dvd_pd hp hF.1 hpK
    obtain ⟨j, hj, e2⟩ := List.getElem_of_mem hx
    refine h.2.2.2 j hj ?_
    rw [show l.getD j (0, 0) = x by simp [List.getD, hj, e2], e, Nat.mul_comm]
    exact Nat.mul_dvd_mul_left _ hpt

/-! ### Carmichael's function -/

/-- Of a prime's power. -/
def lamP (p k : Nat) : Nat := if p = 2 ∧ 2 < k then (p - 1) * p ^ (k - 1) / 2 else (p - 1) * p ^ (k - 1)

theorem lamP_ok {p k : Nat} (hp : Pr p) (hk : 1 ≤ k) : IsLam (p ^ k) (lamP p k) := by
  obtain ⟨k, rfl⟩ : ∃ j, k = j + 1 := ⟨k - 1, by omega⟩
  unfold lamP
  by_cases h : p = 2 ∧ 2 < k + 1
  · rw [if_pos h]
    obtain ⟨rfl, h2⟩ := h
    obtain ⟨j, rfl⟩ : ∃ j, k = j + 2 := ⟨k - 2, by omega⟩
    have := lam_eight j
    rw [show (2 - 1) * 2 ^ (j + 2 + 1 - 1) / 2 = 2 ^ (j + 1) by
      rw [show j + 2 + 1 - 1 = (j + 1) + 1 by omega, Nat.pow_succ, Nat.one_mul, Nat.mul_div_cancel _ (by omega)]]
    exact this
  · rw [if_neg h]
    by_cases h2 : p = 2
    · subst h2
      have : k = 0 ∨ k = 1 := by omega
      rcases this with rfl | rfl
      · exact lam_two
      · exact lam_four
    · rw [Nat.add_sub_cancel, Nat.mul_comm]
      exact lam_odd hp h2

theorem lamP_le {p k : Nat} (hp : Pr p) (hk : 1 ≤ k) : lamP p k ≤ p ^ k := lam_le (Nat.pow_pos (by have := hp.1; omega)) (lamP_ok hp hk)

theorem lamP_two {p k : Nat} (h : p = 2 ∧ 2 < k) : lamP p k = (p - 1) * p ^ (k - 1) / 2 := if_pos h

theorem lamP_other {p k : Nat} (h : ¬ (p = 2 ∧ 2 < k)) : lamP p k = (p - 1) * p ^ (k - 1) := if_neg h

theorem inner_bd {p k j : Nat} (hp : 2 ≤ p) (hj : j + 1 ≤ k) (h : p ^ k ≤ 1048576) : (p - 1) * p ^ j ≤ 1048576 := by
  refine Nat.le_trans (Nat.mul_le_mul_right _ (Nat.sub_le p 1)) ?_
  rw [Nat.mul_comm, ← Nat.pow_succ]
  exact Nat.le_trans (Nat.pow_le_pow_right (by omega) hj) h

/-- The first i prime powers. -/
def Lam (l : List (Nat × Nat)) (i L : Nat) : Prop := IsLam (pd (l.take i)) L

theorem Lam.start (l : List (Nat × Nat)) : Lam l 0 1 := lam_one

theorem Lam.next {m : Nat} {l : List (Nat × Nat)} (hF : Fac m l) {i L : Nat} (hi : i < l.length) (h : Lam l i L) : Lam l (i + 1) (Nat.lcm L (lamP (l.getD i (0, 0)).1 (l.getD i (0, 0)).2)) := by
  unfold Lam at *
  rw [pd_take hi]
  obtain ⟨hp, hk⟩ := elem_facts hF hi
  refine IsLam.mul (pd_take_pos hF i) (Nat.pow_pos (by have := hp.1; omega)) h (lamP_ok hp hk) ?_
  apply Nat.Coprime.pow_right
  show Nat.gcd _ _ = 1
  rw [gcd_prime hp]
  intro hd
  obtain ⟨x, hx, e⟩ := pr_dvd_pd hp (fun x hx => hF.1 x (List.mem_of_mem_take hx)) hd
  obtain ⟨j, hj, e2⟩ := List.getElem_of_mem hx
  have hj' : j < i := by simp at hj; omega
  have := List.pairwise_iff_getElem.1 hF.2.1 j i (by omega) hi hj'
  rw [List.getElem_take] at e2
  rw [e2, e] at this
  simp [List.getD, hi] at this

theorem Lam.le {m : Nat} {l : List (Nat × Nat)} (hF : Fac m l) {i L : Nat} (h : Lam l i L) : L ≤ m := Nat.le_trans (lam_le (pd_take_pos hF i) h) (pd_take_le hF i)

theorem Lam.pos {l : List (Nat × Nat)} {i L : Nat} (h : Lam l i L) : 1 ≤ L := IsLam.pos h

theorem Lam.done {m : Nat} {l : List (Nat × Nat)} (hF : Fac m l) {L : Nat} (h : Lam l l.length L) : IsLam m L := by
  unfold Lam at h
  rw [List.take_length, hF.2.2] at h
  exact h

theorem pow_le_of {m : Nat} {l : List (Nat × Nat)} (hF : Fac m l) {i : Nat} (hi : i < l.length) : (l.getD i (0, 0)).1 ^ (l.getD i (0, 0)).2 ≤ m := by
  have h1 := inner_le hF hi (Nat.le_refl _)
  have h2 := pd_take_pos hF i
  have h3 := Nat.mul_le_mul_right ((l.getD i (0, 0)).1 ^ (l.getD i (0, 0)).2) h2
  omega

/-! ### counting up to Carmichael's function -/

/-- The least common multiple of all orders up to y - 1. -/
def Up (m y l : Nat) : Prop := 1 ≤ l ∧ (∀ L, IsLam m L → l ∣ L) ∧ ∀ a o, 1 ≤ a → a < y → IsOrd (a % m) m o → o ∣ l

theorem Up.start (m : Nat) : Up m 1 1 := ⟨Nat.le_refl _, fun L _ => Nat.one_dvd L, fun a o h1 h2 => by omega⟩

theorem Up.skip {m y l : Nat} (hm : 1 ≤ m) (h : Up m y l) (hg : ¬ Nat.gcd (y % m) m = 1) : Up m (y + 1) l :=
  ⟨h.1, h.2.1, fun a o h1 h2 ho => by
    by_cases e : a = y
    · subst e; exact absurd (cop_of_pow hm ho.1 ho.2.1) hg
    · exact h.2.2 a o h1 (by omega) ho⟩

theorem Up.take {m y l o : Nat} (h : Up m y l) (ho : IsOrd (y % m) m o) : Up m (y + 1) (Nat.lcm l o) :=
  ⟨Nat.lcm_pos h.1 ho.1, fun L hL => Nat.lcm_dvd (h.2.1 L hL) (hL.2 _ _ ho), fun a o' h1 h2 ho' => by
    by_cases e : a = y
    · subst e; rw [ho'.uniq ho]; exact Nat.dvd_lcm_right _ _
    · exact Nat.dvd_trans (h.2.2 a o' h1 (by omega) ho') (Nat.dvd_lcm_left _ _)⟩

theorem Up.le {m y l : Nat} (hm : 1 ≤ m) (h : Up m y l) : l ≤ m := by
  obtain ⟨L, hL⟩ := lam_ex hm
  exact Nat.le_trans (Nat.le_of_dvd hL.pos (h.2.1 L hL)) (lam_le hm hL)

/-- Some number from 1 to m takes as long as all. -/
theorem lam_at {m L : Nat} (hm : 1 ≤ m) (h : IsLam m L) : ∃ c, 1 ≤ c ∧ c ≤ m ∧ IsOrd (c % m) m L := by
  obtain ⟨c, hc⟩ := h.1
  have hc2 := isOrd_mod.2 hc
  rcases Nat.eq_zero_or_pos (c % m) with e | e
  · refine ⟨m, hm, Nat.le_refl _, ?_⟩
    rw [Nat.mod_self]; rw [e] at hc2; exact hc2
  · refine ⟨c % m, e, Nat.le_of_lt (Nat.mod_lt _ (by omega)), ?_⟩
    rw [Nat.mod_mod]; exact hc2

theorem Up.done {m l : Nat} (hm : 1 ≤ m) (h : Up m (m + 1) l) : IsLam m l := by
  obtain ⟨L, hL⟩ := lam_ex hm
  obtain ⟨c, h1, h2, hc⟩ := lam_at hm hL
  have e : l = L := Nat.dvd_antisymm (h.2.1 L hL) (h.2.2 c L h1 (by omega) hc)
  rw [e]; exact hL

/-- Counting one by one: not 1 again so far. -/
def NotYet (a : Int) (m k : Nat) : Prop := ∀ j, 1 ≤ j → j < k → ¬ pw a j m = 1 % m

theorem NotYet.start (a : Int) (m : Nat) : NotYet a m 1 := fun j h1 h2 => by omega

theorem NotYet.next {a : Int} {m k : Nat} (h : NotYet a m k) (hk : ¬ pw a k m = 1 % m) : NotYet a m (k + 1) := fun j h1 h2 => by
  by_cases e : j = k
  · subst e; exact hk
  · exact h j h1 (by omega)

theorem NotYet.found {a : Int} {m k : Nat} (h : NotYet a m k) (h1 : 1 ≤ k) (hk : pw a k m = 1 % m) : IsOrd (rs a m) m k := ⟨h1, hk, h⟩

theorem NotYet.none {a : Int} {m : Nat} (hm : 1 ≤ m) (h : NotYet a m (m + 1)) : ¬ Nat.gcd (rs a m) m = 1 := by
  intro hg
  obtain ⟨o, ho, _⟩ := ord_ex hm hg
  exact h o ho.1 (by have := ord_le hm ho; omega) ho.2.1

end Go.Proofs.Ytjpmkcijkcnfiaa.Num13
