/-
  Plain arithmetic: rests, polynomials, fields.
-/
import Derived.Test.YtpnmepobdnclkaaFoldA

namespace Go.Proofs.Ytpnmepobdnclkaa.Num13
set_option linter.unusedVariables false
open Go.Proofs.Ytpnmepobdnclkaa.Num Go.Proofs.Ytpnmepobdnclkaa.Num3 Go.Proofs.Ytpnmepobdnclkaa.Num4 Go.Proofs.Ytpnmepobdnclkaa.Num6 Go.Proofs.Ytpnmepobdnclkaa.Num7 Go.Proofs.Ytpnmepobdnclkaa.Num8

/-- What is left of a number, from 0 on. -/
def rs (a : Int) (m : Nat) : Nat := (a % (m : Int)).toNat

theorem rs_cast (a : Int) {m : Nat} (hm : 1 ≤ m) : ((rs a m : Nat) : Int) = a % (m : Int) := by
  unfold rs
  rw [Int.toNat_of_nonneg (Int.emod_nonneg _ (by omega))]

theorem rs_lt (a : Int) {m : Nat} (hm : 1 ≤ m) : rs a m < m := by
  have h := rs_cast a hm
  have h2 := Int.emod_lt_of_pos a (show (0 : Int) < (m : Int) by omega)
  omega

theorem rs_nat (x m : Nat) : rs (x : Int) m = x % m := by
  unfold rs
  rw [show (x : Int) % (m : Int) = ((x % m : Nat) : Int) by simp, Int.toNat_natCast]

theorem rs_mod (a : Int) {m : Nat} (hm : 1 ≤ m) : rs a m % m = rs a m := Nat.mod_eq_of_lt (rs_lt a hm)

theorem rs_gcd (a : Int) {m : Nat} (hm : 1 ≤ m) : Int.gcd a (m : Int) = Nat.gcd (rs a m) m := by
  have e1 : a = a % (m : Int) + (m : Int) * (a / (m : Int)) := by have := Int.emod_add_mul_ediv a (m : Int); omega
  rw [← Int.gcd_natCast_natCast, rs_cast a hm]
  conv => lhs; rw [e1]
  rw [Int.gcd_add_mul_left_left]

/-- What a power leaves. -/
def pw (a : Int) (k m : Nat) : Nat := rs a m ^ k % m

theorem pw_lt (a : Int) (k : Nat) {m : Nat} (hm : 1 ≤ m) : pw a k m < m := Nat.mod_lt _ (by omega)

theorem pw_zero (a : Int) (m : Nat) : pw a 0 m = 1 % m := by simp [pw]

theorem pw_one (a : Int) {m : Nat} (hm : 1 ≤ m) : pw a 1 m = rs a m := by simp [pw, rs_mod a hm]

theorem pw_add (a : Int) (j k m : Nat) : pw a j m * pw a k m % m = pw a (j + k) m := by
  unfold pw
  rw [← Nat.mul_mod, ← Nat.pow_add]

theorem pw_succ (a : Int) (k : Nat) {m : Nat} (hm : 1 ≤ m) : pw a k m * rs a m % m = pw a (k + 1) m := by
  rw [← pw_add, pw_one a hm]

theorem pw_even (a : Int) {k : Nat} (m : Nat) (h : k % 2 = 0) : pw a (k / 2) m * pw a (k / 2) m % m = pw a k m := by
  rw [pw_add]; congr 1; omega

theorem pw_odd (a : Int) {k m : Nat} (hm : 1 ≤ m) (h : k % 2 = 1) : pw a (k / 2) m * pw a (k / 2) m % m * rs a m % m = pw a k m := by
  rw [pw_add, pw_succ a _ hm]; congr 1; omega

theorem sq_step (x k m : Nat) : (x * x % m) ^ k % m = x ^ (2 * k) % m := by
  rw [← Nat.pow_mod, Nat.pow_mul, Nat.pow_two]

theorem raise_even {p s k m t : Nat} (h : p * s ^ k % m = t) (hk : k % 2 = 0) : p * (s * s % m) ^ (k / 2) % m = t := by
  rw [Nat.mul_mod, sq_step, ← Nat.mul_mod, show 2 * (k / 2) = k by omega]
  exact h

theorem raise_odd {p s k m t : Nat} (h : p * s ^ k % m = t) (hk : k % 2 = 1) : p * s % m * (s * s % m) ^ (k / 2) % m = t := by
  rw [Nat.mul_mod, sq_step, Nat.mod_mod, ← Nat.mul_mod, Nat.mul_assoc, ← Nat.pow_succ', show (2 * (k / 2)).succ = k by omega]
  exact h

theorem raise_start (a : Int) (k : Nat) {m : Nat} : 1 % m * rs a m ^ k % m = pw a k m := by
  unfold pw
  rw [Nat.mul_mod, Nat.mod_mod, ← Nat.mul_mod, Nat.one_mul]

theorem raise_end {p s m t : Nat} (hp : p < m) (h : p * s ^ 0 % m = t) : p = t := by
  rw [Nat.pow_zero, Nat.mul_one, Nat.mod_eq_of_lt hp] at h
  exact h

/-! ### when powers are 1 again -/

theorem ord_le {a m o : Nat} (hm : 1 ≤ m) (h : IsOrd a m o) : o ≤ m := by
  obtain ⟨o', h1, h2⟩ := ord_ex hm (cop_of_pow hm h.1 h.2.1)
  rw [h.uniq h1]
  exact Nat.le_trans (Nat.le_of_dvd (tot_pos hm) h2) (tot_le m)

theorem lam_le {m L : Nat} (hm : 1 ≤ m) (h : IsLam m L) : L ≤ m := Nat.le_trans (Nat.le_of_dvd (tot_pos hm) (h.tot hm)) (tot_le m)

theorem ord_dvd_lam {m L a o : Nat} (h : IsLam m L) (ho : IsOrd a m o) : o ∣ L := h.2 a o ho

theorem pw_is_one {a : Int} {m o : Nat} (ho : IsOrd (rs a m) m o) (k : Nat) : pw a k m = 1 % m ↔ o ∣ k := ho.dvd k

/-- Taking primes out: what holds behind some of the primes. -/
def Out (K o : Nat) (l : List (Nat × Nat)) (i k : Nat) : Prop := 1 ≤ k ∧ k ∣ K ∧ o ∣ k ∧ ∀ j, j < i → ¬ (l.getD j (0, 0)).1 * o ∣ k

theorem Out.start {K o : Nat} {l : List (Nat × Nat)} (hK : 1 ≤ K) (ho : o ∣ K) : Out K o l 0 K := ⟨hK, Nat.dvd_refl _, ho, fun j hj => by omega⟩

theorem out_iff {o k p : Nat} (hp : 1 ≤ p) : p * o ∣ k ↔ p ∣ k ∧ o ∣ k / p := by
  constructor
  · intro h
    have h1 : p ∣ k := Nat.dvd_trans (Nat.dvd_mul_right p o) h
    refine ⟨h1, ?_⟩
    obtain ⟨c, rfl⟩ := h
    rw [Nat.mul_assoc, Nat.mul_div_cancel_left _ (by omega)]
    exact Nat.dvd_mul_right _ _
  · rintro ⟨⟨c, rfl⟩, h⟩
    rw [Nat.mul_div_cancel_left _ (by omega)] at h
    exact Nat.mul_dvd_mul_left p h

theorem Out.take {K o : Nat} {l : List (Nat × Nat)} {i k p : Nat} (h : Out K o l i k) (hp : 2 ≤ p) (hd : p ∣ k) (ho : o ∣ k / p) : Out K o l i (k / p) ∧ k / p < k := by
  have h1 : k / p ∣ k := Nat.div_dvd_of_dvd hd
  exact ⟨⟨Nat.div_pos (Nat.le_of_dvd (by have := h.1; omega) hd) (by omega), Nat.dvd_trans h1 h.2.1, ho, fun j hj h2 => h.2.2.2 j hj (Nat.dvd_trans h2 h1)⟩, Nat.div_lt_self (by have := h.1; omega) (by omega)⟩

theorem Out.next {K o : Nat} {l : List (Nat × Nat)} {i k : Nat} (h : Out K o l i k) (hd : ¬ (l.getD i (0, 0)).1 * o ∣ k) : Out K o l (i + 1) k :=
  ⟨h.1, h.2.1, h.2.2.1, fun j hj => by
    by_cases e : j = i
    · subst e; exact hd
    · exact h.2.2.2 j (by omega)⟩

theorem Out.done {K o : Nat} {l : List (Nat × Nat)} {k : Nat} (hF : Fac K l) (h : Out K o l l.length k) : k = o := by
  obtain ⟨t, rfl⟩ := h.2.2.1
  have h1 := h.1
  rcases Nat.lt_or_ge t 2 with ht | ht
  · have : t = 1 := by
      rcases Nat.eq_zero_or_pos t with e | e
      · subst e; simp at h1
      · omega
    subst this; simp
  · exfalso
    obtain ⟨p, hp, hpt, _⟩ := least_prime ht
    have hpK : p ∣ pd l := by rw [hF.2.2]; exact Nat.dvd_trans (Nat.dvd_trans hpt (Nat.dvd_mul_left _ _)) h.2.1
    obtain ⟨x, hx, e⟩ := pr_dvd_pd hp hF.1 hpK
    obtain ⟨j, hj, e2⟩ := List.getElem_of_mem hx
    refine h.2.2.2 j hj ?_
    rw [show l.getD j (0, 0) = x by simp [List.getD, hj, e2], e, Nat.mul_comm]
    exact Nat.mul_dvd_mul_left _ hpt

/-! ### Carmichael's function -/

/-- Of a prime's power. -/
def lamP (p k : Nat) : Nat := if p = 2 ∧ 2 < k then (p - 1) * p ^ (k - 1) / 2 else (p - 1) * p ^ (k - 1)

theorem lamP_ok {p k : Nat} (hp : Pr p) (hk : 1 ≤ k) : IsLam (p ^ k) (lamP p k) := by
  obtain ⟨k, rfl⟩ : ∃ j, k = j + 1 := ⟨k - 1, by omega⟩
  unfold lamP
  by_cases h : p = 2 ∧ 2 < k + 1
  · rw [if_pos h]
    obtain ⟨rfl, h2⟩ := h
    obtain ⟨j, rfl⟩ : ∃ j, k = j + 2 := ⟨k - 2, by omega⟩
    have := lam_eight j
    rw [show (2 - 1) * 2 ^ (j + 2 + 1 - 1) / 2 = 2 ^ (j + 1) by
      rw [show j + 2 + 1 - 1 = (j + 1) + 1 by omega, Nat.pow_succ, Nat.one_mul, Nat.mul_div_cancel _ (by omega)]]
    exact this
  · rw [if_neg h]
    by_cases h2 : p = 2
    · subst h2
      have : k = 0 ∨ k = 1 := by omega
      rcases this with rfl | rfl
      · exact lam_two
      · exact lam_four
    · rw [Nat.add_sub_cancel, Nat.mul_comm]
      exact lam_odd hp h2

theorem lamP_le {p k : Nat} (hp : Pr p) (hk : 1 ≤ k) : lamP p k ≤ p ^ k := lam_le (Nat.pow_pos (by have := hp.1; omega)) (lamP_ok hp hk)

theorem lamP_two {p k : Nat} (h : p = 2 ∧ 2 < k) : lamP p k = (p - 1) * p ^ (k - 1) / 2 := if_pos h

theorem lamP_other {p k : Nat} (h : ¬ (p = 2 ∧ 2 < k)) : lamP p k = (p - 1) * p ^ (k - 1) := if_neg h

theorem inner_bd {p k j : Nat} (hp : 2 ≤ p) (hj : j + 1 ≤ k) (h : p ^ k ≤ 1048576) : (p - 1) * p ^ j ≤ 1048576 := by
  refine Nat.le_trans (Nat.mul_le_mul_right _ (Nat.sub_le p 1)) ?_
  rw [Nat.mul_comm, ← Nat.pow_succ]
  exact Nat.le_trans (Nat.pow_le_pow_right (by omega) hj) h

/-- The first i prime powers. -/
def Lam (l : List (Nat × Nat)) (i L : Nat) : Prop := IsLam (pd (l.take i)) L

theorem Lam.start (l : List (Nat × Nat)) : Lam l 0 1 := lam_one

theorem Lam.next {m : Nat} {l : List (Nat × Nat)} (hF : Fac m l) {i L : Nat} (hi : i < l.length) (h : Lam l i L) : Lam l (i + 1) (Nat.lcm L (lamP (l.getD i (0, 0)).1 (l.getD i (0, 0)).2)) := by
  unfold Lam at *
  rw [pd_take hi]
  obtain ⟨hp, hk⟩ := elem_facts hF hi
  refine IsLam.mul (pd_take_pos hF i) (Nat.pow_pos (by have := hp.1; omega)) h (lamP_ok hp hk) ?_
  apply Nat.Coprime.pow_right
  show Nat.gcd _ _ = 1
  rw [gcd_prime hp]
  intro hd
  obtain ⟨x, hx, e⟩ := pr_dvd_pd hp (fun x hx => hF.1 x (List.mem_of_mem_take hx)) hd
  obtain ⟨j, hj, e2⟩ := List.getElem_of_mem hx
  have hj' : j < i := by simp at hj; omega
  have := List.pairwise_iff_getElem.1 hF.2.1 j i (by omega) hi hj'
  rw [List.getElem_take] at e2
  rw [e2, e] at this
  simp [List.getD, hi] at this

theorem Lam.le {m : Nat} {l : List (Nat × Nat)} (hF : Fac m l) {i L : Nat} (h : Lam l i L) : L ≤ m := Nat.le_trans (lam_le (pd_take_pos hF i) h) (pd_take_le hF i)

theorem Lam.pos {l : List (Nat × Nat)} {i L : Nat} (h : Lam l i L) : 1 ≤ L := IsLam.pos h

theorem Lam.done {m : Nat} {l : List (Nat × Nat)} (hF : Fac m l) {L : Nat} (h : Lam l l.length L) : IsLam m L := by
  unfold Lam at h
  rw [List.take_length, hF.2.2] at h
  exact h

theorem pow_le_of {m : Nat} {l : List (Nat × Nat)} (hF : Fac m l) {i : Nat} (hi : i < l.length) : (l.getD i (0, 0)).1 ^ (l.getD i (0, 0)).2 ≤ m := by
  have h1 := inner_le hF hi (Nat.le_refl _)
  have h2 := pd_take_pos hF i
  have h3 := Nat.mul_le_mul_right ((l.getD i (0, 0)).1 ^ (l.getD i (0, 0)).2) h2
  omega

/-! ### counting up to Carmichael's function -/

/-- The least common multiple of all orders up to y - 1. -/
def Up (m y l : Nat) : Prop := 1 ≤ l ∧ (∀ L, IsLam m L → l ∣ L) ∧ ∀ a o, 1 ≤ a → a < y → IsOrd (a % m) m o → o ∣ l

theorem Up.start (m : Nat) : Up m 1 1 := ⟨Nat.le_refl _, fun L _ => Nat.one_dvd L, fun a o h1 h2 => by omega⟩

theorem Up.skip {m y l : Nat} (hm : 1 ≤ m) (h : Up m y l) (hg : ¬ Nat.gcd (y % m) m = 1) : Up m (y + 1) l :=
  ⟨h.1, h.2.1, fun a o h1 h2 ho => by
    by_cases e : a = y
    · subst e; exact absurd (cop_of_pow hm ho.1 ho.2.1) hg
    · exact h.2.2 a o h1 (by omega) ho⟩

theorem Up.take {m y l o : Nat} (h : Up m y l) (ho : IsOrd (y % m) m o) : Up m (y + 1) (Nat.lcm l o) :=
  ⟨Nat.lcm_pos h.1 ho.1, fun L hL => Nat.lcm_dvd (h.2.1 L hL) (hL.2 _ _ ho), fun a o' h1 h2 ho' => by
    by_cases e : a = y
    · subst e; rw [ho'.uniq ho]; exact Nat.dvd_lcm_right _ _
    · exact Nat.dvd_trans (h.2.2 a o' h1 (by omega) ho') (Nat.dvd_lcm_left _ _)⟩

theorem Up.le {m y l : Nat} (hm : 1 ≤ m) (h : Up m y l) : l ≤ m := by
  obtain ⟨L, hL⟩ := lam_ex hm
  exact Nat.le_trans (Nat.le_of_dvd hL.pos (h.2.1 L hL)) (lam_le hm hL)

/-- Some number from 1 to m takes as long as all. -/
theorem lam_at {m L : Nat} (hm : 1 ≤ m) (h : IsLam m L) : ∃ c, 1 ≤ c ∧ c ≤ m ∧ IsOrd (c % m) m L := by
  obtain ⟨c, hc⟩ := h.1
  have hc2 := isOrd_mod.2 hc
  rcases Nat.eq_zero_or_pos (c % m) with e | e
  · refine ⟨m, hm, Nat.le_refl _, ?_⟩
    rw [Nat.mod_self]; rw [e] at hc2; exact hc2
  · refine ⟨c % m, e, Nat.le_of_lt (Nat.mod_lt _ (by omega)), ?_⟩
    rw [Nat.mod_mod]; exact hc2

theorem Up.done {m l : Nat} (hm : 1 ≤ m) (h : Up m (m + 1) l) : IsLam m l := by
  obtain ⟨L, hL⟩ := lam_ex hm
  obtain ⟨c, h1, h2, hc⟩ := lam_at hm hL
  have e : l = L := Nat.dvd_antisymm (h.2.1 L hL) (h.2.2 c L h1 (by omega) hc)
  rw [e]; exact hL

/-- Counting one by one: not 1 again so far. -/
def NotYet (a : Int) (m k : Nat) : Prop := ∀ j, 1 ≤ j → j < k → ¬ pw a j m = 1 % m

theorem NotYet.start (a : Int) (m : Nat) : NotYet a m 1 := fun j h1 h2 => by omega

theorem NotYet.next {a : Int} {m k : Nat} (h : NotYet a m k) (hk : ¬ pw a k m = 1 % m) : NotYet a m (k + 1) := fun j h1 h2 => by
  by_cases e : j = k
  · subst e; exact hk
  · exact h j h1 (by omega)

theorem NotYet.found {a : Int} {m k : Nat} (h : NotYet a m k) (h1 : 1 ≤ k) (hk : pw a k m = 1 % m) : IsOrd (rs a m) m k := ⟨h1, hk, h⟩

theorem NotYet.none {a : Int} {m : Nat} (hm : 1 ≤ m) (h : NotYet a m (m + 1)) : ¬ Nat.gcd (rs a m) m = 1 := by
  intro hg
  obtain ⟨o, ho, _⟩ := ord_ex hm hg
  exact h o ho.1 (by have := ord_le hm ho; omega) ho.2.1

end Go.Proofs.Ytpnmepobdnclkaa.Num13

namespace Go.Proofs.Ytpnmepobdnclkaa.Num16
set_option linter.unusedVariables false
open Go.Proofs.Ytpnmepobdnclkaa.Num Go.Proofs.Ytpnmepobdnclkaa.Num7

/-- What stands at a place; 0 beyond. -/
def co (l : List Int) (i : Nat) : Int := l.getD i 0

theorem co_nil (i : Nat) : co [] i = 0 := by simp [co]
theorem co_zero (x : Int) (l : List Int) : co (x :: l) 0 = x := by simp [co]
theorem co_succ (x : Int) (l : List Int) (i : Nat) : co (x :: l) (i + 1) = co l i := by simp [co]
theorem co_over {l : List Int} {i : Nat} (h : l.length ≤ i) : co l i = 0 := by simp [co, List.getD, h]
theorem co_mem {l : List Int} {i : Nat} (h : i < l.length) : co l i ∈ l := by simp [co, List.getD, h]

/-- The same at all places. -/
def Eqv (a b : List Int) : Prop := ∀ i, co a i = co b i

theorem Eqv.refl (a : List Int) : Eqv a a := fun _ => rfl
theorem Eqv.symm {a b : List Int} (h : Eqv a b) : Eqv b a := fun i => (h i).symm
theorem Eqv.trans {a b c : List Int} (h : Eqv a b) (k : Eqv b c) : Eqv a c := fun i => (h i).trans (k i)

theorem eqv_cons {x y : Int} {a b : List Int} (h : x = y) (k : Eqv a b) : Eqv (x :: a) (y :: b)
  | 0 => by rw [co_zero, co_zero]; exact h
  | i + 1 => by rw [co_succ, co_succ]; exact k i

theorem eqv_tail {x y : Int} {a b : List Int} (k : Eqv (x :: a) (y :: b)) : x = y ∧ Eqv a b :=
  ⟨by have := k 0; rwa [co_zero, co_zero] at this, fun i => by have := k (i + 1); rwa [co_succ, co_succ] at this⟩

theorem eqv_nil_cons {x : Int} {a : List Int} : Eqv [] (x :: a) ↔ x = 0 ∧ Eqv [] a := by
  constructor
  · intro h
    refine ⟨?_, fun i => ?_⟩
    · have := h 0; rw [co_nil, co_zero] at this; exact this.symm
    · have := h (i + 1); rw [co_nil, co_succ] at this; rw [co_nil]; exact this
  · rintro ⟨rfl, h⟩ i
    match i with
    | 0 => rw [co_nil, co_zero]
    | i + 1 => rw [co_nil, co_succ, ← h i, co_nil]

def padd : List Int → List Int → List Int
  | [], b => b
  | a, [] => a
  | x :: a, y :: b => (x + y) :: padd a b

theorem padd_nil (a : List Int) : padd a [] = a := by cases a <;> rfl

theorem co_padd : ∀ (a b : List Int) (i : Nat), co (padd a b) i = co a i + co b i
  | [], b, i => by simp [padd, co_nil]
  | x :: a, [], i => by simp [padd, co_nil]
  | x :: a, y :: b, 0 => by simp [padd, co_zero]
  | x :: a, y :: b, i + 1 => by simp only [padd, co_succ]; exact co_padd a b i

theorem padd_length : ∀ a b : List Int, (padd a b).length = max a.length b.length
  | [], b => by simp [padd]
  | x :: a, [] => by simp [padd]
  | x :: a, y :: b => by simp [padd, padd_length a b]

def psc (k : Int) (a : List Int) : List Int := a.map (k * ·)

theorem co_psc (k : Int) (a : List Int) (i : Nat) : co (psc k a) i = k * co a i := by
  simp only [co, psc, List.getD, List.getElem?_map]
  cases a[i]? <;> simp

def pneg (a : List Int) : List Int := psc (-1) a

theorem co_pneg (a : List Int) (i : Nat) : co (pneg a) i = -co a i := by
  unfold pneg; rw [co_psc]; omega

def pmul : List Int → List Int → List Int
  | [], _ => []
  | x :: a, b => padd (psc x b) (0 :: pmul a b)

theorem padd_eqv {a a' b b' : List Int} (h : Eqv a a') (k : Eqv b b') : Eqv (padd a b) (padd a' b') := fun i => by rw [co_padd, co_padd, h i, k i]
theorem psc_eqv {k : Int} {a a' : List Int} (h : Eqv a a') : Eqv (psc k a) (psc k a') := fun i => by rw [co_psc, co_psc, h i]
theorem sh_eqv {a a' : List Int} (h : Eqv a a') : Eqv (0 :: a) (0 :: a') := eqv_cons rfl h

theorem padd_comm (a b : List Int) : Eqv (padd a b) (padd b a) := fun i => by rw [co_padd, co_padd]; omega
theorem padd_assoc (a b c : List Int) : Eqv (padd (padd a b) c) (padd a (padd b c)) := fun i => by simp only [co_padd]; omega
theorem padd_swap (a b c d : List Int) : Eqv (padd (padd a b) (padd c d)) (padd (padd a c) (padd b d)) := fun i => by simp only [co_padd]; omega

theorem sh_padd (a b : List Int) : Eqv (0 :: padd a b) (padd (0 :: a) (0 :: b)) := fun i => by
  match i with
  | 0 => simp [co_padd, co_zero]
  | i + 1 => simp only [co_padd, co_succ]

theorem sh_psc (k : Int) (a : List Int) : Eqv (0 :: psc k a) (psc k (0 :: a)) := fun i => by
  match i with
  | 0 => simp [co_psc, co_zero]
  | i + 1 => simp only [co_psc, co_succ]

theorem zero_psc (b : List Int) : Eqv (psc 0 b) [] := fun i => by rw [co_psc, co_nil]; omega

theorem sh_nil : Eqv [0] [] := fun i => by
  match i with
  | 0 => rfl
  | i + 1 => rw [co_succ, co_nil, co_nil]

theorem pmul_left_nil {a : List Int} (h : Eqv [] a) (b : List Int) : Eqv [] (pmul a b) := by
  induction a with
  | nil => exact Eqv.refl _
  | cons x a ih =>
    obtain ⟨rfl, h2⟩ := eqv_nil_cons.1 h
    intro i
    simp only [pmul]
    rw [co_padd, co_psc, co_nil]
    match i with
    | 0 => rw [co_zero]; omega
    | i + 1 => rw [co_succ, ← ih h2 i, co_nil]; omega

theorem pmul_eqv_left {a a' : List Int} (b : List Int) (h : Eqv a a') : Eqv (pmul a b) (pmul a' b) := by
  induction a generalizing a' with
  | nil => exact pmul_left_nil h b
  | cons x a ih =>
    cases a' with
    | nil => exact (pmul_left_nil h.symm b).symm
    | cons y a' =>
      obtain ⟨rfl, h2⟩ := eqv_tail h
      exact padd_eqv (Eqv.refl _) (sh_eqv (ih h2))

theorem pmul_eqv_right (a : List Int) {b b' : List Int} (h : Eqv b b') : Eqv (pmul a b) (pmul a b') := by
  induction a with
  | nil => exact Eqv.refl _
  | cons x a ih => exact padd_eqv (psc_eqv h) (sh_eqv ih)

theorem pmul_eqv {a a' b b' : List Int} (h : Eqv a a') (k : Eqv b b') : Eqv (pmul a b) (pmul a' b') := (pmul_eqv_left b h).trans (pmul_eqv_right a' k)

theorem psc_padd (k : Int) (a b : List Int) : Eqv (psc k (padd a b)) (padd (psc k a) (psc k b)) := fun i => by
  simp only [co_psc, co_padd, Int.mul_add]

theorem psc_psc (k j : Int) (a : List Int) : Eqv (psc k (psc j a)) (psc (k * j) a) := fun i => by
  simp only [co_psc, Int.mul_assoc]

theorem psc_add (k j : Int) (a : List Int) : Eqv (psc (k + j) a) (padd (psc k a) (psc j a)) := fun i => by
  simp only [co_psc, co_padd, Int.add_mul]

theorem pmul_psc (k : Int) (a b : List Int) : Eqv (pmul (psc k a) b) (psc k (pmul a b)) := by
  induction a with
  | nil => exact Eqv.refl _
  | cons x a ih =>
    show Eqv (padd (psc (k * x) b) (0 :: pmul (psc k a) b)) (psc k (padd (psc x b) (0 :: pmul a b)))
    refine (padd_eqv (psc_psc k x b).symm ((sh_eqv ih).trans (sh_psc k _))).trans (psc_padd k _ _).symm

theorem pmul_padd (a b c : List Int) : Eqv (pmul (padd a b) c) (padd (pmul a c) (pmul b c)) := by
  induction a generalizing b with
  | nil => exact Eqv.refl _
  | cons x a ih =>
    cases b with
    | nil => rw [padd_nil]; simp only [pmul]; rw [padd_nil]; exact Eqv.refl _
    | cons y b =>
      show Eqv (padd (psc (x + y) c) (0 :: pmul (padd a b) c)) (padd (padd (psc x c) (0 :: pmul a c)) (padd (psc y c) (0 :: pmul b c)))
      exact (padd_eqv (psc_add x y c) ((sh_eqv (ih b)).trans (sh_padd _ _))).trans (padd_swap _ _ _ _)

theorem pmul_sh (a b : List Int) : Eqv (pmul (0 :: a) b) (0 :: pmul a b) := by
  show Eqv (padd (psc 0 b) (0 :: pmul a b)) _
  exact padd_eqv (zero_psc b) (Eqv.refl _)

theorem pmul_assoc (a b c : List Int) : Eqv (pmul (pmul a b) c) (pmul a (pmul b c)) := by
  induction a with
  | nil => exact Eqv.refl _
  | cons x a ih =>
    show Eqv (pmul (padd (psc x b) (0 :: pmul a b)) c) (padd (psc x (pmul b c)) (0 :: pmul a (pmul b c)))
    exact (pmul_padd _ _ _).trans (padd_eqv (pmul_psc _ _ _) ((pmul_sh _ _).trans (sh_eqv ih)))

theorem pmul_cons (a : List Int) (y : Int) (b : List Int) : Eqv (pmul a (y :: b)) (padd (psc y a) (0 :: pmul a b)) := by
  induction a with
  | nil => intro i; simp only [pmul, psc, List.map_nil, padd]; exact (sh_nil i).symm
  | cons x a ih =>
    intro i
    have e1 : co (pmul (x :: a) (y :: b)) i = co (psc x (y :: b)) i + co (0 :: pmul a (y :: b)) i := co_padd _ _ _
    rw [e1, co_padd]
    match i with
    | 0 => simp only [co_psc, co_zero]; rw [Int.mul_comm]
    | i + 1 =>
      have e2 : co (pmul (x :: a) b) i = co (psc x b) i + co (0 :: pmul a b) i := co_padd _ _ _
      simp only [co_psc, co_succ] at *
      rw [ih i, e2, co_padd, co_psc]
      omega

theorem pmul_nil (a : List Int) : Eqv (pmul a []) [] := by
  induction a with
  | nil => exact Eqv.refl _
  | cons x a ih => exact (padd_eqv (Eqv.refl (psc x [])) ((sh_eqv ih).trans sh_nil)).trans (Eqv.refl _)

theorem pmul_comm (a b : List Int) : Eqv (pmul a b) (pmul b a) := by
  induction a with
  | nil => exact (pmul_nil b).symm
  | cons x a ih =>
    exact (padd_eqv (Eqv.refl _) (sh_eqv ih)).trans (pmul_cons b x a).symm

theorem pmul_padd_right (a b c : List Int) : Eqv (pmul a (padd b c)) (padd (pmul a b) (pmul a c)) :=
  (pmul_comm _ _).trans ((pmul_padd b c a).trans (padd_eqv (pmul_comm _ _) (pmul_comm _ _)))

theorem pmul_one (a : List Int) : Eqv (pmul a [1]) a := by
  refine (pmul_cons a 1 []).trans ?_
  intro i
  rw [co_padd, co_psc, (sh_eqv (pmul_nil a)) i, sh_nil i, co_nil]; omega

/-! ### place by place -/

def sm (f : Nat → Int) : Nat → Int
  | 0 => f 0
  | k + 1 => sm f k + f (k + 1)

theorem sm_congr {f g : Nat → Int} : ∀ {k : Nat}, (∀ i, i ≤ k → f i = g i) → sm f k = sm g k
  | 0, h => h 0 (Nat.le_refl _)
  | k + 1, h => by simp only [sm]; rw [sm_congr (fun i hi => h i (by omega)), h (k + 1) (Nat.le_refl _)]

theorem sm_front (f : Nat → Int) : ∀ k, sm f (k + 1) = f 0 + sm (fun i => f (i + 1)) k
  | 0 => rfl
  | k + 1 => by
    show sm f (k + 1) + f (k + 2) = f 0 + (sm (fun i => f (i + 1)) k + f (k + 2))
    rw [sm_front f k]; omega

theorem sm_zero {f : Nat → Int} : ∀ {k : Nat}, (∀ i, i ≤ k → f i = 0) → sm f k = 0
  | 0, h => h 0 (Nat.le_refl _)
  | k + 1, h => by simp only [sm]; rw [sm_zero (fun i hi => h i (by omega)), h (k + 1) (Nat.le_refl _)]; rfl

theorem co_pmul (a b : List Int) : ∀ k, co (pmul a b) k = sm (fun i => co a i * co b (k - i)) k := by
  induction a with
  | nil => intro k; rw [sm_zero (fun i hi => by rw [co_nil]; omega)]; exact co_nil k
  | cons x a ih =>
    intro k
    have e : co (pmul (x :: a) b) k = co (psc x b) k + co (0 :: pmul a b) k := co_padd _ _ _
    rw [e, co_psc]
    match k with
    | 0 => simp [sm, co_zero]
    | k + 1 =>
      rw [sm_front, co_succ, co_zero, ih k]
      congr 1
      exact sm_congr (fun i hi => by rw [co_succ]; congr 2; omega)

theorem pmul_length : ∀ (a b : List Int), b ≠ [] → a ≠ [] → (pmul a b).length = a.length + b.length - 1
  | [], b, _, h => absurd rfl h
  | x :: a, b, hb, _ => by
    have hb1 : 1 ≤ b.length := by cases b with
      | nil => exact absurd rfl hb
      | cons y b => simp
    simp only [pmul]
    rw [padd_length, List.length_cons, List.length_cons]
    cases a with
    | nil => simp [psc, pmul]; omega
    | cons y a => rw [pmul_length (y :: a) b hb (by simp)]; simp [psc]; omega

/-- The last place of a product. -/
theorem co_top {a b : List Int} {m n : Nat} (ha : a.length ≤ m + 1) (hb : b.length ≤ n + 1) : co (pmul a b) (m + n) = co a m * co b n := by
  rw [co_pmul]
  have key : ∀ k, m ≤ k → k ≤ m + n → sm (fun i => co a i * co b (m + n - i)) k = co a m * co b n := by
    intro k
    induction k with
    | zero =>
      intro h1 _
      have : m = 0 := by omega
      subst this
      simp [sm]
    | succ k ih =>
      intro h1 h2
      simp only [sm]
      by_cases e : m = k + 1
      · subst e
        rw [sm_zero (fun i hi => by rw [co_over (l := b) (by omega)]; omega)]
        rw [show k + 1 + n - (k + 1) = n by omega]; omega
      · have h0 : co a (k + 1) = 0 := co_over (by omega)
        rw [ih (by omega) (by omega), h0, Int.zero_mul, Int.add_zero]
  exact key (m + n) (by omega) (Nat.le_refl _)

theorem ev_padd (x : Int) : ∀ a b : List Int, ev (padd a b) x = ev a x + ev b x
  | [], b => by simp [padd, ev]
  | y :: a, [] => by simp [padd, ev]
  | y :: a, z :: b => by simp only [padd, ev]; rw [ev_padd x a b, Int.mul_add]; omega

theorem ev_psc (x k : Int) : ∀ a : List Int, ev (psc k a) x = k * ev a x
  | [] => by simp [psc, ev]
  | y :: a => by
    show k * y + x * ev (psc k a) x = k * (y + x * ev a x)
    rw [ev_psc x k a, Int.mul_add, Int.mul_left_comm]

theorem ev_pmul (x : Int) : ∀ a b : List Int, ev (pmul a b) x = ev a x * ev b x
  | [], b => by simp [pmul, ev]
  | y :: a, b => by
    show ev (padd (psc y b) (0 :: pmul a b)) x = (y + x * ev a x) * ev b x
    rw [ev_padd, ev_psc]
    show y * ev b x + (0 + x * ev (pmul a b) x) = _
    rw [ev_pmul x a b, Int.add_mul, Int.zero_add, Int.mul_assoc]

end Go.Proofs.Ytpnmepobdnclkaa.Num16

namespace Go.Proofs.Ytpnmepobdnclkaa.Num17
set_option linter.unusedVariables false
open Go.Proofs.Ytpnmepobdnclkaa.Num Go.Proofs.Ytpnmepobdnclkaa.Num7 Go.Proofs.Ytpnmepobdnclkaa.Num16

theorem cong_mul {n a b c d : Int} (h1 : n ∣ a - b) (h2 : n ∣ c - d) : n ∣ a * c - b * d := by
  have e : a * c - b * d = (a - b) * c + b * (c - d) := by rw [Int.sub_mul, Int.mul_sub]; omega
  rw [e]
  exact Int.dvd_add (Int.dvd_mul_of_dvd_left h1) (Int.dvd_mul_of_dvd_right h2)

theorem cong_add {n a b c d : Int} (h1 : n ∣ a - b) (h2 : n ∣ c - d) : n ∣ (a + c) - (b + d) := by
  have := Int.dvd_add h1 h2
  rwa [show a - b + (c - d) = a + c - (b + d) by omega] at this

theorem cong_tr {n a b c : Int} (h1 : n ∣ a - b) (h2 : n ∣ b - c) : n ∣ a - c := by
  have := Int.dvd_add h1 h2
  rwa [show a - b + (b - c) = a - c by omega] at this

theorem cong_sy {n a b : Int} (h : n ∣ a - b) : n ∣ b - a := by
  have := (Int.dvd_neg).2 h
  rwa [show -(a - b) = b - a by omega] at this

/-- The same by p, at all places. -/
def Q (p : Nat) (a b : List Int) : Prop := ∀ i, (p : Int) ∣ co a i - co b i

theorem Q.refl (p : Nat) (a : List Int) : Q p a a := fun i => by simp
theorem Q.symm {p : Nat} {a b : List Int} (h : Q p a b) : Q p b a := fun i => cong_sy (h i)
theorem Q.trans {p : Nat} {a b c : List Int} (h : Q p a b) (k : Q p b c) : Q p a c := fun i => cong_tr (h i) (k i)
theorem Eqv.q {p : Nat} {a b : List Int} (h : Eqv a b) : Q p a b := fun i => by rw [h i]; simp

theorem Q.padd {p : Nat} {a a' b b' : List Int} (h : Q p a a') (k : Q p b b') : Q p (padd a b) (padd a' b') := fun i => by
  rw [co_padd, co_padd]; exact cong_add (h i) (k i)

theorem Q.psc {p : Nat} {a a' : List Int} {k k' : Int} (hk : (p : Int) ∣ k - k') (h : Q p a a') : Q p (psc k a) (psc k' a') := fun i => by
  rw [co_psc, co_psc]; exact cong_mul hk (h i)

theorem sm_cong {n : Int} {f g : Nat → Int} : ∀ {k : Nat}, (∀ i, i ≤ k → n ∣ f i - g i) → n ∣ sm f k - sm g k
  | 0, h => h 0 (Nat.le_refl _)
  | k + 1, h => cong_add (sm_cong (fun i hi => h i (by omega))) (h (k + 1) (Nat.le_refl _))

theorem Q.pmul {p : Nat} {a a' b b' : List Int} (h : Q p a a') (k : Q p b b') : Q p (pmul a b) (pmul a' b') := fun i => by
  rw [co_pmul, co_pmul]
  exact sm_cong (fun j _ => cong_mul (h j) (k (i - j)))

/-! ### the one form -/

/-- Numbers from 0 to p - 1, the last one of which is not 0. -/
def Cn (p : Nat) (l : List Int) : Prop := (∀ x ∈ l, 0 ≤ x ∧ x < (p : Int)) ∧ (l ≠ [] → co l (l.length - 1) ≠ 0)

theorem Cn.nil (p : Nat) : Cn p [] := ⟨by simp, fun h => absurd rfl h⟩

theorem Cn.bd {p : Nat} {l : List Int} (hp : 1 ≤ p) (h : Cn p l) (i : Nat) : 0 ≤ co l i ∧ co l i < (p : Int) := by
  by_cases hi : i < l.length
  · exact h.1 _ (co_mem hi)
  · rw [co_over (by omega)]; omega

theorem small_of {p : Nat} {x y : Int} (h : (p : Int) ∣ x - y) (hx : 0 ≤ x ∧ x < (p : Int)) (hy : 0 ≤ y ∧ y < (p : Int)) : x = y := by
  obtain ⟨c, hc⟩ := h
  have : c = 0 := by
    rcases Int.lt_trichotomy c 0 with h0 | h0 | h0
    · have : (p : Int) * c ≤ (p : Int) * (-1) := Int.mul_le_mul_of_nonneg_left (by omega) (by omega)
      omega
    · exact h0
    · have : (p : Int) * 1 ≤ (p : Int) * c := Int.mul_le_mul_of_nonneg_left (by omega) (by omega)
      omega
  subst this
  omega

theorem Cn.len_le {p : Nat} {c : List Int} (hp : 1 ≤ p) (hc : Cn p c) {k : Nat} (h : ∀ i, k ≤ i → (p : Int) ∣ co c i) : c.length ≤ k := by
  rcases Nat.lt_or_ge k c.length with hk | hk
  · exfalso
    have h1 := h (c.length - 1) (by omega)
    have h2 := hc.bd hp (c.length - 1)
    have h3 : co c (c.length - 1) = 0 := small_of (y := 0) (by simpa using h1) h2 ⟨by omega, by omega⟩
    exact hc.2 (by intro e; subst e; simp at hk) h3
  · exact hk

theorem len_gt {p : Nat} {c : List Int} {i : Nat} (h : ¬ (p : Int) ∣ co c i) : i < c.length := by
  rcases Nat.lt_or_ge i c.length with hk | hk
  · exact hk
  · rw [co_over hk] at h; simp at h

theorem Cn.top {p : Nat} {c : List Int} (hp : 1 ≤ p) (hc : Cn p c) (hne : c ≠ []) : ¬ (p : Int) ∣ co c (c.length - 1) := fun h =>
  hc.2 hne (small_of (y := 0) (by simpa using h) (hc.bd hp _) ⟨by omega, by omega⟩)

theorem Cn.uniq {p : Nat} {a b : List Int} (hp : 1 ≤ p) (ha : Cn p a) (hb : Cn p b) (h : Q p a b) : a = b := by
  have e : ∀ i, co a i = co b i := fun i => small_of (h i) (ha.bd hp i) (hb.bd hp i)
  have hl : a.length = b.length := by
    have h1 : a.length ≤ b.length := ha.len_le hp (fun i hi => by rw [e i, co_over hi]; simp)
    have h2 : b.length ≤ a.length := hb.len_le hp (fun i hi => by rw [← e i, co_over hi]; simp)
    omega
  refine List.ext_getElem hl (fun i h1 h2 => ?_)
  have := e i
  simpa [co, List.getD, h1, h2] using this

/-- Zeros at the end are left out. -/
def tr : List Int → List Int
  | [] => []
  | x :: xs => if x = 0 ∧ tr xs = [] then [] else x :: tr xs

theorem co_tr : ∀ (l : List Int) (i : Nat), co (tr l) i = co l i
  | [], i => rfl
  | x :: xs, i => by
    unfold tr
    by_cases h : x = 0 ∧ tr xs = []
    · rw [if_pos h]
      match i with
      | 0 => rw [co_nil, co_zero]; exact h.1.symm
      | i + 1 => rw [co_nil, co_succ, ← co_tr xs i, h.2, co_nil]
    · rw [if_neg h]
      match i with
      | 0 => rw [co_zero, co_zero]
      | i + 1 => rw [co_succ, co_succ]; exact co_tr xs i

theorem tr_last : ∀ (l : List Int), tr l ≠ [] → co (tr l) ((tr l).length - 1) ≠ 0
  | [], h => absurd rfl h
  | x :: xs, h => by
    unfold tr at h ⊢
    by_cases hx : x = 0 ∧ tr xs = []
    · rw [if_pos hx] at h; exact absurd rfl h
    · rw [if_neg hx] at h ⊢
      cases ht : tr xs with
      | nil =>
        rw [ht] at hx
        simp only [List.length_cons, List.length_nil, Nat.zero_add, Nat.sub_self]
        rw [co_zero]
        intro e; exact hx ⟨e, rfl⟩
      | cons y ys =>
        have ih := tr_last xs (by rw [ht]; simp)
        rw [ht] at ih
        simp only [List.length_cons, Nat.add_sub_cancel] at ih ⊢
        rw [co_succ]; exact ih

theorem tr_mem {x : Int} : ∀ (l : List Int), x ∈ tr l → x ∈ l
  | [], h => h
  | y :: ys, h => by
    unfold tr at h
    by_cases hx : y = 0 ∧ tr ys = []
    · rw [if_pos hx] at h; simp at h
    · rw [if_neg hx] at h
      rcases List.mem_cons.1 h with e | e
      · exact List.mem_cons.2 (.inl e)
      · exact List.mem_cons.2 (.inr (tr_mem ys e))

theorem tr_length : ∀ (l : List Int), (tr l).length ≤ l.length
  | [] => Nat.le_refl _
  | y :: ys => by
    unfold tr
    split
    · simp
    · simp; exact tr_length ys

/-- The one form of a list by p. -/
def nm (p : Nat) (l : List Int) : List Int := tr (l.map (· % (p : Int)))

theorem nm_q {p : Nat} (hp : 1 ≤ p) (l : List Int) : Q p (nm p l) l := fun i => by
  unfold nm
  rw [co_tr]
  have : co (l.map (· % (p : Int))) i = co l i % (p : Int) := by
    simp only [co, List.getD, List.getElem?_map]
    cases l[i]? <;> simp
  rw [this]
  exact ⟨-(co l i / (p : Int)), by rw [Int.emod_def]; rw [Int.mul_neg]; omega⟩

theorem nm_cn {p : Nat} (hp : 1 ≤ p) (l : List Int) : Cn p (nm p l) := by
  refine ⟨fun x hx => ?_, fun h => tr_last _ h⟩
  obtain ⟨y, _, rfl⟩ := List.mem_map.1 (tr_mem _ hx)
  exact ⟨Int.emod_nonneg _ (by omega), Int.emod_lt_of_pos _ (by omega)⟩

theorem nm_length (p : Nat) (l : List Int) : (nm p l).length ≤ l.length := by
  have := tr_length (l.map (· % (p : Int)))
  simpa [nm] using this

theorem nm_eq {p : Nat} (hp : 1 ≤ p) {a b : List Int} (h : Q p a b) : nm p a = nm p b :=
  (nm_cn hp a).uniq hp (nm_cn hp b) ((nm_q hp a).trans (h.trans (nm_q hp b).symm))

theorem nm_self {p : Nat} (hp : 1 ≤ p) {a : List Int} (h : Cn p a) : nm p a = a := (nm_cn hp a).uniq hp h (nm_q hp a)

theorem nm_of {p : Nat} (hp : 1 ≤ p) {a b : List Int} (h : Cn p a) (hq : Q p a b) : nm p b = a := (nm_cn hp b).uniq hp h ((nm_q hp b).trans hq.symm)

/-- Numbers in bounds, zeros left out: the one form. -/
theorem tr_cn {p : Nat} {l : List Int} (h : ∀ x ∈ l, 0 ≤ x ∧ x < (p : Int)) : Cn p (tr l) := ⟨fun x hx => h x (tr_mem _ hx), tr_last l⟩

theorem tr_q (p : Nat) (l : List Int) : Q p (tr l) l := fun i => by rw [co_tr]; simp

/-! ### products -/

theorem top_mul {p : Nat} (hp : Pr p) {a b : List Int} (ha : Cn p a) (hb : Cn p b) (na : a ≠ []) (nb : b ≠ []) : ¬ (p : Int) ∣ co (pmul a b) ((a.length - 1) + (b.length - 1)) := by
  have hp1 := hp.1
  rw [co_top (by omega) (by omega)]
  intro h
  rcases int_dvd_mul hp h with h | h
  · exact ha.top (by omega) na h
  · exact hb.top (by omega) nb h

theorem pos_of_ne {a : List Int} (h : a ≠ []) : 1 ≤ a.length := by
  cases a with
  | nil => exact absurd rfl h
  | cons x a => simp

theorem mul_len {p : Nat} (hp : Pr p) {a b : List Int} (ha : Cn p a) (hb : Cn p b) (na : a ≠ []) (nb : b ≠ []) : (nm p (pmul a b)).length = a.length + b.length - 1 := by
  have hp1 := hp.1
  have hq := nm_q (p := p) (by omega) (pmul a b)
  have la := pos_of_ne na
  have lb := pos_of_ne nb
  have h1 : (a.length - 1) + (b.length - 1) < (nm p (pmul a b)).length := len_gt (p := p) (fun h => top_mul hp ha hb na nb (by
    have := Int.dvd_sub h (hq ((a.length - 1) + (b.length - 1)))
    rwa [show ∀ x y : Int, x - (x - y) = y from fun x y => by omega] at this))
  have h2 := nm_length p (pmul a b)
  rw [pmul_length a b nb na] at h2
  omega

/-- Quotient and rest are the only ones. -/
theorem div_uniq {p : Nat} (hp : Pr p) {b q r q' r' : List Int} (hb : Cn p b) (nb : b ≠ []) (hq : Cn p q) (hr : Cn p r) (hq' : Cn p q') (hr' : Cn p r') (l1 : r.length < b.length) (l2 : r'.length < b.length)
    (h : Q p (padd (pmul q b) r) (padd (pmul q' b) r')) : q = q' ∧ r = r' := by
  have hp1 := hp.1
  obtain ⟨s, hs⟩ : ∃ s, nm p (padd q (pneg q')) = s := ⟨_, rfl⟩
  have cs : Cn p s := by rw [← hs]; exact nm_cn (by omega) _
  have qs : Q p s (padd q (pneg q')) := by rw [← hs]; exact nm_q (by omega) _
  have key : ∀ i, (p : Int) ∣ co (pmul s b) i - (co r' i - co r i) := fun i => by
    have e1 := (qs.pmul (Q.refl p b)) i
    have e2 : co (pmul (padd q (pneg q')) b) i = co (pmul q b) i - co (pmul q' b) i := by
      rw [(pmul_padd q (pneg q') b) i, co_padd, show co (pmul (pneg q') b) i = _ from (pmul_psc (-1) q' b) i, co_psc]; omega
    rw [e2] at e1
    have e3 := h i
    rw [co_padd, co_padd] at e3
    have := Int.dvd_add e1 e3
    rwa [show co (pmul s b) i - (co (pmul q b) i - co (pmul q' b) i) + (co (pmul q b) i + co r i - (co (pmul q' b) i + co r' i)) = co (pmul s b) i - (co r' i - co r i) by omega] at this
  have s0 : s = [] := by
    rcases Classical.em (s = []) with e | ns
    · exact e
    · exfalso
      have lb := pos_of_ne nb
      have k := key ((s.length - 1) + (b.length - 1))
      rw [co_over (l := r) (by omega), co_over (l := r') (by omega)] at k
      exact top_mul hp cs hb ns nb (by simpa using k)
  subst s0
  have e1 : Q p q q' := fun i => by
    have := qs i
    rw [co_nil, co_padd, co_pneg] at this
    have h2 := cong_sy this
    rwa [show co q i + -co q' i - 0 = co q i - co q' i by omega] at h2
  have e2 : Q p r r' := fun i => by
    have := key i
    have h0 : co (pmul [] b) i = 0 := co_nil i
    rw [h0] at this
    have h2 := this
    rwa [show (0 : Int) - (co r' i - co r i) = co r i - co r' i by omega] at h2
  exact ⟨hq.uniq (by omega) hq' e1, hr.uniq (by omega) hr' e2⟩

/-! ### what divides -/

def Dv (p : Nat) (d a : List Int) : Prop := ∃ c, Q p (pmul d c) a

theorem Dv.q {p : Nat} {d a a' : List Int} (h : Dv p d a) (k : Q p a a') : Dv p d a' := by
  obtain ⟨c, hc⟩ := h; exact ⟨c, hc.trans k⟩

theorem Dv.add {p : Nat} {d a b : List Int} (h : Dv p d a) (k : Dv p d b) : Dv p d (padd a b) := by
  obtain ⟨c, hc⟩ := h
  obtain ⟨e, he⟩ := k
  exact ⟨padd c e, (Eqv.q (pmul_padd_right d c e)).trans (hc.padd he)⟩

theorem Dv.mul {p : Nat} {d a : List Int} (h : Dv p d a) (q : List Int) : Dv p d (pmul q a) := by
  obtain ⟨c, hc⟩ := h
  refine ⟨pmul c q, (Eqv.q (pmul_assoc d c q)).symm.trans ((hc.pmul (Q.refl p q)).trans (Eqv.q (pmul_comm a q)))⟩

theorem Dv.nil (p : Nat) (d : List Int) : Dv p d [] := ⟨[], Eqv.q (pmul_nil d)⟩

theorem Dv.self (p : Nat) (d : List Int) : Dv p d d := ⟨[1], Eqv.q (pmul_one d)⟩

theorem Dv.trans {p : Nat} {d a b : List Int} (h : Dv p d a) (k : Dv p a b) : Dv p d b := by
  obtain ⟨c, hc⟩ := k
  exact ((h.mul c).q (Eqv.q (pmul_comm c a))).q hc

theorem Dv.cong {p : Nat} {d d' a : List Int} (h : Dv p d a) (k : Q p d d') : Dv p d' a := by
  obtain ⟨c, hc⟩ := h
  exact ⟨c, (k.symm.pmul (Q.refl p c)).trans hc⟩

theorem pmul_one_left (a : List Int) : Eqv (pmul [-1] a) (pneg a) := fun i => by
  have : co (pmul [-1] a) i = co (psc (-1) a) i + co [0] i := co_padd _ _ _
  rw [this, sh_nil i, co_nil]; show _ = co (psc (-1) a) i; omega

theorem Dv.neg {p : Nat} {d a : List Int} (h : Dv p d a) : Dv p d (pneg a) := (h.mul [-1]).q (Eqv.q (pmul_one_left a))

/-- A step of Euclid's: the same divide both. -/
theorem dv_step {p : Nat} {a b q r : List Int} (h : Q p a (padd (pmul q b) r)) (d : List Int) : (Dv p d a ∧ Dv p d b) ↔ (Dv p d b ∧ Dv p d r) := by
  constructor
  · rintro ⟨h1, h2⟩
    refine ⟨h2, ?_⟩
    have h3 := h1.add (h2.mul q).neg
    refine h3.q (fun i => ?_)
    have := h i
    rw [co_padd] at this
    rw [co_padd, co_pneg]
    rwa [show co a i + -co (pmul q b) i - co r i = co a i - (co (pmul q b) i + co r i) by omega]
  · rintro ⟨h1, h2⟩
    exact ⟨((h1.mul q).add h2).q h.symm, h1⟩

/-- It divides just if nothing is left. -/
theorem dv_iff {p : Nat} (hp : Pr p) {a b q r : List Int} (hb : Cn p b) (nb : b ≠ []) (hq : Cn p q) (hr : Cn p r) (l1 : r.length < b.length) (h : Q p a (padd (pmul q b) r)) : Dv p b a ↔ r = [] := by
  have hp1 := hp.1
  constructor
  · rintro ⟨c, hc⟩
    have h2 : Q p (padd (pmul q b) r) (padd (pmul (nm p c) b) []) := by
      refine h.symm.trans (hc.symm.trans ?_)
      rw [padd_nil]
      exact (Eqv.q (pmul_comm b c)).trans ((nm_q (by omega) c).symm.pmul (Q.refl p b))
    exact (div_uniq hp hb nb hq hr (nm_cn (by omega) c) (Cn.nil p) l1 (pos_of_ne nb) h2).2
  · intro e
    subst e
    rw [padd_nil] at h
    exact ⟨q, (Eqv.q (pmul_comm b q)).trans h.symm⟩

theorem Dv.len {p : Nat} (hp : Pr p) {a b : List Int} (ha : Cn p a) (hb : Cn p b) (nb : b ≠ []) (h : Dv p a b) : ∃ c, Cn p c ∧ c ≠ [] ∧ a ≠ [] ∧ Q p (pmul a c) b ∧ b.length = a.length + c.length - 1 := by
  have hp1 := hp.1
  obtain ⟨c, hc⟩ := h
  have hc2 : Q p (pmul a (nm p c)) b := ((Q.refl p a).pmul (nm_q (by omega) c)).trans hc
  have cc := nm_cn (p := p) (by omega) c
  have ne : ∀ {x : List Int}, Q p x b → Q p x [] → False := fun {x} h1 h2 => by
    have h3 := h1.symm.trans h2
    exact nb (hb.uniq (by omega) (Cn.nil p) h3)
  have na : a ≠ [] := fun e => ne hc2 (by rw [e]; exact Q.refl p _)
  have nc : nm p c ≠ [] := fun e => ne hc2 (by rw [e]; exact Eqv.q (pmul_nil a))
  refine ⟨nm p c, cc, nc, na, hc2, ?_⟩
  rw [← mul_len hp ha cc na nc, nm_of (by omega) hb hc2.symm]

/-- Two that divide each other, both with the last number 1, are the same. -/
theorem dv_anti {p : Nat} (hp : Pr p) {a b : List Int} (ha : Cn p a) (hb : Cn p b) (na : a ≠ []) (nb : b ≠ []) (ta : co a (a.length - 1) = 1) (tb : co b (b.length - 1) = 1) (h : Dv p a b) (k : Dv p b a) : a = b := by
  have hp1 := hp.1
  obtain ⟨c, c1, c2, _, c4, c5⟩ := h.len hp ha hb nb
  obtain ⟨e, e1, e2, _, e4, e5⟩ := k.len hp hb ha na
  have lc := pos_of_ne c2
  have le := pos_of_ne e2
  have la := pos_of_ne na
  have lb := pos_of_ne nb
  have hc1 : c.length = 1 := by omega
  obtain ⟨x, rfl⟩ : ∃ x, c = [x] := by
    match c, hc1 with
    | [x], _ => exact ⟨x, rfl⟩
  have hx := c1.1 x (by simp)
  have ht := c4 (b.length - 1)
  rw [show b.length - 1 = (a.length - 1) + 0 by omega, co_top (by omega) (by simp), co_zero, ta] at ht
  rw [show (a.length - 1) + 0 = b.length - 1 by omega, tb, Int.one_mul] at ht
  have hx1 : x = 1 := small_of ht ⟨hx.1, hx.2⟩ ⟨by omega, by omega⟩
  subst hx1
  exact ha.uniq (by omega) hb ((Eqv.q (pmul_one a)).symm.trans c4)

/-! ### values -/

theorem ev_dvd {n : Int} (x : Int) : ∀ {a : List Int}, (∀ i, n ∣ co a i) → n ∣ ev a x
  | [], _ => by simp [ev]
  | c :: a, h => by
    have h0 := h 0
    rw [co_zero] at h0
    exact Int.dvd_add h0 (Int.dvd_mul_of_dvd_right (ev_dvd x (fun i => by have := h (i + 1); rwa [co_succ] at this)))

theorem ev_pneg (x : Int) (a : List Int) : ev (pneg a) x = -ev a x := by
  unfold pneg; rw [ev_psc]; omega

theorem Q.ev {p : Nat} {a b : List Int} (h : Q p a b) (x : Int) : (p : Int) ∣ ev a x - ev b x := by
  have h1 : (p : Int) ∣ Num7.ev (Num16.padd a (pneg b)) x := ev_dvd x (fun i => by
    rw [co_padd, co_pneg]; have := h i; rwa [show co a i + -co b i = co a i - co b i by omega])
  rw [ev_padd, ev_pneg] at h1
  rwa [show Num7.ev a x + -Num7.ev b x = Num7.ev a x - Num7.ev b x by omega] at h1

theorem ev_cong {n x y : Int} (h : n ∣ x - y) : ∀ a : List Int, n ∣ ev a x - ev a y
  | [] => by simp [Num7.ev]
  | c :: a => cong_add (by simp) (cong_mul h (ev_cong h a))

/-- Two that are the same at as many places as they have numbers are the same. -/
theorem same_of_values {p : Nat} (hp : Pr p) {a b : List Int} (ha : Cn p a) (hb : Cn p b) {S : List Int} (la : a.length ≤ S.length) (lb : b.length ≤ S.length) (hS : S.Pairwise (fun x y => ¬ (p : Int) ∣ x - y)) (h : ∀ x ∈ S, (p : Int) ∣ ev a x - ev b x) : a = b := by
  have hp1 := hp.1
  have h1 := roots hp S (padd a (pneg b)) (by rw [padd_length]; simp [pneg, psc]; omega) hS (fun x hx => by
    rw [ev_padd, ev_pneg]; have := h x hx; rwa [show ev a x + -ev b x = ev a x - ev b x by omega])
  refine ha.uniq (by omega) hb (fun i => ?_)
  have h2 : (p : Int) ∣ co (padd a (pneg b)) i := by
    by_cases hi : i < (padd a (pneg b)).length
    · exact h1 _ (co_mem hi)
    · rw [co_over (by omega)]; simp
  rw [co_padd, co_pneg] at h2
  rwa [show co a i + -co b i = co a i - co b i by omega] at h2

/-- No more roots than the degree. -/
theorem few_roots {p : Nat} (hp : Pr p) {a : List Int} (ha : Cn p a) (na : a ≠ []) {S : List Int} (hS : S.Pairwise (fun x y => ¬ (p : Int) ∣ x - y)) (h : ∀ x ∈ S, (p : Int) ∣ ev a x) : S.length ≤ a.length - 1 := by
  have hp1 := hp.1
  rcases Nat.lt_or_ge (a.length - 1) S.length with hl | hl
  · exfalso
    have la := pos_of_ne na
    have h1 := roots hp S a (by omega) hS h
    exact ha.top (by omega) na (h1 _ (co_mem (by omega)))
  · exact hl

/-- Divided by x less r, what is left is the value at r. -/
theorem factor (r : Int) : ∀ a : List Int, Eqv a (padd (pmul (qt r a) [-r, 1]) [ev a r])
  | [] => fun i => by
    show co [] i = co (padd [] [0]) i
    rw [co_padd, co_nil, sh_nil i, co_nil]; rfl
  | [c] => fun i => by
    show co [c] i = co (padd [] [c + r * 0]) i
    rw [co_padd, co_nil, Int.mul_zero, Int.add_zero]; omega
  | c :: d :: cs => by
    have ih := factor r (d :: cs)
    intro i
    obtain ⟨E, hE⟩ : ∃ E, ev (d :: cs) r = E := ⟨_, rfl⟩
    have e1 : co (pmul (qt r (c :: d :: cs)) [-r, 1]) i = co (psc E [-r, 1]) i + co (0 :: pmul (qt r (d :: cs)) [-r, 1]) i := by
      rw [← hE]; exact co_padd _ _ _
    have e2 : ev (c :: d :: cs) r = c + r * E := by rw [← hE]; rfl
    rw [co_padd, e1, e2, co_psc]
    rw [hE] at ih
    match i with
    | 0 =>
      simp only [co_zero]
      rw [Int.mul_neg, Int.mul_comm E r]; omega
    | i + 1 =>
      simp only [co_succ, co_nil]
      rw [ih i, co_padd]
      match i with
      | 0 => simp only [co_zero]; omega
      | i + 1 => simp only [co_succ, co_nil]; omega

/-- The value, one number more at a time. -/
theorem ev_take (x : Int) (l : List Int) (k : Nat) (h : k < l.length) : ev (l.take (k + 1)) x = ev (l.take k) x + co l k * x ^ k := by
  induction l generalizing k with
  | nil => simp at h
  | cons c l ih =>
    match k with
    | 0 => simp [ev, co_zero]
    | k + 1 =>
      have := ih k (by simpa using h)
      simp only [List.take_succ_cons, ev, co_succ] at *
      rw [this, Int.mul_add, Int.pow_succ]
      have e : x * (co l k * x ^ k) = co l k * (x ^ k * x) := by rw [Int.mul_left_comm, Int.mul_comm x]
      rw [e]; omega

end Go.Proofs.Ytpnmepobdnclkaa.Num17

namespace Go.Proofs.Ytpnmepobdnclkaa.Num20
set_option linter.unusedVariables false
open Go.Proofs.Ytpnmepobdnclkaa.Num Go.Proofs.Ytpnmepobdnclkaa.Num3 Go.Proofs.Ytpnmepobdnclkaa.Num6

/-- A field: what sums and products keep. -/
structure Fd (A : Type) where
  zero : A
  one : A
  add : A → A → A
  mul : A → A → A
  neg : A → A
  add_comm : ∀ a b, add a b = add b a
  add_assoc : ∀ a b c, add (add a b) c = add a (add b c)
  zero_add : ∀ a, add zero a = a
  neg_add : ∀ a, add (neg a) a = zero
  mul_comm : ∀ a b, mul a b = mul b a
  mul_assoc : ∀ a b c, mul (mul a b) c = mul a (mul b c)
  one_mul : ∀ a, mul one a = a
  mul_add : ∀ a b c, mul a (add b c) = add (mul a b) (mul a c)
  one_ne : one ≠ zero
  inv_ex : ∀ a, a ≠ zero → ∃ b, mul a b = one

theorem add_zero {A : Type} (F : Fd A) (a : A) : F.add a F.zero = a := by rw [F.add_comm, F.zero_add]

theorem add_left_comm {A : Type} (F : Fd A) (a b c : A) : F.add a (F.add b c) = F.add b (F.add a c) := by
  rw [← F.add_assoc, F.add_comm a b, F.add_assoc]

theorem add_cancel {A : Type} (F : Fd A) {a b c : A} (h : F.add a b = F.add a c) : b = c := by
  have := congrArg (F.add (F.neg a)) h
  rwa [← F.add_assoc, ← F.add_assoc, F.neg_add, F.zero_add, F.zero_add] at this

theorem mul_zero {A : Type} (F : Fd A) (a : A) : F.mul a F.zero = F.zero := by
  have h : F.add (F.mul a F.zero) (F.mul a F.zero) = F.add (F.mul a F.zero) F.zero := by
    rw [← F.mul_add, F.zero_add, add_zero]
  exact add_cancel F h

theorem mul_left_comm {A : Type} (F : Fd A) (a b c : A) : F.mul a (F.mul b c) = F.mul b (F.mul a c) := by
  rw [← F.mul_assoc, F.mul_comm a b, F.mul_assoc]

theorem mul_one {A : Type} (F : Fd A) (a : A) : F.mul a F.one = a := by rw [F.mul_comm, F.one_mul]

theorem add_mul {A : Type} (F : Fd A) (a b c : A) : F.mul (F.add a b) c = F.add (F.mul a c) (F.mul b c) := by
  rw [F.mul_comm, F.mul_add, F.mul_comm c a, F.mul_comm c b]

theorem neg_mul {A : Type} (F : Fd A) (a b : A) : F.mul (F.neg a) b = F.neg (F.mul a b) := by
  apply add_cancel F (a := F.mul a b)
  rw [← add_mul, F.add_comm a, F.neg_add, F.mul_comm, mul_zero, F.add_comm, F.neg_add]

theorem neg_neg {A : Type} (F : Fd A) (a : A) : F.neg (F.neg a) = a := by
  apply add_cancel F (a := F.neg a)
  rw [F.neg_add, F.add_comm, F.neg_add]

theorem no_zero {A : Type} (F : Fd A) {a b : A} (h : F.mul a b = F.zero) : a = F.zero ∨ b = F.zero := by
  rcases Classical.em (a = F.zero) with e | e
  · exact .inl e
  · right
    obtain ⟨c, hc⟩ := F.inv_ex a e
    have := congrArg (F.mul c) h
    rwa [← F.mul_assoc, F.mul_comm c a, hc, F.one_mul, mul_zero] at this

theorem mul_cancel {A : Type} (F : Fd A) {a b c : A} (ha : a ≠ F.zero) (h : F.mul a b = F.mul a c) : b = c := by
  obtain ⟨d, hd⟩ := F.inv_ex a ha
  have := congrArg (F.mul d) h
  rwa [← F.mul_assoc, ← F.mul_assoc, F.mul_comm d a, hd, F.one_mul, F.one_mul] at this

theorem sub_zero {A : Type} (F : Fd A) {a b : A} (h : F.add a (F.neg b) = F.zero) : a = b := by
  apply add_cancel F (a := F.neg b)
  rw [F.add_comm, h, F.neg_add]

/-! ### powers -/

def pw {A : Type} (F : Fd A) (a : A) : Nat → A
  | 0 => F.one
  | k + 1 => F.mul (pw F a k) a

theorem pw_add {A : Type} (F : Fd A) (a : A) (j : Nat) : ∀ k, pw F a (j + k) = F.mul (pw F a j) (pw F a k)
  | 0 => (mul_one F _).symm
  | k + 1 => by show F.mul (pw F a (j + k)) a = _; rw [pw_add F a j k, F.mul_assoc]; rfl

theorem pw_one {A : Type} (F : Fd A) (k : Nat) : pw F F.one k = F.one := by
  induction k with
  | zero => rfl
  | succ k ih => show F.mul (pw F F.one k) F.one = _; rw [ih, F.one_mul]

theorem pw_mul {A : Type} (F : Fd A) (a : A) (j : Nat) : ∀ k, pw F a (j * k) = pw F (pw F a j) k
  | 0 => rfl
  | k + 1 => by rw [Nat.mul_succ, pw_add, pw_mul F a j k]; rfl

theorem mul_pw {A : Type} (F : Fd A) (a b : A) : ∀ k, pw F (F.mul a b) k = F.mul (pw F a k) (pw F b k)
  | 0 => (F.one_mul _).symm
  | k + 1 => by
    show F.mul (pw F (F.mul a b) k) (F.mul a b) = F.mul (F.mul (pw F a k) a) (F.mul (pw F b k) b)
    rw [mul_pw F a b k, F.mul_assoc, F.mul_assoc, mul_left_comm F (pw F b k)]

theorem pw_ne {A : Type} (F : Fd A) {a : A} (h : a ≠ F.zero) : ∀ k, pw F a k ≠ F.zero
  | 0 => F.one_ne
  | k + 1 => fun e => by
    rcases no_zero F (show F.mul (pw F a k) a = F.zero from e) with e | e
    · exact pw_ne F h k e
    · exact h e

/-- When a power is 1 again. -/
def Ord {A : Type} (F : Fd A) (a : A) (o : Nat) : Prop := 1 ≤ o ∧ ∀ k, pw F a k = F.one ↔ o ∣ k

theorem Ord.uniq {A : Type} {F : Fd A} {a : A} {o o' : Nat} (h : Ord F a o) (h' : Ord F a o') : o = o' :=
  Nat.dvd_antisymm ((h.2 o').1 ((h'.2 o').2 (Nat.dvd_refl _))) ((h'.2 o).1 ((h.2 o).2 (Nat.dvd_refl _)))

theorem ord_ex {A : Type} (F : Fd A) {a : A} {n : Nat} (hn : 1 ≤ n) (h : pw F a n = F.one) : ∃ o, Ord F a o := by
  obtain ⟨o, ⟨h1, h2⟩, _, hm⟩ := least_ex (P := fun k => 1 ≤ k ∧ pw F a k = F.one) n ⟨hn, h⟩
  refine ⟨o, h1, fun k => ⟨fun hk => ?_, ?_⟩⟩
  · have e : k = o * (k / o) + k % o := (Nat.div_add_mod k o).symm
    rw [e, pw_add, pw_mul, h2, pw_one, F.one_mul] at hk
    rcases Nat.eq_zero_or_pos (k % o) with h0 | h0
    · exact Nat.dvd_of_mod_eq_zero h0
    · exact absurd ⟨h0, hk⟩ (hm _ (Nat.mod_lt _ h1))
  · rintro ⟨c, rfl⟩
    rw [pw_mul, h2, pw_one]

theorem Ord.pow {A : Type} {F : Fd A} {a : A} {s t : Nat} (h : Ord F a (s * t)) : Ord F (pw F a s) t := by
  have hs : 1 ≤ s ∧ 1 ≤ t := by
    have := h.1
    constructor
    · rcases Nat.eq_zero_or_pos s with e | e
      · subst e; simp at this
      · exact e
    · rcases Nat.eq_zero_or_pos t with e | e
      · subst e; simp at this
      · exact e
  refine ⟨hs.2, fun k => ?_⟩
  rw [← pw_mul, h.2]
  constructor
  · exact Nat.dvd_of_mul_dvd_mul_left hs.1
  · exact Nat.mul_dvd_mul_left s

theorem Ord.mul {A : Type} {F : Fd A} {a b : A} {s t : Nat} (ha : Ord F a s) (hb : Ord F b t) (hst : Nat.gcd s t = 1) : Ord F (F.mul a b) (s * t) := by
  refine ⟨Nat.mul_pos ha.1 hb.1, fun k => ⟨fun h => ?_, ?_⟩⟩
  · rw [mul_pw] at h
    -- by t, a's power alone is left
    have h1 : s ∣ t * k := (ha.2 _).1 (by
      have := congrArg (fun x => pw F x t) h
      simp only [mul_pw, pw_one, ← pw_mul] at this
      rw [(hb.2 (k * t)).2 (Nat.dvd_mul_left _ _), mul_one] at this
      rw [Nat.mul_comm]; exact this)
    have h2 : t ∣ s * k := (hb.2 _).1 (by
      have := congrArg (fun x => pw F x s) h
      simp only [mul_pw, pw_one, ← pw_mul] at this
      rw [(ha.2 (k * s)).2 (Nat.dvd_mul_left _ _), F.one_mul] at this
      rw [Nat.mul_comm]; exact this)
    exact Nat.Coprime.mul_dvd_of_dvd_of_dvd hst (Nat.Coprime.dvd_of_dvd_mul_left hst h1) (Nat.Coprime.dvd_of_dvd_mul_left (Nat.Coprime.symm hst) h2)
  · intro h
    rw [mul_pw, (ha.2 k).2 (Nat.dvd_trans (Nat.dvd_mul_right _ _) h), (hb.2 k).2 (Nat.dvd_trans (Nat.dvd_mul_left _ _) h), F.one_mul]

theorem ord_lcm {A : Type} (F : Fd A) {a b : A} {s t : Nat} (ha : Ord F a s) (hb : Ord F b t) : ∃ c, Ord F c (Nat.lcm s t) := by
  obtain ⟨s', t', ⟨u, hu⟩, ⟨v, hv⟩, hg, e⟩ := lcm_split s t ha.1 hb.1
  rw [hu, Nat.mul_comm] at ha
  rw [hv, Nat.mul_comm] at hb
  rw [← e]
  exact ⟨_, ha.pow.mul hb.pow hg⟩

/-! ### roots -/

def ev {A : Type} (F : Fd A) : List A → A → A
  | [], _ => F.zero
  | c :: cs, x => F.add c (F.mul x (ev F cs x))

def qt {A : Type} (F : Fd A) (r : A) : List A → List A
  | [] => []
  | [_] => []
  | _ :: c :: cs => ev F (c :: cs) r :: qt F r (c :: cs)

theorem qt_length {A : Type} (F : Fd A) (r : A) : ∀ f : List A, (qt F r f).length = f.length - 1
  | [] => rfl
  | [_] => rfl
  | _ :: c :: cs => by simp only [qt, List.length_cons, qt_length F r (c :: cs)]; omega

theorem ev_qt {A : Type} (F : Fd A) (r x : A) : ∀ f : List A, ev F f x = F.add (ev F f r) (F.mul (F.add x (F.neg r)) (ev F (qt F r f) x))
  | [] => by simp only [ev, qt]; rw [mul_zero, F.zero_add]
  | [c] => by simp only [ev, qt]; rw [mul_zero, mul_zero, mul_zero, add_zero, add_zero]
  | c :: d :: cs => by
    have ih := ev_qt F r x (d :: cs)
    show F.add c (F.mul x (ev F (d :: cs) x)) = F.add (F.add c (F.mul r (ev F (d :: cs) r))) (F.mul (F.add x (F.neg r)) (F.add (ev F (d :: cs) r) (F.mul x (ev F (qt F r (d :: cs)) x))))
    rw [ih]
    generalize ev F (d :: cs) r = E
    generalize ev F (qt F r (d :: cs)) x = K
    rw [F.add_assoc]
    congr 1
    rw [F.mul_add, F.mul_add, mul_left_comm F x, ← F.add_assoc, add_mul F x (F.neg r) E, neg_mul]
    congr 1
    rw [add_left_comm, F.add_comm (F.mul r E), F.neg_add, add_zero]

theorem qt_zero {A : Type} (F : Fd A) (r : A) : ∀ f : List A, ev F f r = F.zero → (∀ c ∈ qt F r f, c = F.zero) → ∀ c ∈ f, c = F.zero
  | [], _, _ => by simp
  | [c], h, _ => by
    intro x hx
    simp at hx; subst hx
    simp only [ev] at h
    rwa [mul_zero, add_zero] at h
  | c :: d :: cs, h, hq => by
    have h1 : ev F (d :: cs) r = F.zero := hq _ (by simp [qt])
    have h2 := qt_zero F r (d :: cs) h1 (fun x hx => hq x (by simp only [qt]; exact List.mem_cons_of_mem _ hx))
    intro x hx
    rcases List.mem_cons.1 hx with e | hx
    · subst e
      have h3 : F.add x (F.mul r (ev F (d :: cs) r)) = F.zero := h
      rwa [h1, mul_zero, add_zero] at h3
    · exact h2 x hx

/-- As many roots as there are numbers: then all numbers are 0. -/
theorem roots {A : Type} (F : Fd A) : ∀ (S : List A) (f : List A), f.length ≤ S.length → S.Nodup → (∀ x ∈ S, ev F f x = F.zero) → ∀ c ∈ f, c = F.zero := by
  intro S
  induction S with
  | nil =>
    intro f hl _ _
    have : f = [] := List.length_eq_zero_iff.1 (by simpa using hl)
    subst this; simp
  | cons r S ih =>
    intro f hl hS h
    obtain ⟨hr, hS'⟩ := List.nodup_cons.1 hS
    have h0 := h r (by simp)
    refine qt_zero F r f h0 (ih (qt F r f) (by rw [qt_length]; simp at hl; omega) hS' (fun x hx => ?_))
    have h1 := h x (by simp [hx])
    rw [ev_qt F r x f, h0, F.zero_add] at h1
    rcases no_zero F h1 with e | e
    · exact absurd (by rw [← sub_zero F e]; exact hx) hr
    · exact e

def mono {A : Type} (F : Fd A) : Nat → List A
  | 0 => [F.one]
  | n + 1 => F.zero :: mono F n

theorem ev_mono {A : Type} (F : Fd A) (x : A) : ∀ n, ev F (mono F n) x = pw F x n
  | 0 => by simp only [mono, ev, pw]; rw [mul_zero, add_zero]
  | n + 1 => by
    show F.add F.zero (F.mul x (ev F (mono F n) x)) = F.mul (pw F x n) x
    rw [F.zero_add, ev_mono F x n, F.mul_comm]

theorem mono_length {A : Type} (F : Fd A) : ∀ n, (mono F n).length = n + 1
  | 0 => rfl
  | n + 1 => by simp [mono, mono_length F n]

theorem one_mem {A : Type} (F : Fd A) : ∀ n, F.one ∈ mono F n
  | 0 => by simp [mono]
  | n + 1 => by simp [mono, one_mem F n]

/-- No more than n have the power n 1. -/
theorem root_bound {A : Type} (F : Fd A) {n : Nat} (hn : 1 ≤ n) (S : List A) (hS : S.Nodup) (h : ∀ x ∈ S, pw F x n = F.one) : S.length ≤ n := by
  obtain ⟨k, rfl⟩ : ∃ k, n = k + 1 := ⟨n - 1, by omega⟩
  rcases Nat.lt_or_ge (k + 1) S.length with hl | hl
  · exfalso
    have := roots F S (F.neg F.one :: mono F k) (by simp [mono_length]; omega) hS (fun x hx => by
      show F.add (F.neg F.one) (F.mul x (ev F (mono F k) x)) = F.zero
      rw [ev_mono, F.mul_comm, show F.mul (pw F x k) x = pw F x (k + 1) from rfl, h x hx, F.neg_add])
    exact F.one_ne (this F.one (by simp [one_mem]))
  · exact hl

/-! ### finitely many -/

theorem len_leA {A : Type} {l m : List A} : l.Nodup → (∀ x ∈ l, x ∈ m) → l.length ≤ m.length := by
  have hdec : DecidableEq A := fun a b => Classical.propDecidable (a = b)
  induction l generalizing m with
  | nil => intro _ _; exact Nat.zero_le _
  | cons x t ih =>
    intro hn hs
    obtain ⟨hx, hn'⟩ := List.nodup_cons.1 hn
    have hxm := hs x (by simp)
    have h1 := ih (m := m.erase x) hn' (fun y hy => by
      have hne : y ≠ x := by intro e; subst e; exact hx hy
      exact (List.mem_erase_of_ne hne).2 (hs y (by simp [hy])))
    rw [List.length_erase_of_mem hxm] at h1
    have : 1 ≤ m.length := List.length_pos_of_mem hxm
    rw [List.length_cons]; omega

/-- Each element but 0 comes round. -/
theorem ord_all {A : Type} (F : Fd A) {U : List A} (hU : ∀ a, a ≠ F.zero → a ∈ U) {a : A} (ha : a ≠ F.zero) : ∃ o, Ord F a o := by
  have h1 : ∃ i j, i < j ∧ pw F a i = pw F a j := by
    rcases Classical.em (∃ i j, i < j ∧ pw F a i = pw F a j) with h | h
    · exact h
    · exfalso
      have hn : ((List.range (U.length + 1)).map (pw F a)).Nodup := by
        refine List.pairwise_map.2 ?_
        refine (List.nodup_range (n := U.length + 1)).imp_of_mem (fun {i j} hi hj hne e => ?_)
        rcases Nat.lt_trichotomy i j with h2 | h2 | h2
        · exact h ⟨i, j, h2, e⟩
        · exact hne h2
        · exact h ⟨j, i, h2, e.symm⟩
      have := len_leA (m := U) hn (fun x hx => by
        obtain ⟨i, _, rfl⟩ := List.mem_map.1 hx
        exact hU _ (pw_ne F ha i))
      simp at this; omega
  obtain ⟨i, j, hij, e⟩ := h1
  refine ord_ex F (n := j - i) (by omega) (mul_cancel F (pw_ne F ha i) ?_)
  rw [← pw_add, mul_one, show i + (j - i) = j by omega]; exact e.symm

/-- One whose order all orders divide. -/
theorem lambda_ex {A : Type} (F : Fd A) {U : List A} (hU : ∀ a, a ≠ F.zero → a ∈ U) : ∃ c L, Ord F c L ∧ ∀ a, a ≠ F.zero → pw F a L = F.one := by
  have key : ∀ l : List A, ∃ c L, Ord F c L ∧ ∀ a ∈ l, a ≠ F.zero → pw F a L = F.one := by
    intro l
    induction l with
    | nil =>
      exact ⟨F.one, 1, ⟨Nat.le_refl _, fun k => ⟨fun _ => Nat.one_dvd k, fun _ => pw_one F k⟩⟩, by simp⟩
    | cons x l ih =>
      obtain ⟨c, L, hc, hl⟩ := ih
      rcases Classical.em (x = F.zero) with e | e
      · refine ⟨c, L, hc, fun a ha hne => ?_⟩
        rcases List.mem_cons.1 ha with e2 | e2
        · subst e2; exact absurd e hne
        · exact hl a e2 hne
      · obtain ⟨o, ho⟩ := ord_all F hU e
        obtain ⟨d, hd⟩ := ord_lcm F hc ho
        refine ⟨d, _, hd, fun a ha hne => ?_⟩
        rcases List.mem_cons.1 ha with e2 | e2
        · subst e2; exact (ho.2 _).2 (Nat.dvd_lcm_right _ _)
        · obtain ⟨k, hk⟩ := Nat.dvd_lcm_left L o
          rw [hk, pw_mul, hl a e2 hne, pw_one]
  obtain ⟨c, L, hc, hl⟩ := key U
  exact ⟨c, L, hc, fun a ha => hl a (hU a ha) ha⟩

/-- Gauss: one whose powers are all but 0; and Fermat. -/
theorem cyclic {A : Type} (F : Fd A) {U : List A} (hn : U.Nodup) (hU : ∀ a, a ∈ U ↔ a ≠ F.zero) : (∃ g, Ord F g U.length) ∧ ∀ a, a ≠ F.zero → pw F a U.length = F.one := by
  obtain ⟨c, L, hc, hl⟩ := lambda_ex F (fun a h => (hU a).2 h)
  have h1 := root_bound F hc.1 U hn (fun x hx => hl x ((hU x).1 hx))
  have hc0 : c ≠ F.zero := fun e => by
    have h2 := (hc.2 L).2 (Nat.dvd_refl _)
    have h3 := hc.1
    obtain ⟨k, rfl⟩ : ∃ k, L = k + 1 := ⟨L - 1, by omega⟩
    rw [e] at h2
    have : F.mul (pw F F.zero k) F.zero = F.one := h2
    rw [mul_zero] at this
    exact F.one_ne this.symm
  have h2 : L ≤ U.length := by
    have hnd : ((List.range L).map (pw F c)).Nodup := by
      refine List.pairwise_map.2 ?_
      refine (List.nodup_range (n := L)).imp_of_mem (fun {i j} hi hj hne e => ?_)
      have hi' := List.mem_range.1 hi
      have hj' := List.mem_range.1 hj
      have key : ∀ i j, i < j → j < L → pw F c i = pw F c j → False := fun i j h1 h2 e => by
        have e2 : pw F c (j - i) = F.one := mul_cancel F (pw_ne F hc0 i) (by
          rw [← pw_add, mul_one, show i + (j - i) = j by omega]; exact e.symm)
        have := Nat.le_of_dvd (by omega) ((hc.2 _).1 e2)
        omega
      rcases Nat.lt_trichotomy i j with h | h | h
      · exact key i j h hj' e
      · exact hne h
      · exact key j i h hi' e.symm
    have := len_leA (m := U) hnd (fun x hx => by
      obtain ⟨i, _, rfl⟩ := List.mem_map.1 hx
      exact (hU _).2 (pw_ne F hc0 i))
    simpa using this
  have e : L = U.length := by omega
  subst e
  exact ⟨⟨c, hc⟩, hl⟩

end Go.Proofs.Ytpnmepobdnclkaa.Num20

namespace Go.Proofs.Ytpnmepobdnclkaa.Num21
set_option linter.unusedVariables false
open Go.Proofs.Ytpnmepobdnclkaa.Num Go.Proofs.Ytpnmepobdnclkaa.Num7 Go.Proofs.Ytpnmepobdnclkaa.Num16 Go.Proofs.Ytpnmepobdnclkaa.Num17

/-- Zeros ahead: times x so often. -/
def shn : Nat → List Int → List Int
  | 0, l => l
  | n + 1, l => 0 :: shn n l

theorem co_shn (l : List Int) : ∀ n i, co (shn n l) i = if i < n then 0 else co l (i - n)
  | 0, i => by simp [shn]
  | n + 1, 0 => by simp [shn, co_zero]
  | n + 1, i + 1 => by
    simp only [shn, co_succ]
    rw [co_shn l n i]
    by_cases h : i < n
    · rw [if_pos h, if_pos (by omega)]
    · rw [if_neg h, if_neg (by omega)]; congr 1; omega

theorem shn_length (l : List Int) : ∀ n, (shn n l).length = n + l.length
  | 0 => by simp [shn]
  | n + 1 => by simp [shn, shn_length l n]; omega

theorem pmul_shn (l b : List Int) : ∀ n, Eqv (pmul (shn n l) b) (shn n (pmul l b))
  | 0 => Eqv.refl _
  | n + 1 => (pmul_sh _ _).trans (sh_eqv (pmul_shn l b n))

/-- What makes 1 of a number that p does not divide. -/
theorem inv_int {p : Nat} (hp : Pr p) {x : Int} (h : ¬ (p : Int) ∣ x) : ∃ y : Int, (p : Int) ∣ x * y - 1 := by
  have hp1 := hp.1
  have hx : ¬ p ∣ (x % (p : Int)).toNat := fun hd => h (by
    have e : ((x % (p : Int)).toNat : Int) = x % (p : Int) := Int.toNat_of_nonneg (Int.emod_nonneg _ (by omega))
    have h1 : (p : Int) ∣ x % (p : Int) := by rw [← e]; exact Int.ofNat_dvd.2 hd
    exact Int.dvd_of_emod_eq_zero (by
      have h2 := Int.emod_eq_zero_of_dvd h1
      rwa [Int.emod_emod] at h2))
  obtain ⟨y, _, hy⟩ := Num2.inv_ex hp hx
  have e : ((x % (p : Int)).toNat : Int) = x % (p : Int) := Int.toNat_of_nonneg (Int.emod_nonneg _ (by omega))
  refine ⟨y, ?_⟩
  have h1 : (p : Int) ∣ (x % (p : Int)) * (y : Int) - 1 := by
    rw [← e]
    have h2 : (((x % (p : Int)).toNat * y : Nat) : Int) % (p : Int) = 1 := by exact_mod_cast hy
    refine ⟨(((x % (p : Int)).toNat * y : Nat) : Int) / (p : Int), ?_⟩
    have := Int.emod_add_mul_ediv (((x % (p : Int)).toNat * y : Nat) : Int) (p : Int)
    rw [Int.natCast_mul] at *
    omega
  have h3 : (p : Int) ∣ x - x % (p : Int) := ⟨x / (p : Int), by have := Int.emod_add_mul_ediv x (p : Int); omega⟩
  exact cong_tr (cong_mul h3 (by simp)) h1

theorem div_ex {p : Nat} (hp : Pr p) {b : List Int} (hb : Cn p b) (nb : b ≠ []) : ∀ (k : Nat) (a : List Int), (nm p a).length ≤ k → ∃ q r, Cn p q ∧ Cn p r ∧ r.length < b.length ∧ Q p a (padd (pmul q b) r) := by
  have hp1 := hp.1
  have lb := pos_of_ne nb
  obtain ⟨y, hy⟩ := inv_int hp (hb.top (by omega) nb)
  intro k
  induction k with
  | zero =>
    intro a ha
    have e : nm p a = [] := List.length_eq_zero_iff.1 (by omega)
    refine ⟨[], [], Cn.nil p, Cn.nil p, lb, ?_⟩
    have := nm_q (p := p) (by omega) a
    rw [e] at this
    exact this.symm
  | succ k ih =>
    intro a ha
    by_cases hl : (nm p a).length < b.length
    · exact ⟨[], nm p a, Cn.nil p, nm_cn (by omega) a, hl, (nm_q (by omega) a).symm⟩
    · -- the highest power is taken away
      obtain ⟨A, hA⟩ : ∃ A, nm p a = A := ⟨_, rfl⟩
      have cA : Cn p A := by rw [← hA]; exact nm_cn (by omega) a
      have qA : Q p A a := by rw [← hA]; exact nm_q (by omega) a
      rw [hA] at ha hl
      obtain ⟨c, hc⟩ : ∃ c, c = co A (A.length - 1) * y := ⟨_, rfl⟩
      obtain ⟨m, hm⟩ : ∃ m, m = A.length - b.length := ⟨_, rfl⟩
      have hlen : (nm p (padd A (pneg (pmul (shn m [c]) b)))).length ≤ k := by
        refine (nm_cn (by omega) _).len_le (by omega) (fun i hi => ?_)
        have h1 := nm_q (p := p) (by omega) (padd A (pneg (pmul (shn m [c]) b))) i
        refine (Int.dvd_add_right (b := -co (padd A (pneg (pmul (shn m [c]) b))) i) ?_).1 (by
          rw [show -co (padd A (pneg (pmul (shn m [c]) b))) i + co (nm p (padd A (pneg (pmul (shn m [c]) b)))) i = co (nm p (padd A (pneg (pmul (shn m [c]) b)))) i - co (padd A (pneg (pmul (shn m [c]) b))) i by omega]
          exact h1)
        apply (Int.dvd_neg).2
        rw [co_padd, co_pneg, (pmul_shn [c] b m) i, co_shn]
        have e1 : ∀ j, co (pmul [c] b) j = c * co b j := fun j => by
          have : co (pmul [c] b) j = co (psc c b) j + co [0] j := co_padd _ _ _
          rw [this, sh_nil j, co_nil, co_psc]; omega
        by_cases hi2 : A.length ≤ i
        · rw [co_over hi2, if_neg (by omega), e1, co_over (l := b) (by omega)]; simp
        · have hi3 : i = A.length - 1 := by omega
          rw [if_neg (by omega), e1, hi3, show A.length - 1 - m = b.length - 1 by omega, hc]
          have e2 : co A (A.length - 1) + -(co A (A.length - 1) * y * co b (b.length - 1)) = -(co A (A.length - 1) * (co b (b.length - 1) * y - 1)) := by
            rw [Int.mul_sub, Int.mul_one, Int.mul_assoc, Int.mul_comm y]; omega
          rw [e2]
          exact (Int.dvd_neg).2 (Int.dvd_mul_of_dvd_right hy)
      obtain ⟨q, r, hq, hr, hrl, h⟩ := ih _ hlen
      refine ⟨nm p (padd (shn m [c]) q), r, nm_cn (by omega) _, hr, hrl, ?_⟩
      refine qA.symm.trans ?_
      have h2 : Q p (pmul (nm p (padd (shn m [c]) q)) b) (padd (pmul (shn m [c]) b) (pmul q b)) :=
        ((nm_q (by omega) _).pmul (Q.refl p b)).trans (Eqv.q (pmul_padd _ _ _))
      intro i
      have h3 := h i
      have h4 := h2 i
      rw [co_padd] at h3 h4
      rw [co_pneg] at h3
      rw [co_padd] at h3
      rw [co_padd]
      have := Int.dvd_sub h3 h4
      rwa [show co A i + -co (pmul (shn m [c]) b) i - (co (pmul q b) i + co r i) - (co (pmul (nm p (padd (shn m [c]) q)) b) i - (co (pmul (shn m [c]) b) i + co (pmul q b) i)) = co A i - (co (pmul (nm p (padd (shn m [c]) q)) b) i + co r i) by omega] at this

/-- What divides both is made of both. -/
theorem bezout {p : Nat} (hp : Pr p) : ∀ (k : Nat) (a b : List Int), Cn p a → Cn p b → b.length ≤ k → ∃ g u v, Q p g (padd (pmul u a) (pmul v b)) ∧ Dv p g a ∧ Dv p g b := by
  have hp1 := hp.1
  intro k
  induction k with
  | zero =>
    intro a b ha hb hl
    have e : b = [] := List.length_eq_zero_iff.1 (by omega)
    subst e
    refine ⟨a, [1], [], ?_, Dv.self p a, Dv.nil p a⟩
    show Q p a (padd (pmul [1] a) [])
    rw [padd_nil]
    exact Eqv.q ((pmul_comm [1] a).trans (pmul_one a)).symm
  | succ k ih =>
    intro a b ha hb hl
    rcases Classical.em (b = []) with e | nb
    · subst e
      refine ⟨a, [1], [], ?_, Dv.self p a, Dv.nil p a⟩
      show Q p a (padd (pmul [1] a) [])
      rw [padd_nil]
      exact Eqv.q ((pmul_comm [1] a).trans (pmul_one a)).symm
    · obtain ⟨q, r, hq, hr, hrl, h⟩ := div_ex hp hb nb _ a (Nat.le_refl _)
      obtain ⟨g, u, v, h1, h2, h3⟩ := ih b r hb hr (by omega)
      obtain ⟨h4, h5⟩ := (dv_step h g).2 ⟨h2, h3⟩
      -- u b + v r = u b + v (a - q b) = v a + (u - v q) b
      refine ⟨g, v, padd u (pneg (pmul v q)), ?_, h4, h5⟩
      intro i
      have e1 := h1 i
      have e2 := ((Q.refl p v).pmul h) i
      rw [(pmul_padd_right v (pmul q b) r) i, co_padd] at e2
      rw [co_padd] at e1 ⊢
      have e3 : co (pmul (padd u (pneg (pmul v q))) b) i = co (pmul u b) i - co (pmul v (pmul q b)) i := by
        rw [(pmul_padd _ _ _) i, co_padd, show co (pmul (pneg (pmul v q)) b) i = _ from (pmul_psc (-1) (pmul v q) b) i, co_psc, (pmul_assoc v q b) i]; omega
      rw [e3]
      have := Int.dvd_sub e1 e2
      rwa [show co g i - (co (pmul u b) i + co (pmul v r) i) - (co (pmul v a) i - (co (pmul v (pmul q b)) i + co (pmul v r) i)) = co g i - (co (pmul v a) i + (co (pmul u b) i - co (pmul v (pmul q b)) i)) by omega] at this

/-- No product of two of a degree from 1 on. -/
def Irr (p : Nat) (f : List Int) : Prop := ∀ a b, Cn p a → Cn p b → 2 ≤ a.length → 2 ≤ b.length → ¬ Q p (pmul a b) f

/-- By such a one each shorter one but none has what makes 1 of it. -/
theorem irr_inv {p : Nat} (hp : Pr p) {f a : List Int} (hf : Cn p f) (hfl : 2 ≤ f.length) (hI : Irr p f) (ha : Cn p a) (na : a ≠ []) (hl : a.length < f.length) : ∃ u v, Q p (padd (pmul u a) (pmul v f)) [1] := by
  have hp1 := hp.1
  obtain ⟨g, u, v, h1, h2, h3⟩ := bezout hp _ a f ha hf (Nat.le_refl _)
  have nf : f ≠ [] := fun e => by rw [e] at hfl; simp at hfl
  obtain ⟨G, hG⟩ : ∃ G, nm p g = G := ⟨_, rfl⟩
  have cG : Cn p G := by rw [← hG]; exact nm_cn (by omega) g
  have qG : Q p G g := by rw [← hG]; exact nm_q (by omega) g
  obtain ⟨c, c1, c2, c3, c4, c5⟩ := (h3.cong qG.symm).len hp cG hf nf
  obtain ⟨d, d1, d2, d3, d4, d5⟩ := (h2.cong qG.symm).len hp cG ha na
  have lc := pos_of_ne c2
  have ld := pos_of_ne d2
  have lG := pos_of_ne c3
  have hG1 : G.length = 1 := by
    rcases Nat.lt_or_ge G.length 2 with h | h
    · omega
    · exact absurd c4 (hI G c cG c1 h (by omega))
  obtain ⟨x, rfl⟩ : ∃ x, G = [x] := by
    match G, hG1 with
    | [x], _ => exact ⟨x, rfl⟩
  have hx : ¬ (p : Int) ∣ x := by
    have := cG.top (by omega) c3
    simpa [co_zero] using this
  obtain ⟨y, hy⟩ := inv_int hp hx
  refine ⟨psc y u, psc y v, ?_⟩
  have h4 := qG.trans h1
  intro i
  have e1 := h4 i
  rw [co_padd] at e1
  rw [co_padd, (pmul_psc y u a) i, (pmul_psc y v f) i, co_psc, co_psc]
  have e2 := cong_mul (show (p : Int) ∣ y - y by simp) e1
  rw [Int.mul_add] at e2
  refine cong_tr (cong_sy e2) ?_
  match i with
  | 0 => rw [co_zero, co_zero, Int.mul_comm]; exact hy
  | i + 1 => rw [co_succ, co_succ, co_nil]; simp

/-! ### binomial numbers -/

def ch : Nat → Nat → Nat
  | _, 0 => 1
  | 0, _ + 1 => 0
  | n + 1, k + 1 => ch n k + ch n (k + 1)

theorem ch_zero (n : Nat) : ch n 0 = 1 := by cases n <;> rfl

theorem ch_over : ∀ {n k : Nat}, n < k → ch n k = 0
  | 0, k + 1, _ => rfl
  | n + 1, k + 1, h => by show ch n k + ch n (k + 1) = 0; rw [ch_over (by omega), ch_over (by omega)]

theorem ch_self : ∀ n, ch n n = 1
  | 0 => rfl
  | n + 1 => by show ch n n + ch n (n + 1) = 1; rw [ch_self n, ch_over (by omega)]

theorem ch_absorb : ∀ n k, (k + 1) * ch (n + 1) (k + 1) = (n + 1) * ch n k
  | 0, 0 => rfl
  | 0, k + 1 => by
    show (k + 1 + 1) * (0 + 0) = (0 + 1) * 0
    omega
  | n + 1, 0 => by
    have ih : ch (n + 1) 1 = n + 1 := by
      have := ch_absorb n 0
      rw [ch_zero] at this
      simpa using this
    rw [ch_zero]
    show (0 + 1) * (ch (n + 1) 0 + ch (n + 1) 1) = (n + 1 + 1) * 1
    rw [ch_zero, ih]; omega
  | n + 1, k + 1 => by
    have ih1 := ch_absorb n k
    have ih2 := ch_absorb n (k + 1)
    show (k + 1 + 1) * (ch (n + 1) (k + 1) + ch (n + 1) (k + 1 + 1)) = (n + 1 + 1) * ch (n + 1) (k + 1)
    have e : ch (n + 1) (k + 1) = ch n k + ch n (k + 1) := rfl
    have e1 : (k + 1 + 1) * (ch (n + 1) (k + 1) + ch (n + 1) (k + 1 + 1)) = (k + 1) * ch (n + 1) (k + 1) + ch (n + 1) (k + 1) + (k + 1 + 1) * ch (n + 1) (k + 1 + 1) := by
      rw [Nat.mul_add, Nat.succ_mul (k + 1)]
    have e2 : (n + 1 + 1) * ch (n + 1) (k + 1) = (n + 1) * ch n k + (n + 1) * ch n (k + 1) + ch (n + 1) (k + 1) := by
      rw [Nat.succ_mul, e, Nat.mul_add]
    rw [e1, e2, ih1, ih2]; omega

theorem ch_dvd {p k : Nat} (hp : Pr p) (h0 : 1 ≤ k) (h1 : k < p) : p ∣ ch p k := by
  obtain ⟨j, rfl⟩ : ∃ j, k = j + 1 := ⟨k - 1, by omega⟩
  have hp1 := hp.1
  have := ch_absorb (p - 1) j
  rw [show p - 1 + 1 = p by omega] at this
  rcases hp.dvd_mul (show p ∣ (j + 1) * ch p (j + 1) from ⟨ch (p - 1) j, this⟩) with h | h
  · have := Nat.le_of_dvd (by omega) h; omega
  · exact h

end Go.Proofs.Ytpnmepobdnclkaa.Num21

namespace Go.Proofs.Ytpnmepobdnclkaa.Num22
set_option linter.unusedVariables false
open Go.Proofs.Ytpnmepobdnclkaa.Num Go.Proofs.Ytpnmepobdnclkaa.Num16 Go.Proofs.Ytpnmepobdnclkaa.Num17 Go.Proofs.Ytpnmepobdnclkaa.Num20 Go.Proofs.Ytpnmepobdnclkaa.Num21

/-! ### sums in a field -/

def nsm {A : Type} (F : Fd A) : Nat → A → A
  | 0, _ => F.zero
  | m + 1, x => F.add (nsm F m x) x

theorem nsm_add {A : Type} (F : Fd A) (x : A) (m : Nat) : ∀ n, nsm F (m + n) x = F.add (nsm F m x) (nsm F n x)
  | 0 => (add_zero F _).symm
  | n + 1 => by
    show F.add (nsm F (m + n) x) x = F.add (nsm F m x) (F.add (nsm F n x) x)
    rw [nsm_add F x m n, F.add_assoc]

theorem nsm_one {A : Type} (F : Fd A) (x : A) : nsm F 1 x = x := F.zero_add x

theorem nsm_zero {A : Type} (F : Fd A) : ∀ m, nsm F m F.zero = F.zero
  | 0 => rfl
  | m + 1 => by show F.add (nsm F m F.zero) F.zero = _; rw [nsm_zero F m, F.zero_add]

theorem mul_nsm {A : Type} (F : Fd A) (a x : A) : ∀ m, F.mul a (nsm F m x) = nsm F m (F.mul a x)
  | 0 => mul_zero F a
  | m + 1 => by
    show F.mul a (F.add (nsm F m x) x) = F.add (nsm F m (F.mul a x)) (F.mul a x)
    rw [F.mul_add, mul_nsm F a x m]

theorem nsm_dvd {A : Type} (F : Fd A) {p : Nat} (hp : ∀ x, nsm F p x = F.zero) {m : Nat} (h : p ∣ m) (x : A) : nsm F m x = F.zero := by
  obtain ⟨k, rfl⟩ := h
  induction k with
  | zero => rfl
  | succ k ih => rw [Nat.mul_succ, nsm_add, ih, hp, F.zero_add]

def sg {A : Type} (F : Fd A) (f : Nat → A) : Nat → A
  | 0 => f 0
  | n + 1 => F.add (sg F f n) (f (n + 1))

theorem sg_congr {A : Type} (F : Fd A) {f g : Nat → A} : ∀ {n : Nat}, (∀ k, k ≤ n → f k = g k) → sg F f n = sg F g n
  | 0, h => h 0 (Nat.le_refl _)
  | n + 1, h => by simp only [sg]; rw [sg_congr F (fun k hk => h k (by omega)), h (n + 1) (Nat.le_refl _)]

theorem sg_front {A : Type} (F : Fd A) (f : Nat → A) : ∀ n, sg F f (n + 1) = F.add (f 0) (sg F (fun k => f (k + 1)) n)
  | 0 => rfl
  | n + 1 => by
    show F.add (sg F f (n + 1)) (f (n + 2)) = F.add (f 0) (F.add (sg F (fun k => f (k + 1)) n) (f (n + 2)))
    rw [sg_front F f n, F.add_assoc]

theorem sg_add {A : Type} (F : Fd A) (f g : Nat → A) : ∀ n, sg F (fun k => F.add (f k) (g k)) n = F.add (sg F f n) (sg F g n)
  | 0 => rfl
  | n + 1 => by
    simp only [sg]
    rw [sg_add F f g n, F.add_assoc, F.add_assoc, add_left_comm F (sg F g n)]

theorem sg_mul {A : Type} (F : Fd A) (c : A) (f : Nat → A) : ∀ n, F.mul c (sg F f n) = sg F (fun k => F.mul c (f k)) n
  | 0 => rfl
  | n + 1 => by simp only [sg]; rw [F.mul_add, sg_mul F c f n]

theorem sg_zero {A : Type} (F : Fd A) {f : Nat → A} : ∀ {n : Nat}, (∀ k, k ≤ n → f k = F.zero) → sg F f n = F.zero
  | 0, h => h 0 (Nat.le_refl _)
  | n + 1, h => by simp only [sg]; rw [sg_zero F (fun k hk => h k (by omega)), h (n + 1) (Nat.le_refl _), F.zero_add]

theorem binomial {A : Type} (F : Fd A) (a b : A) : ∀ n, pw F (F.add a b) n = sg F (fun k => nsm F (ch n k) (F.mul (pw F a k) (pw F b (n - k)))) n
  | 0 => by simp only [sg, pw, ch_zero]; rw [F.one_mul, nsm_one]; rfl
  | n + 1 => by
    show F.mul (pw F (F.add a b) n) (F.add a b) = _
    rw [binomial F a b n, F.mul_add, F.mul_comm _ a, F.mul_comm _ b, sg_mul, sg_mul, sg_front]
    have e1 : sg F (fun k => F.mul a (nsm F (ch n k) (F.mul (pw F a k) (pw F b (n - k))))) n = sg F (fun k => nsm F (ch n k) (F.mul (pw F a (k + 1)) (pw F b (n + 1 - (k + 1))))) n :=
      sg_congr F (fun k hk => by
        rw [mul_nsm, ← F.mul_assoc, F.mul_comm a, show F.mul (pw F a k) a = pw F a (k + 1) from rfl, show n + 1 - (k + 1) = n - k by omega])
    have e2 : sg F (fun k => F.mul b (nsm F (ch n k) (F.mul (pw F a k) (pw F b (n - k))))) n = sg F (fun k => nsm F (ch n k) (F.mul (pw F a k) (pw F b (n + 1 - k)))) n :=
      sg_congr F (fun k hk => by
        rw [mul_nsm, mul_left_comm, F.mul_comm b, show F.mul (pw F b (n - k)) b = pw F b (n - k + 1) from rfl, show n - k + 1 = n + 1 - k by omega])
    have e3 : sg F (fun k => nsm F (ch n k) (F.mul (pw F a k) (pw F b (n + 1 - k)))) n = sg F (fun k => nsm F (ch n k) (F.mul (pw F a k) (pw F b (n + 1 - k)))) (n + 1) := by
      simp only [sg]
      rw [ch_over (show n < n + 1 by omega)]
      exact (add_zero F _).symm
    have e4 : sg F (fun k => nsm F (ch (n + 1) (k + 1)) (F.mul (pw F a (k + 1)) (pw F b (n + 1 - (k + 1))))) n =
        F.add (sg F (fun k => nsm F (ch n k) (F.mul (pw F a (k + 1)) (pw F b (n + 1 - (k + 1))))) n) (sg F (fun k => nsm F (ch n (k + 1)) (F.mul (pw F a (k + 1)) (pw F b (n + 1 - (k + 1))))) n) := by
      rw [← sg_add]
      exact sg_congr F (fun k hk => by rw [← nsm_add]; rfl)
    rw [e1, e2, e3, e4, sg_front F _ n, ch_zero, ch_zero, add_left_comm]

/-- Frobenius. -/
theorem frob {A : Type} (F : Fd A) {p : Nat} (hp : Pr p) (hc : ∀ x, nsm F p x = F.zero) (a b : A) : pw F (F.add a b) p = F.add (pw F a p) (pw F b p) := by
  have hp1 := hp.1
  obtain ⟨k, rfl⟩ : ∃ k, p = k + 2 := ⟨p - 2, by omega⟩
  rw [binomial]
  show F.add (sg F _ (k + 1)) _ = _
  rw [sg_front, sg_zero F (fun j hj => nsm_dvd F hc (ch_dvd hp (by omega) (by omega)) _), add_zero, ch_zero, nsm_one, Nat.sub_zero]
  show F.add _ (nsm F (ch (k + 2) (k + 2)) (F.mul (pw F a (k + 2)) (pw F b (k + 2 - (k + 2))))) = _
  rw [ch_self, nsm_one, Nat.sub_self]
  show F.add (F.mul F.one (pw F b (k + 2))) (F.mul (pw F a (k + 2)) F.one) = _
  rw [F.one_mul, mul_one, F.add_comm]

/-! ### the field -/

/-- An element: shorter than f, in its one form. -/
abbrev El (p : Nat) (f : List Int) : Type := { l : List Int // Cn p l ∧ l.length < f.length }

/-- c is what a times b leaves, divided by f. -/
def MulR (p : Nat) (f a b c : List Int) : Prop := Cn p c ∧ c.length < f.length ∧ Dv p f (padd (pmul a b) (pneg c))

/-- The same by f and p. -/
def Qf (p : Nat) (f a b : List Int) : Prop := Dv p f (padd a (pneg b))

theorem qf_of {p : Nat} {f a b : List Int} (h : Q p a b) : Qf p f a b := (Dv.nil p f).q (fun i => by
  rw [co_nil, co_padd, co_pneg]; have := cong_sy (h i); rwa [show (0 : Int) - (co a i + -co b i) = co b i - co a i by omega])

theorem Qf.symm {p : Nat} {f a b : List Int} (h : Qf p f a b) : Qf p f b a := h.neg.q (fun i => by
  rw [co_pneg, co_padd, co_padd, co_pneg, co_pneg]; rw [show -(co a i + -co b i) - (co b i + -co a i) = 0 by omega]; simp)

theorem Qf.trans {p : Nat} {f a b c : List Int} (h : Qf p f a b) (k : Qf p f b c) : Qf p f a c := (h.add k).q (fun i => by
  simp only [co_pneg, co_padd]; rw [show co a i + -co b i + (co b i + -co c i) - (co a i + -co c i) = 0 by omega]; simp)

theorem Qf.padd {p : Nat} {f a a' b b' : List Int} (h : Qf p f a a') (k : Qf p f b b') : Qf p f (padd a b) (padd a' b') := (Dv.add h k).q (fun i => by
  simp only [co_pneg, co_padd]; rw [show co a i + -co a' i + (co b i + -co b' i) - (co a i + co b i + -(co a' i + co b' i)) = 0 by omega]; simp)

theorem Qf.mul_left {p : Nat} {f a a' : List Int} (b : List Int) (h : Qf p f a a') : Qf p f (pmul b a) (pmul b a') := (Dv.mul h b).q (fun i => by
  rw [(pmul_padd_right b a (pneg a')) i, co_padd, co_padd, co_pneg, (pmul_comm b (pneg a')) i, show co (pmul (pneg a') b) i = _ from (pmul_psc (-1) a' b) i, co_psc, (pmul_comm a' b) i]
  rw [show ∀ x y : Int, x + -1 * y - (x + -y) = 0 from fun x y => by omega]; simp)

theorem Qf.pmul {p : Nat} {f a a' b b' : List Int} (h : Qf p f a a') (k : Qf p f b b') : Qf p f (pmul a b) (pmul a' b') := by
  have h1 : Qf p f (Num16.pmul b a) (Num16.pmul b a') := h.mul_left b
  have h2 : Qf p f (Num16.pmul a' b) (Num16.pmul a' b') := k.mul_left a'
  exact (qf_of (Eqv.q (pmul_comm a b))).trans (h1.trans ((qf_of (Eqv.q (pmul_comm b a'))).trans h2))

/-- Two elements that are the same by f are the same. -/
theorem Qf.eq {p : Nat} (hp : Pr p) {f a b : List Int} (hf : Cn p f) (ha : Cn p a) (hb : Cn p b) (la : a.length < f.length) (lb : b.length < f.length) (h : Qf p f a b) : a = b := by
  have hp1 := hp.1
  obtain ⟨d, hd⟩ : ∃ d, nm p (Num16.padd a (pneg b)) = d := ⟨_, rfl⟩
  have cd : Cn p d := by rw [← hd]; exact nm_cn (by omega) _
  have qd : Q p d (Num16.padd a (pneg b)) := by rw [← hd]; exact nm_q (by omega) _
  have ld : d.length < f.length := by
    rw [← hd]
    refine Nat.lt_of_le_of_lt (nm_length _ _) ?_
    rw [padd_length]; simp [pneg, psc]; omega
  have d0 : d = [] := by
    rcases Classical.em (d = []) with e | nd
    · exact e
    · obtain ⟨c, c1, c2, c3, c4, c5⟩ := (Dv.q h qd.symm).len hp hf cd nd
      have := pos_of_ne c2
      omega
  subst d0
  refine ha.uniq (by omega) hb (fun i => ?_)
  have := qd i
  rw [co_nil, co_padd, co_pneg] at this
  have h2 := cong_sy this
  rwa [show co a i + -co b i - 0 = co a i - co b i by omega] at h2

theorem MulR.uniq {p : Nat} (hp : Pr p) {f a b c c' : List Int} (hf : Cn p f) (h : MulR p f a b c) (h' : MulR p f a b c') : c = c' := by
  have h1 : Qf p f (pmul a b) c := h.2.2
  have h2 : Qf p f (pmul a b) c' := h'.2.2
  exact (h1.symm.trans h2).eq hp hf h.1 h'.1 h.2.1 h'.2.1

theorem mulR_ex {p : Nat} (hp : Pr p) {f : List Int} (hf : Cn p f) (nf : f ≠ []) (a b : List Int) : ∃ c, MulR p f a b c := by
  obtain ⟨q, r, hq, hr, hl, h⟩ := div_ex hp hf nf _ (pmul a b) (Nat.le_refl _)
  refine ⟨r, hr, hl, q, fun i => ?_⟩
  have := h i
  rw [co_padd] at this
  rw [co_padd, co_pneg, (pmul_comm f q) i]
  have h2 := cong_sy this
  rwa [show co (pmul q f) i - (co (pmul a b) i + -co r i) = co (pmul q f) i + co r i - co (pmul a b) i by omega]

theorem add_short {p : Nat} {f a b : List Int} (la : a.length < f.length) (lb : b.length < f.length) : (nm p (padd a b)).length < f.length := by
  refine Nat.lt_of_le_of_lt (nm_length _ _) ?_
  rw [padd_length]; omega

/-- The field. -/
theorem field_ex {p : Nat} (hp : Pr p) {f : List Int} (hf : Cn p f) (hfl : 2 ≤ f.length) (hI : Irr p f) : ∃ F : Fd (El p f), F.zero.1 = [] ∧ F.one.1 = [1] ∧ (∀ a b, (F.add a b).1 = nm p (padd a.1 b.1)) ∧ (∀ a b, MulR p f a.1 b.1 (F.mul a b).1) ∧ ∀ x, nsm F p x = F.zero := by
  have hp1 := hp.1
  have hp2 : 1 ≤ p := by omega
  have nf : f ≠ [] := fun e => by rw [e] at hfl; simp at hfl
  have c1 : Cn p [1] := ⟨fun x hx => by simp at hx; subst hx; omega, fun _ => by simp [co_zero]⟩
  have qf : ∀ {a b : List Int}, Q p a b → Qf p f a b := fun h => qf_of h
  obtain ⟨mul, hmul⟩ : ∃ mul : El p f → El p f → El p f, ∀ a b, MulR p f a.1 b.1 (mul a b).1 :=
    ⟨fun a b => ⟨Classical.choose (mulR_ex hp hf nf a.1 b.1), (Classical.choose_spec (mulR_ex hp hf nf a.1 b.1)).1, (Classical.choose_spec (mulR_ex hp hf nf a.1 b.1)).2.1⟩, fun a b => Classical.choose_spec (mulR_ex hp hf nf a.1 b.1)⟩
  obtain ⟨add, hadd⟩ : ∃ add : El p f → El p f → El p f, ∀ a b, (add a b).1 = nm p (padd a.1 b.1) :=
    ⟨fun a b => ⟨nm p (padd a.1 b.1), nm_cn hp2 _, add_short a.2.2 b.2.2⟩, fun _ _ => rfl⟩
  obtain ⟨neg, hneg⟩ : ∃ neg : El p f → El p f, ∀ a, (neg a).1 = nm p (pneg a.1) :=
    ⟨fun a => ⟨nm p (pneg a.1), nm_cn hp2 _, Nat.lt_of_le_of_lt (nm_length _ _) (by have := a.2.2; simpa [pneg, psc] using this)⟩, fun _ => rfl⟩
  have qm : ∀ a b, Qf p f (mul a b).1 (pmul a.1 b.1) := fun a b => (show Qf p f (pmul a.1 b.1) (mul a b).1 from (hmul a b).2.2).symm
  have qa : ∀ a b, Q p (add a b).1 (padd a.1 b.1) := fun a b => by rw [hadd]; exact nm_q hp2 _
  have qn : ∀ a, Q p (neg a).1 (pneg a.1) := fun a => by rw [hneg]; exact nm_q hp2 _
  have same : ∀ {a b : El p f}, Qf p f a.1 b.1 → a = b := fun {a b} h => Subtype.ext (h.eq hp hf a.2.1 b.2.1 a.2.2 b.2.2)
  have sameQ : ∀ {a b : El p f}, Q p a.1 b.1 → a = b := fun {a b} h => Subtype.ext (a.2.1.uniq hp2 b.2.1 h)
  refine ⟨{ zero := ⟨[], Cn.nil p, by simp; omega⟩, one := ⟨[1], c1, by simp; omega⟩, add := add, mul := mul, neg := neg, add_comm := ?_, add_assoc := ?_, zero_add := ?_, neg_add := ?_, mul_comm := ?_, mul_assoc := ?_, one_mul := ?_, mul_add := ?_, one_ne := ?_, inv_ex := ?_ }, rfl, rfl, hadd, hmul, ?_⟩
  · intro a b
    exact sameQ ((qa a b).trans ((Eqv.q (padd_comm _ _)).trans (qa b a).symm))
  · intro a b c
    exact sameQ ((qa _ _).trans (((qa a b).padd (Q.refl p _)).trans ((Eqv.q (padd_assoc _ _ _)).trans (((Q.refl p _).padd (qa b c).symm).trans (qa _ _).symm))))
  · intro a
    exact sameQ (qa _ _)
  · intro a
    refine sameQ ((qa _ _).trans (((qn a).padd (Q.refl p _)).trans (Eqv.q (fun i => ?_))))
    rw [co_padd, co_pneg, co_nil]; omega
  · intro a b
    exact same ((qm a b).trans ((qf (Eqv.q (pmul_comm _ _))).trans (qm b a).symm))
  · intro a b c
    exact same ((qm _ _).trans (((qm a b).pmul (qf (Q.refl p _))).trans ((qf (Eqv.q (pmul_assoc _ _ _))).trans (((qf (Q.refl p _)).pmul (qm b c).symm).trans (qm _ _).symm))))
  · intro a
    exact same ((qm _ _).trans (qf (Eqv.q ((pmul_comm [1] a.1).trans (pmul_one a.1)))))
  · intro a b c
    refine same ((qm _ _).trans (((qf (Q.refl p _)).pmul (qf (qa b c))).trans ((qf (Eqv.q (pmul_padd_right _ _ _))).trans ?_)))
    exact ((qm a b).symm.padd (qm a c).symm).trans (qf (qa _ _).symm)
  · intro h
    have := congrArg Subtype.val h
    simp at this
  · intro a ha
    have na : a.1 ≠ [] := fun e => ha (Subtype.ext e)
    obtain ⟨u, v, h⟩ := irr_inv hp hf hfl hI a.2.1 na a.2.2
    obtain ⟨q, r, hq, hr, hl, hd⟩ := div_ex hp hf nf _ u (Nat.le_refl _)
    refine ⟨⟨r, hr, hl⟩, same ((qm _ _).trans ?_)⟩
    -- a r = a u - a q f = 1 - v f - a q f
    have dvf : ∀ w, Qf p f (pmul w f) [] := fun w => by
      have h1 : Dv p f (pmul w f) := (Dv.self p f).mul w
      exact h1.q (fun i => by rw [co_padd, co_pneg, co_nil]; rw [show co (pmul w f) i - (co (pmul w f) i + -0) = 0 by omega]; simp)
    have hu : Qf p f u r := by
      have h1 : Qf p f (padd (pmul q f) r) (padd [] r) := (dvf q).padd (qf (Q.refl p r))
      exact (qf hd).trans h1
    have h2 : Qf p f (pmul a.1 r) (pmul u a.1) := ((qf (Q.refl p a.1)).pmul hu.symm).trans (qf (Eqv.q (pmul_comm _ _)))
    have h3 : Qf p f (pmul u a.1) (padd (pmul u a.1) (pmul v f)) := by
      have h4 : Qf p f (padd (pmul u a.1) (pmul v f)) (padd (pmul u a.1) []) := (qf (Q.refl p _)).padd (dvf v)
      rw [padd_nil] at h4
      exact h4.symm
    exact h2.trans (h3.trans (qf h))
  · intro x
    have key : ∀ (F : Fd (El p f)) (hz : F.zero.1 = []) (ha : ∀ a b, (F.add a b).1 = nm p (padd a.1 b.1)) (m : Nat), Q p (nsm F m x).1 (psc (m : Int) x.1) := by
      intro F hz ha m
      induction m with
      | zero => show Q p F.zero.1 _; rw [hz]; exact Eqv.q (zero_psc x.1).symm
      | succ m ih =>
        show Q p (F.add (nsm F m x) x).1 _
        rw [ha]
        refine (nm_q hp2 _).trans ((ih.padd (Q.refl p _)).trans (Eqv.q (fun i => ?_)))
        rw [co_padd, co_psc, co_psc, Int.natCast_succ, Int.add_mul]; omega
    refine sameQ ((key _ rfl hadd p).trans (fun i => ?_))
    show (p : Int) ∣ co (psc (p : Int) x.1) i - co [] i
    rw [co_psc, co_nil, Int.sub_zero]
    exact Int.dvd_mul_right _ _

end Go.Proofs.Ytpnmepobdnclkaa.Num22

namespace Go.Proofs.Ytpnmepobdnclkaa.Num23
set_option linter.unusedVariables false
open Go.Proofs.Ytpnmepobdnclkaa.Num Go.Proofs.Ytpnmepobdnclkaa.Num16 Go.Proofs.Ytpnmepobdnclkaa.Num17 Go.Proofs.Ytpnmepobdnclkaa.Num20 Go.Proofs.Ytpnmepobdnclkaa.Num21 Go.Proofs.Ytpnmepobdnclkaa.Num22

/-- The number of a list: the lowest digit first. -/
def nb (p : Nat) : List Int → Nat
  | [] => 0
  | x :: xs => x.toNat + p * nb p xs

/-- So many digits of a number. -/
def dgs (p : Nat) : Nat → Nat → List Int
  | 0, _ => []
  | k + 1, n => ((n % p : Nat) : Int) :: dgs p k (n / p)

theorem dgs_length (p : Nat) : ∀ k n, (dgs p k n).length = k
  | 0, _ => rfl
  | k + 1, n => by simp [dgs, dgs_length p k]

theorem dgs_bd {p : Nat} (hp : 1 ≤ p) : ∀ k n, ∀ x ∈ dgs p k n, 0 ≤ x ∧ x < (p : Int)
  | 0, _ => by simp [dgs]
  | k + 1, n => by
    intro x hx
    rcases List.mem_cons.1 hx with e | e
    · subst e
      have := Nat.mod_lt n (show p > 0 by omega)
      omega
    · exact dgs_bd hp k _ x e

theorem nb_dgs {p : Nat} (hp : 1 ≤ p) : ∀ k n, n < p ^ k → nb p (dgs p k n) = n
  | 0, n, h => by simp at h; subst h; rfl
  | k + 1, n, h => by
    show ((n % p : Nat) : Int).toNat + p * nb p (dgs p k (n / p)) = n
    rw [nb_dgs hp k (n / p) (by rw [Nat.div_lt_iff_lt_mul (by omega)]; rwa [Nat.pow_succ] at h), Int.toNat_natCast]
    exact Nat.mod_add_div n p

theorem nb_lt {p : Nat} (hp : 1 ≤ p) : ∀ l : List Int, (∀ x ∈ l, 0 ≤ x ∧ x < (p : Int)) → nb p l < p ^ l.length
  | [], _ => by simp [nb]
  | x :: xs, h => by
    have ih := nb_lt hp xs (fun y hy => h y (by simp [hy]))
    have hx := h x (by simp)
    show x.toNat + p * nb p xs < p ^ (xs.length + 1)
    rw [Nat.pow_succ, Nat.mul_comm (p ^ xs.length)]
    have h1 : p * (nb p xs + 1) ≤ p * p ^ xs.length := Nat.mul_le_mul_left p ih
    rw [Nat.mul_add, Nat.mul_one] at h1
    omega

theorem nb_tr (p : Nat) : ∀ l : List Int, nb p (tr l) = nb p l
  | [] => rfl
  | x :: xs => by
    have ih := nb_tr p xs
    unfold tr
    by_cases h : x = 0 ∧ tr xs = []
    · rw [if_pos h]
      rw [h.2] at ih
      show 0 = x.toNat + p * nb p xs
      rw [← ih, h.1]; simp [nb]
    · rw [if_neg h]
      show x.toNat + p * nb p (tr xs) = x.toNat + p * nb p xs
      rw [ih]

theorem dgs_zero (p : Nat) : ∀ k, Eqv (dgs p k 0) []
  | 0 => Eqv.refl _
  | k + 1 => by
    show Eqv (((0 % p : Nat) : Int) :: dgs p k (0 / p)) []
    rw [Nat.zero_mod, Nat.zero_div]
    exact (eqv_nil_cons.2 ⟨rfl, (dgs_zero p k).symm⟩).symm

theorem dgs_nb {p : Nat} (hp : 1 ≤ p) : ∀ (k : Nat) (l : List Int), l.length ≤ k → (∀ x ∈ l, 0 ≤ x ∧ x < (p : Int)) → Eqv (dgs p k (nb p l)) l
  | k, [], _, _ => dgs_zero p k
  | 0, x :: xs, h, _ => by simp at h
  | k + 1, x :: xs, h, hb => by
    have hx := hb x (by simp)
    have ih := dgs_nb hp k xs (by simpa using h) (fun y hy => hb y (by simp [hy]))
    show Eqv ((((x.toNat + p * nb p xs) % p : Nat) : Int) :: dgs p k ((x.toNat + p * nb p xs) / p)) (x :: xs)
    rw [Nat.add_mul_mod_self_left, Nat.add_mul_div_left _ _ (by omega), Nat.mod_eq_of_lt (by omega), Nat.div_eq_of_lt (by omega), Nat.zero_add]
    exact eqv_cons (Int.toNat_of_nonneg hx.1) ih

/-- The element of a number. -/
def elm (p k n : Nat) : List Int := tr (dgs p k n)

theorem elm_cn {p : Nat} (hp : 1 ≤ p) (k n : Nat) : Cn p (elm p k n) := tr_cn (dgs_bd hp k n)

theorem elm_length (p k n : Nat) : (elm p k n).length ≤ k := by
  have := tr_length (dgs p k n)
  rwa [dgs_length] at this

theorem nb_elm {p : Nat} (hp : 1 ≤ p) {k n : Nat} (h : n < p ^ k) : nb p (elm p k n) = n := by
  unfold elm; rw [nb_tr, nb_dgs hp k n h]

theorem elm_nb {p : Nat} (hp : 1 ≤ p) {k : Nat} {l : List Int} (hl : Cn p l) (hk : l.length ≤ k) : elm p k (nb p l) = l :=
  (elm_cn hp k _).uniq hp hl (fun i => by
    unfold elm
    rw [co_tr, dgs_nb hp k l hk hl.1 i]; simp)

theorem elm_zero {p : Nat} (hp : 1 ≤ p) (k : Nat) : elm p k 0 = [] := elm_nb hp (Cn.nil p) (by simp)

theorem elm_one {p : Nat} (hp : 2 ≤ p) {k : Nat} (hk : 1 ≤ k) : elm p k 1 = [1] := by
  have c1 : Cn p [1] := ⟨fun x hx => by simp at hx; subst hx; omega, fun _ => by simp [co_zero]⟩
  have := elm_nb (p := p) (by omega) c1 (k := k) (by simpa using hk)
  simpa [nb] using this

theorem nb_small {p : Nat} (hp : 1 ≤ p) {l : List Int} {k : Nat} (hl : Cn p l) (hk : l.length ≤ k) : nb p l < p ^ k :=
  Nat.lt_of_lt_of_le (nb_lt hp l hl.1) (Nat.pow_le_pow_right hp hk)

/-- All elements but 0, once each. -/
theorem all_ex {p : Nat} (hp : 1 ≤ p) {f : List Int} (hf : 1 ≤ f.length) : ∃ U : List (El p f), U.Nodup ∧ (∀ a : El p f, a ∈ U ↔ a.1 ≠ []) ∧ U.length = p ^ (f.length - 1) - 1 := by
  have hle : ∀ n, (elm p (f.length - 1) n).length < f.length := fun n => by have := elm_length p (f.length - 1) n; omega
  refine ⟨(List.range (p ^ (f.length - 1) - 1)).map (fun i => ⟨elm p (f.length - 1) (i + 1), elm_cn hp _ _, hle _⟩), ?_, fun a => ?_, by simp⟩
  · refine List.pairwise_map.2 ?_
    refine (List.nodup_range (n := p ^ (f.length - 1) - 1)).imp_of_mem (fun {i j} hi hj hne e => hne ?_)
    have hi' := List.mem_range.1 hi
    have hj' := List.mem_range.1 hj
    have e1 := congrArg (fun x : El p f => nb p x.1) e
    simp only at e1
    rw [nb_elm hp (by omega), nb_elm hp (by omega)] at e1
    omega
  · constructor
    · intro h
      obtain ⟨i, hi, rfl⟩ := List.mem_map.1 h
      have hi' := List.mem_range.1 hi
      intro e
      have e1 := congrArg (nb p) e
      simp only at e1
      rw [nb_elm hp (by omega)] at e1
      simp [nb] at e1
    · intro h
      have hk : a.1.length ≤ f.length - 1 := by have := a.2.2; omega
      have h1 := nb_small hp a.2.1 hk
      have h2 : nb p a.1 ≠ 0 := fun e => h (by
        have := elm_nb hp a.2.1 hk
        rw [e, elm_zero hp] at this
        exact this.symm)
      refine List.mem_map.2 ⟨nb p a.1 - 1, List.mem_range.2 (by omega), Subtype.ext ?_⟩
      show elm p (f.length - 1) (nb p a.1 - 1 + 1) = a.1
      rw [show nb p a.1 - 1 + 1 = nb p a.1 by omega]
      exact elm_nb hp a.2.1 hk

/-- Fermat, Galois; Gauss. -/
theorem field_cyclic {p : Nat} (hp : Pr p) {f : List Int} (hf : 1 ≤ f.length) (F : Fd (El p f)) (hz : F.zero.1 = []) : (∃ g, Ord F g (p ^ (f.length - 1) - 1)) ∧ ∀ a, a ≠ F.zero → pw F a (p ^ (f.length - 1) - 1) = F.one := by
  have hp1 := hp.1
  obtain ⟨U, h1, h2, h3⟩ := all_ex (p := p) (by omega) hf
  have := cyclic F h1 (fun a => by
    rw [h2]
    constructor
    · intro h e; exact h (by rw [e]; exact hz)
    · intro h e; exact h (Subtype.ext (by rw [e, hz])))
  rwa [h3] at this

theorem field_fermat {p : Nat} (hp : Pr p) {f : List Int} (hf : 1 ≤ f.length) (F : Fd (El p f)) (hz : F.zero.1 = []) (a : El p f) : pw F a (p ^ (f.length - 1)) = a := by
  have hp1 := hp.1
  have hpos : 1 ≤ p ^ (f.length - 1) := Nat.pow_pos (by omega)
  obtain ⟨k, hk⟩ : ∃ k, p ^ (f.length - 1) = k + 1 := ⟨p ^ (f.length - 1) - 1, by omega⟩
  rcases Classical.em (a = F.zero) with e | e
  · subst e
    rw [hk]
    exact mul_zero F _
  · have := (field_cyclic hp hf F hz).2 a e
    rw [hk] at this ⊢
    rw [Nat.add_sub_cancel] at this
    show F.mul (pw F a k) a = a
    rw [this, F.one_mul]

end Go.Proofs.Ytpnmepobdnclkaa.Num23

namespace Go.Proofs.Ytpnmepobdnclkaa.Num34
set_option linter.unusedVariables false
open Go.Proofs.Ytpnmepobdnclkaa.Num Go.Proofs.Ytpnmepobdnclkaa.Num7 Go.Proofs.Ytpnmepobdnclkaa.Num13 Go.Proofs.Ytpnmepobdnclkaa.Num16 Go.Proofs.Ytpnmepobdnclkaa.Num17

/-! ### rows -/

def mk (n : Nat) (f : Nat → Int) : List Int := (List.range n).map f

theorem mk_length (n : Nat) (f : Nat → Int) : (mk n f).length = n := by simp [mk]

theorem co_mk (n : Nat) (f : Nat → Int) (i : Nat) : co (mk n f) i = if i < n then f i else 0 := by
  by_cases h : i < n
  · rw [if_pos h]; simp [co, mk, List.getD, h]
  · rw [if_neg h, co_over (by rw [mk_length]; omega)]

theorem mk_of (l : List Int) : mk l.length (co l) = l :=
  List.ext_getElem (by simp [mk]) (fun i h1 h2 => by simp [mk, co, List.getD, h2])

theorem mk_congr {n : Nat} {f g : Nat → Int} (h : ∀ i, i < n → f i = g i) : mk n f = mk n g := List.map_congr_left (fun i hi => h i (List.mem_range.1 hi))

theorem mk_mem {n : Nat} {f : Nat → Int} {x : Int} (h : x ∈ mk n f) : ∃ i, i < n ∧ f i = x := by
  obtain ⟨i, hi, e⟩ := List.mem_map.1 h
  exact ⟨i, List.mem_range.1 hi, e⟩

theorem mk_succ (n : Nat) (f : Nat → Int) : mk (n + 1) f = mk n f ++ [f n] := by simp [mk, List.range_succ]

/-- One number is another one. -/
def up1 (f : Nat → Int) (y : Nat) (q : Int) : Nat → Int := fun z => if z = y then q else f z

theorem up1_self (f : Nat → Int) (y : Nat) (q : Int) : up1 f y q y = q := by simp [up1]

theorem up1_other (f : Nat → Int) {y z : Nat} (q : Int) (h : z ≠ y) : up1 f y q z = f z := by simp [up1, h]

theorem mk_set (n y : Nat) (q : Int) (f : Nat → Int) : (mk n f).set y q = mk n (up1 f y q) := by
  refine List.ext_getElem (by simp [mk]) (fun i h1 h2 => ?_)
  simp only [mk, List.getElem_set, List.getElem_map, List.getElem_range, up1]
  by_cases h : y = i
  · rw [if_pos h, if_pos h.symm]
  · rw [if_neg h, if_neg (fun e => h e.symm)]

/-- Numbers from 0 to p - 1. -/
def Bd (p : Nat) (l : List Int) : Prop := ∀ x ∈ l, 0 ≤ x ∧ x < (p : Int)

theorem Bd.at {p : Nat} {l : List Int} (hp : 1 ≤ p) (h : Bd p l) (i : Nat) : 0 ≤ co l i ∧ co l i < (p : Int) := by
  by_cases hi : i < l.length
  · exact h _ (co_mem hi)
  · rw [co_over (by omega)]; omega

theorem Bd.mk {p n : Nat} {f : Nat → Int} (h : ∀ i, i < n → 0 ≤ f i ∧ f i < (p : Int)) : Bd p (mk n f) := fun x hx => by
  obtain ⟨i, hi, rfl⟩ := mk_mem hx
  exact h i hi

theorem mod_bd {p : Nat} (hp : 1 ≤ p) (x : Int) : 0 ≤ x % (p : Int) ∧ x % (p : Int) < (p : Int) := ⟨Int.emod_nonneg _ (by omega), Int.emod_lt_of_pos _ (by omega)⟩

theorem mod_cong {p : Nat} (x : Int) : (p : Int) ∣ x % (p : Int) - x := ⟨-(x / (p : Int)), by rw [Int.emod_def, Int.mul_neg]; omega⟩

theorem rs_cong {p : Nat} (hp : 1 ≤ p) (x : Int) : (p : Int) ∣ (rs x p : Int) - x := by rw [rs_cast x hp]; exact mod_cong x

theorem rs_bd {p : Nat} (hp : 1 ≤ p) (x : Int) : 0 ≤ (rs x p : Int) ∧ (rs x p : Int) < (p : Int) := ⟨by omega, by have := rs_lt x hp; omega⟩

theorem rs_of {p : Nat} (hp : 1 ≤ p) {x y : Int} (h : (p : Int) ∣ x - y) : rs x p = rs y p := by
  have := small_of (p := p) (x := (rs x p : Int)) (y := (rs y p : Int)) (cong_tr (rs_cong hp x) (cong_tr h (cong_sy (rs_cong hp y)))) (rs_bd hp x) (rs_bd hp y)
  omega

theorem rs_zero {p : Nat} (hp : 1 ≤ p) {x : Int} (h : (p : Int) ∣ x) : rs x p = 0 := by
  have := small_of (p := p) (x := (rs x p : Int)) (y := 0) (by have := Int.dvd_add (rs_cong hp x) h; simpa using this) (rs_bd hp x) ⟨by omega, by omega⟩
  omega

theorem rs_ne {p : Nat} (hp : 1 ≤ p) {x : Int} (h : ¬ (p : Int) ∣ x) : rs x p ≠ 0 := fun e => h (by
  have := cong_sy (rs_cong hp x)
  rw [e] at this
  simpa using this)

theorem rs_self {p : Nat} (hp : 1 ≤ p) {x : Int} (h : 0 ≤ x ∧ x < (p : Int)) : (rs x p : Int) = x := small_of (rs_cong hp x) (rs_bd hp x) h

theorem not_dvd {p : Nat} {x : Int} (h : 0 ≤ x ∧ x < (p : Int)) (h0 : x ≠ 0) : ¬ (p : Int) ∣ x := fun hd => h0 (small_of (y := 0) (by simpa using hd) h ⟨by omega, by omega⟩)

/-! ### zeros at the end -/

theorem tr_snoc_zero : ∀ l : List Int, tr (l ++ [0]) = tr l
  | [] => by simp [tr]
  | x :: xs => by simp only [List.cons_append, tr]; rw [tr_snoc_zero xs]

theorem tr_last_ne : ∀ l : List Int, (l ≠ [] → co l (l.length - 1) ≠ 0) → tr l = l
  | [], _ => rfl
  | [x], h => by
    have := h (by simp)
    simp [co] at this
    simp [tr, this]
  | x :: y :: ys, h => by
    have ih := tr_last_ne (y :: ys) (fun _ => by
      have := h (by simp)
      simp only [List.length_cons, Nat.add_sub_cancel] at this ⊢
      rw [co_succ] at this
      exact this)
    unfold tr
    rw [ih]
    simp

theorem take_succ_co {l : List Int} {k : Nat} (h : k < l.length) : l.take (k + 1) = l.take k ++ [co l k] := by
  rw [List.take_add_one, List.getElem?_eq_getElem h]
  simp [co, List.getD, h]

theorem tr_take_zero {l : List Int} {k : Nat} (h : k < l.length) (h0 : co l k = 0) : tr (l.take (k + 1)) = tr (l.take k) := by
  rw [take_succ_co h, h0, tr_snoc_zero]

theorem co_take {l : List Int} {k i : Nat} (h : i < k) : co (l.take k) i = co l i := by
  simp [co, List.getD, h]

theorem tr_take_stop {l : List Int} {k : Nat} (hk : k ≤ l.length) (h : k = 0 ∨ co l (k - 1) ≠ 0) : tr (l.take k) = l.take k := by
  apply tr_last_ne
  intro hne
  have e : (l.take k).length = k := by simp; omega
  have k0 : k ≠ 0 := fun e => hne (by rw [e]; simp)
  rw [e, co_take (by omega)]
  rcases h with h | h
  · exact absurd h k0
  · exact h

theorem nm_tr {p : Nat} (hp : 1 ≤ p) {l m : List Int} (hb : Bd p l) (h : Q p l m) : tr l = nm p m := (nm_of hp (tr_cn hb) ((tr_q p l).trans h)).symm

/-! ### sums -/

def adf (p : Nat) (a b : List Int) (k : Nat) : Nat → Int := fun i => if i < k then (co a i + co b i) % (p : Int) else co a i

theorem adf_zero (p : Nat) (a b : List Int) : adf p a b 0 = co a := by funext i; simp [adf]

theorem adf_at (p : Nat) (a b : List Int) (k : Nat) : adf p a b k k = co a k := by simp [adf]

theorem adf_step (p : Nat) (a b : List Int) (k : Nat) : up1 (adf p a b k) k ((co a k + co b k) % (p : Int)) = adf p a b (k + 1) := by
  funext i
  simp only [up1, adf]
  by_cases h : i = k
  · subst h; rw [if_pos rfl, if_pos (by omega)]
  · rw [if_neg h]
    by_cases h2 : i < k
    · rw [if_pos h2, if_pos (by omega)]
    · rw [if_neg h2, if_neg (by omega)]

theorem adf_done {p : Nat} (hp : 1 ≤ p) {a b : List Int} (ha : Bd p a) (hl : b.length ≤ a.length) : tr (mk a.length (adf p a b b.length)) = nm p (padd a b) := by
  refine nm_tr hp (Bd.mk fun i hi => ?_) (fun i => ?_)
  · unfold adf; split
    · exact mod_bd hp _
    · exact ha.at hp i
  · rw [co_mk, co_padd]
    by_cases hi : i < a.length
    · rw [if_pos hi]; unfold adf
      split
      · exact mod_cong _
      · rw [co_over (l := b) (by omega)]; simp
    · rw [if_neg hi, co_over (l := a) (by omega), co_over (l := b) (by omega)]; simp

/-! ### products -/

def su (f : Nat → Int) : Nat → Int
  | 0 => 0
  | n + 1 => su f n + f n

theorem su_sm (f : Nat → Int) : ∀ k, sm f k = su f (k + 1)
  | 0 => by simp [sm, su]
  | k + 1 => by show sm f k + f (k + 1) = su f (k + 1) + f (k + 1); rw [su_sm f k]

theorem su_congr {f g : Nat → Int} : ∀ {n : Nat}, (∀ i, i < n → f i = g i) → su f n = su g n
  | 0, _ => rfl
  | n + 1, h => by simp only [su]; rw [su_congr (fun i hi => h i (by omega)), h n (by omega)]

theorem su_stop {f : Nat → Int} {m : Nat} : ∀ {n : Nat}, m ≤ n → (∀ i, m ≤ i → i < n → f i = 0) → su f n = su f m
  | 0, h, _ => by rw [show m = 0 by omega]
  | n + 1, h, h0 => by
    by_cases e : m = n + 1
    · rw [e]
    · simp only [su]
      rw [su_stop (by omega) (fun i h1 h2 => h0 i h1 (by omega)), h0 n (by omega) (by omega)]; omega

theorem su_up {f g : Nat → Int} {i : Nat} (h : ∀ s, s ≠ i → g s = f s) (h0 : f i = 0) : ∀ n : Nat, su g n = su f n + (if i < n then g i else 0)
  | 0 => by simp [su]
  | n + 1 => by
    simp only [su]
    rw [su_up h h0 n]
    by_cases e : n = i
    · subst e; rw [if_neg (by omega), if_pos (by omega), h0]
    · rw [h n e]
      by_cases h2 : i < n
      · rw [if_pos h2, if_pos (by omega)]; omega
      · rw [if_neg h2, if_neg (by omega)]; omega

def pt (a b : List Int) (t s : Nat) : Int := if s ≤ t then co a s * co b (t - s) else 0

theorem su_pt (a b : List Int) (t : Nat) {n : Nat} (hn : a.length ≤ n) : su (pt a b t) n = co (pmul a b) t := by
  have h1 : su (pt a b t) (max n (t + 1)) = su (pt a b t) n := su_stop (Nat.le_max_left _ _) (fun i h1 h2 => by
    unfold pt; split
    · rw [co_over (l := a) (by omega)]; omega
    · rfl)
  have h2 : su (pt a b t) (max n (t + 1)) = su (pt a b t) (t + 1) := su_stop (Nat.le_max_right _ _) (fun i h1 h2 => by
    unfold pt; rw [if_neg (by omega)])
  rw [← h1, h2, ← su_sm, co_pmul]
  exact sm_congr (fun i hi => by unfold pt; rw [if_pos hi])

def prf (p : Nat) (a b : List Int) (i j : Nat) : Nat → Int := fun t => (su (pt a b t) i + (if i ≤ t ∧ t < i + j then co a i * co b (t - i) else 0)) % (p : Int)

theorem prf_zero (p : Nat) (a b : List Int) : prf p a b 0 0 = fun _ => 0 := by
  funext t
  simp only [prf, su]
  rw [if_neg (by omega)]; simp

theorem prf_bd {p : Nat} (hp : 1 ≤ p) (a b : List Int) (i j t : Nat) : 0 ≤ prf p a b i j t ∧ prf p a b i j t < (p : Int) := mod_bd hp _

theorem prf_step (p : Nat) (a b : List Int) (i j : Nat) : up1 (prf p a b i j) (i + j) ((prf p a b i j (i + j) + co a i * co b j) % (p : Int)) = prf p a b i (j + 1) := by
  funext t
  by_cases h : t = i + j
  · subst h
    rw [up1_self]
    simp only [prf]
    rw [if_neg (by omega), if_pos (by omega), Int.add_zero, show i + j - i = j by omega, Int.emod_add_emod]
  · rw [up1_other _ _ h]
    simp only [prf]
    by_cases h2 : i ≤ t ∧ t < i + j
    · rw [if_pos h2, if_pos (by omega)]
    · rw [if_neg h2, if_neg (by omega)]

theorem prf_next (p : Nat) (a b : List Int) (i : Nat) : prf p a b i b.length = prf p a b (i + 1) 0 := by
  funext t
  simp only [prf, su]
  rw [if_neg (show ¬ (i + 1 ≤ t ∧ t < i + 1 + 0) by omega), Int.add_zero]
  congr 2
  unfold pt
  by_cases h : i ≤ t
  · rw [if_pos h]
    by_cases h2 : t < i + b.length
    · rw [if_pos ⟨h, h2⟩]
    · rw [if_neg (by omega), co_over (l := b) (by omega)]; omega
  · rw [if_neg h, if_neg (by omega)]

theorem prf_done {p : Nat} (hp : Pr p) {a b : List Int} (ha : Cn p a) (hb : Cn p b) (na : a ≠ []) (nb : b ≠ []) : mk (a.length + b.length - 1) (prf p a b a.length 0) = nm p (pmul a b) := by
  have hp1 := hp.1
  have la := pos_of_ne na
  have lb := pos_of_ne nb
  have hv : ∀ t, prf p a b a.length 0 t = co (pmul a b) t % (p : Int) := fun t => by
    simp only [prf]
    rw [if_neg (by omega), Int.add_zero, su_pt a b t (Nat.le_refl _)]
  have hq : Q p (mk (a.length + b.length - 1) (prf p a b a.length 0)) (pmul a b) := fun t => by
    rw [co_mk]
    by_cases h : t < a.length + b.length - 1
    · rw [if_pos h, hv]; exact mod_cong _
    · rw [if_neg h, co_over (l := pmul a b) (by rw [pmul_length a b nb na]; omega)]; simp
  refine (nm_of (by omega) ⟨Bd.mk fun i _ => prf_bd (by omega) a b _ _ i, fun _ => ?_⟩ hq).symm
  rw [mk_length]
  intro e
  have h := hq (a.length + b.length - 1 - 1)
  rw [e] at h
  have h2 := cong_sy h
  exact top_mul hp ha hb na nb (by rw [show a.length - 1 + (b.length - 1) = a.length + b.length - 1 - 1 by omega]; simpa using h2)

theorem mul_over {a b : List Int} {t : Nat} (h : a.length + b.length - 1 ≤ t) : co (pmul a b) t = 0 := by
  rcases Classical.em (a = []) with e | na
  · subst e; exact co_nil t
  · rcases Classical.em (b = []) with e | nb
    · subst e; rw [pmul_nil a t, co_nil]
    · exact co_over (by rw [pmul_length a b nb na]; exact h)

/-- The document's product, place by place. -/
theorem mul_done {p : Nat} (hp : 1 ≤ p) {a b : List Int} : tr (mk (a.length + b.length - 1) (fun t => co (pmul a b) t % (p : Int))) = nm p (pmul a b) := by
  refine nm_tr hp (Bd.mk fun i _ => mod_bd hp _) (fun i => ?_)
  rw [co_mk]
  by_cases h : i < a.length + b.length - 1
  · rw [if_pos h]; exact mod_cong _
  · rw [if_neg h, mul_over (by omega)]; simp

def mlf (p : Nat) (a b : List Int) (k i : Nat) : Int := su (pt a b k) i % (p : Int)

theorem mlf_zero (p : Nat) (a b : List Int) (k : Nat) : mlf p a b k 0 = 0 := by simp [mlf, su]

theorem mlf_step (p : Nat) (a b : List Int) {k i : Nat} (h : i ≤ k) : (mlf p a b k i + co a i * co b (k - i)) % (p : Int) = mlf p a b k (i + 1) := by
  simp only [mlf, su, pt]
  rw [if_pos h, Int.emod_add_emod]

theorem mlf_done (p : Nat) (a b : List Int) (k : Nat) : mlf p a b k (k + 1) = co (pmul a b) k % (p : Int) := by
  unfold mlf
  rw [← su_sm, co_pmul]
  congr 1
  exact sm_congr (fun i hi => by unfold pt; rw [if_pos hi])

theorem mlf_bd {p : Nat} (hp : 1 ≤ p) (a b : List Int) (k i : Nat) : 0 ≤ mlf p a b k i ∧ mlf p a b k i < (p : Int) := mod_bd hp _

/-- The document's sum, place by place. -/
theorem add_done {p : Nat} (hp : 1 ≤ p) {a b : List Int} : tr (mk (max a.length b.length) (fun t => (co a t + co b t) % (p : Int))) = nm p (padd a b) := by
  refine nm_tr hp (Bd.mk fun i _ => mod_bd hp _) (fun i => ?_)
  rw [co_mk, co_padd]
  by_cases h : i < max a.length b.length
  · rw [if_pos h]; exact mod_cong _
  · rw [if_neg h, co_over (l := a) (by omega), co_over (l := b) (by omega)]; simp

/-! ### multiples -/

def scf (p : Nat) (a : List Int) (c : Int) (k : Nat) : Nat → Int := fun i => if i < k then co a i * c % (p : Int) else 0

theorem scf_zero (p : Nat) (a : List Int) (c : Int) : scf p a c 0 = fun _ => 0 := by funext i; simp [scf]

theorem scf_step (p : Nat) (a : List Int) (c : Int) (k : Nat) : up1 (scf p a c k) k (co a k * c % (p : Int)) = scf p a c (k + 1) := by
  funext i
  simp only [up1, scf]
  by_cases h : i = k
  · subst h; rw [if_pos rfl, if_pos (by omega)]
  · rw [if_neg h]
    by_cases h2 : i < k
    · rw [if_pos h2, if_pos (by omega)]
    · rw [if_neg h2, if_neg (by omega)]

theorem scf_done {p : Nat} (hp : 1 ≤ p) (a : List Int) (c : Int) : tr (mk a.length (scf p a c a.length)) = nm p (psc c a) := by
  refine nm_tr hp (Bd.mk fun i hi => ?_) (fun i => ?_)
  · unfold scf; rw [if_pos hi]; exact mod_bd hp _
  · rw [co_mk, co_psc, Int.mul_comm]
    by_cases hi : i < a.length
    · rw [if_pos hi]; unfold scf; rw [if_pos hi]; exact mod_cong _
    · rw [if_neg hi, co_over (l := a) (by omega)]; simp

/-! ### what makes 1 -/

theorem pow_mod (x : Int) {p : Nat} (hp : 1 ≤ p) : ∀ k : Nat, (p : Int) ∣ (rs x p : Int) ^ k - x ^ k
  | 0 => by simp
  | k + 1 => by rw [Int.pow_succ, Int.pow_succ]; exact cong_mul (pow_mod x hp k) (rs_cong hp x)

theorem pw_cong (x : Int) (k : Nat) {p : Nat} (hp : 1 ≤ p) : (p : Int) ∣ (pw x k p : Int) - x ^ k := by
  have h1 : (p : Int) ∣ (pw x k p : Int) - (rs x p : Int) ^ k := by
    unfold pw
    rw [Int.natCast_emod, natpow_cast]
    exact mod_cong _
  exact cong_tr h1 (pow_mod x hp k)

def iv (p : Nat) (x : Int) : Nat := pw x (p - 2 + (p - 1) * (2 / p)) p

theorem iv_lt {p : Nat} (hp : 1 ≤ p) (x : Int) : iv p x < p := pw_lt _ _ hp

theorem iv_ok {p : Nat} (hp : Pr p) {x : Int} (h : ¬ (p : Int) ∣ x) : (p : Int) ∣ x * (iv p x : Int) - 1 := by
  have hp1 := hp.1
  have h1 : (p : Int) ∣ x * (iv p x : Int) - x * x ^ (p - 2 + (p - 1) * (2 / p)) := cong_mul (by simp) (pw_cong x _ (by omega))
  refine cong_tr h1 ?_
  rw [Int.mul_comm, ← Int.pow_succ]
  have h2 : (p : Int) ∣ (x ^ (p - 1) - 1) := by
    have hf := fermat hp (rs x p)
    have h3 : (p : Int) ∣ (rs x p : Int) ^ p - (rs x p : Int) := by
      have h4 : (p : Int) ∣ ((rs x p ^ p : Nat) : Int) - ((rs x p : Nat) : Int) := by
        have e1 := mod_cong (p := p) ((rs x p ^ p : Nat) : Int)
        have e2 := mod_cong (p := p) ((rs x p : Nat) : Int)
        have e3 : ((rs x p ^ p : Nat) : Int) % (p : Int) = ((rs x p : Nat) : Int) % (p : Int) := by
          rw [← Int.natCast_emod, ← Int.natCast_emod, hf]
        rw [e3] at e1
        exact cong_tr (cong_sy e1) e2
      rwa [natpow_cast] at h4
    have h5 : (p : Int) ∣ x ^ p - x := cong_tr (cong_sy (pow_mod x (by omega) p)) (cong_tr h3 (rs_cong (by omega) x))
    have e : x ^ p - x = x * (x ^ (p - 1) - 1) := by
      obtain ⟨k, rfl⟩ : ∃ k, p = k + 1 := ⟨p - 1, by omega⟩
      rw [Nat.add_sub_cancel, Int.pow_succ, Int.mul_sub, Int.mul_comm (x ^ k)]; omega
    rw [e] at h5
    rcases int_dvd_mul hp h5 with h6 | h6
    · exact absurd h6 h
    · exact h6
  by_cases e2 : p = 2
  · subst e2
    have h3 : (2 : Int) ∣ x - 1 := by
      have e1 : x ^ (2 - 1) = x := by show x ^ 1 = x; rw [Int.pow_succ, Int.pow_zero, Int.one_mul]
      rw [e1] at h2; exact h2
    have h4 := cong_mul h3 h3
    have e : x ^ (2 - 2 + (2 - 1) * (2 / 2)).succ = x * x := by
      show x ^ 2 = _
      rw [Int.pow_succ, Int.pow_succ, Int.pow_zero, Int.one_mul]
    rw [e]
    simpa using h4
  · rw [Nat.div_eq_of_lt (by omega), Nat.mul_zero, Nat.add_zero, show (p - 2).succ = p - 1 by omega]
    exact h2

theorem iv_uniq {p : Nat} (hp : Pr p) {x y : Int} (h : ¬ (p : Int) ∣ x) (hy : 0 ≤ y ∧ y < (p : Int)) (h1 : (p : Int) ∣ y * x - 1) : y = (iv p x : Int) := by
  have hp1 := hp.1
  have h2 := iv_ok hp h
  have h3 : (p : Int) ∣ x * (y - (iv p x : Int)) := by
    have := Int.dvd_sub h1 h2
    rwa [show y * x - 1 - (x * (iv p x : Int) - 1) = x * (y - (iv p x : Int)) by rw [Int.mul_sub, Int.mul_comm]; omega] at this
  have hl := iv_lt (p := p) (by omega) x
  rcases int_dvd_mul hp h3 with h4 | h4
  · exact absurd h4 h
  · exact small_of h4 hy ⟨by omega, by omega⟩

/-! ### quotients -/

def DivIs (p : Nat) (a b q r : List Int) : Prop := Cn p q ∧ Cn p r ∧ r.length < b.length ∧ Q p a (padd (pmul q b) r)

theorem DivIs.short {p : Nat} {a b : List Int} (ha : Cn p a) (h : a.length < b.length) : DivIs p a b [] a := ⟨Cn.nil p, ha, h, Q.refl p a⟩

theorem DivIs.uniq {p : Nat} (hp : Pr p) {a b q r q' r' : List Int} (hb : Cn p b) (nb : b ≠ []) (h : DivIs p a b q r) (k : DivIs p a b q' r') : q = q' ∧ r = r' :=
  div_uniq hp hb nb h.1 h.2.1 k.1 k.2.1 h.2.2.1 k.2.2.1 (h.2.2.2.symm.trans k.2.2.2)

/-- Above i all is done: the quotient is g there, f is left. -/
def Dst (p : Nat) (a b : List Int) (n i : Nat) (g f : Nat → Int) : Prop :=
  (∀ t, 0 ≤ f t ∧ f t < (p : Int)) ∧ (∀ s, 0 ≤ g s ∧ g s < (p : Int)) ∧ (∀ s, s < i → g s = 0) ∧ (∀ t, i + b.length ≤ t + 1 → f t = 0) ∧
  Q p a (padd (pmul (mk n g) b) (mk a.length f)) ∧ (i = n → f = co a) ∧ (i < n → g (n - 1) ≠ 0)

theorem Dst.start {p : Nat} (hp : 1 ≤ p) {a b : List Int} (ha : Cn p a) {n : Nat} (hn : a.length ≤ n + b.length - 1) (nb : b ≠ []) : Dst p a b n n (fun _ => 0) (co a) := by
  have lb := pos_of_ne nb
  refine ⟨fun t => ha.bd hp t, fun s => ⟨Int.le_refl _, by show (0 : Int) < p; omega⟩, fun s _ => rfl, fun t ht => co_over (by omega), fun t => ?_, fun _ => rfl, fun h => absurd h (by omega)⟩
  rw [co_padd, mk_of]
  have h0 : co (pmul (mk n (fun _ => 0)) b) t = 0 := by
    rw [← su_pt _ b t (n := n) (by rw [mk_length]; omega)]
    rw [su_stop (m := 0) (Nat.zero_le _) (fun s _ hs => by unfold pt; split <;> simp [co_mk])]; rfl
  rw [h0]; simp

/-- What is left while a multiple of b is taken away. -/
def dvf (p : Nat) (b : List Int) (c : Int) (i : Nat) (f : Nat → Int) (j : Nat) : Nat → Int := fun t => if i ≤ t ∧ t < i + j then (rs (f t - c * co b (t - i)) p : Int) else f t

theorem dvf_zero (p : Nat) (b : List Int) (c : Int) (i : Nat) (f : Nat → Int) : dvf p b c i f 0 = f := by
  funext t; unfold dvf; rw [if_neg (by omega)]

theorem dvf_at (p : Nat) (b : List Int) (c : Int) (i : Nat) (f : Nat → Int) (j : Nat) : dvf p b c i f j (i + j) = f (i + j) := by
  unfold dvf; rw [if_neg (by omega)]

theorem dvf_bd {p : Nat} (hp : 1 ≤ p) (b : List Int) (c : Int) (i : Nat) {f : Nat → Int} (hf : ∀ t, 0 ≤ f t ∧ f t < (p : Int)) (j t : Nat) : 0 ≤ dvf p b c i f j t ∧ dvf p b c i f j t < (p : Int) := by
  unfold dvf; split
  · exact rs_bd hp _
  · exact hf t

theorem dvf_step (p : Nat) (b : List Int) (c : Int) (i : Nat) (f : Nat → Int) (j : Nat) : up1 (dvf p b c i f j) (i + j) (rs (f (i + j) - c * co b j) p : Int) = dvf p b c i f (j + 1) := by
  funext t
  by_cases h : t = i + j
  · subst h
    rw [up1_self]; unfold dvf
    rw [if_pos (by omega), show i + j - i = j by omega]
  · rw [up1_other _ _ h]; unfold dvf
    by_cases h2 : i ≤ t ∧ t < i + j
    · rw [if_pos h2, if_pos (by omega)]
    · rw [if_neg h2, if_neg (by omega)]

theorem Dst.next {p : Nat} (hp : Pr p) {a b : List Int} (ha : Cn p a) (hb : Cn p b) (na : a ≠ []) (nb : b ≠ []) {n i : Nat} {g f : Nat → Int} (hn : n + b.length = a.length + 1) (hi : i < n) (h : Dst p a b n (i + 1) g f)
    {c : Int} (hc : c = f (i + b.length - 1) * (iv p (co b (b.length - 1)) : Int) % (p : Int)) :
    Dst p a b n i (up1 g i c) (dvf p b c i f b.length) := by
  have hp1 := hp.1
  have lb := pos_of_ne nb
  have la := pos_of_ne na
  obtain ⟨h1, h2, h3, h4, h5, h6, h7⟩ := h
  have cb : 0 ≤ c ∧ c < (p : Int) := by rw [hc]; exact mod_bd (by omega) _
  have ht := hb.top (by omega) nb
  have hinv := iv_ok hp ht
  refine ⟨fun t => dvf_bd (by omega) b c i h1 _ t, fun s => ?_, fun s hs => ?_, fun t ht' => ?_, fun t => ?_, fun e => absurd e (by omega), fun _ => ?_⟩
  · unfold up1; split
    · exact cb
    · exact h2 s
  · rw [up1_other _ _ (by omega)]; exact h3 s (by omega)
  · by_cases e : t = i + b.length - 1
    · subst e
      unfold dvf
      rw [if_pos (by omega), show i + b.length - 1 - i = b.length - 1 by omega]
      have hd : (p : Int) ∣ f (i + b.length - 1) - c * co b (b.length - 1) := by
        have e1 : (p : Int) ∣ c * co b (b.length - 1) - f (i + b.length - 1) * (iv p (co b (b.length - 1)) : Int) * co b (b.length - 1) := cong_mul (by rw [hc]; exact mod_cong _) (by simp)
        have e2 : (p : Int) ∣ f (i + b.length - 1) * (co b (b.length - 1) * (iv p (co b (b.length - 1)) : Int)) - f (i + b.length - 1) * 1 := cong_mul (by simp) hinv
        rw [Int.mul_assoc, Int.mul_comm (iv p (co b (b.length - 1)) : Int)] at e1
        have := cong_sy (cong_tr e1 e2)
        rwa [Int.mul_one] at this
      rw [rs_zero (by omega) hd]; rfl
    · unfold dvf
      rw [if_neg (by omega)]
      exact h4 t (by omega)
  · have hq := h5 t
    rw [co_padd] at hq ⊢
    have e1 : co (pmul (mk n (up1 g i c)) b) t = co (pmul (mk n g) b) t + (if i ≤ t then c * co b (t - i) else 0) := by
      rw [← su_pt (mk n (up1 g i c)) b t (n := n) (by rw [mk_length]; omega), ← su_pt (mk n g) b t (n := n) (by rw [mk_length]; omega)]
      rw [su_up (i := i) (f := pt (mk n g) b t) (g := pt (mk n (up1 g i c)) b t) (fun s hs => by
        unfold pt; rw [co_mk, co_mk, up1_other _ _ hs]) (by
        unfold pt; rw [co_mk, if_pos hi, h3 i (by omega)]; split <;> simp) n, if_pos hi]
      congr 1
      unfold pt
      rw [co_mk, if_pos hi, up1_self]
    have e2 : (p : Int) ∣ co (mk a.length (dvf p b c i f b.length)) t + (if i ≤ t then c * co b (t - i) else 0) - co (mk a.length f) t := by
      rw [co_mk, co_mk]
      by_cases hta : t < a.length
      · rw [if_pos hta, if_pos hta]
        unfold dvf
        by_cases hr : i ≤ t ∧ t < i + b.length
        · rw [if_pos hr, if_pos hr.1]
          have := rs_cong (p := p) (by omega) (f t - c * co b (t - i))
          rwa [show (rs (f t - c * co b (t - i)) p : Int) - (f t - c * co b (t - i)) = (rs (f t - c * co b (t - i)) p : Int) + c * co b (t - i) - f t by omega] at this
        · rw [if_neg hr]
          by_cases h8 : i ≤ t
          · rw [if_pos h8, co_over (l := b) (by omega)]; simp
          · rw [if_neg h8]; simp
      · rw [if_neg hta, if_neg hta]
        by_cases h8 : i ≤ t
        · rw [if_pos h8, co_over (l := b) (by omega)]; simp
        · rw [if_neg h8]; simp
    rw [e1]
    have := Int.dvd_sub hq e2
    generalize (if i ≤ t then c * co b (t - i) else 0) = z at *
    rwa [show co a t - (co (pmul (mk n g) b) t + co (mk a.length f) t) - (co (mk a.length (dvf p b c i f b.length)) t + z - co (mk a.length f) t) = co a t - (co (pmul (mk n g) b) t + z + co (mk a.length (dvf p b c i f b.length)) t) by omega] at this
  · by_cases e : i = n - 1
    · subst e
      rw [up1_self, hc]
      rw [h6 (by omega), show n - 1 + b.length - 1 = a.length - 1 by omega]
      intro e0
      have hd : (p : Int) ∣ co a (a.length - 1) * (iv p (co b (b.length - 1)) : Int) := Int.dvd_of_emod_eq_zero e0
      rcases int_dvd_mul hp hd with hd | hd
      · exact ha.top (by omega) na hd
      · have h9 : (p : Int) ∣ co b (b.length - 1) * (iv p (co b (b.length - 1)) : Int) := Int.dvd_mul_of_dvd_right hd
        have h8 := Int.dvd_sub h9 hinv
        rw [show ∀ x : Int, x - (x - 1) = 1 from fun x => by omega] at h8
        have := Int.le_of_dvd (by omega) h8
        omega
    · rw [up1_other _ _ (by omega)]
      exact h7 (by omega)

theorem Dst.done {p : Nat} (hp : 1 ≤ p) {a b : List Int} (nb : b ≠ []) {n : Nat} {g f : Nat → Int} (hn : 1 ≤ n) (h : Dst p a b n 0 g f) : DivIs p a b (mk n g) (tr (mk a.length f)) := by
  have lb := pos_of_ne nb
  obtain ⟨h1, h2, h3, h4, h5, h6, h7⟩ := h
  have hr : Cn p (tr (mk a.length f)) := tr_cn (Bd.mk fun i _ => h1 i)
  refine ⟨⟨Bd.mk fun i _ => h2 i, fun _ => ?_⟩, hr, ?_, h5.trans ((Q.refl p _).padd (tr_q p _).symm)⟩
  · rw [mk_length, co_mk, if_pos (by omega)]
    exact h7 (by omega)
  · have := hr.len_le hp (k := b.length - 1) (fun i hi => by
      rw [co_tr, co_mk, h4 i (by omega)]; simp)
    omega

/-! ### values -/

theorem drop_ev (x : Int) {a : List Int} {k : Nat} (h : k < a.length) : ev (a.drop k) x = co a k + x * ev (a.drop (k + 1)) x := by
  rw [List.drop_eq_getElem_cons h]
  show a[k] + x * ev (a.drop (k + 1)) x = _
  simp [co, List.getD, h]

def hv (p : Nat) (a : List Int) (x : Int) (k : Nat) : Nat := rs (ev (a.drop k) x) p

theorem hv_end {p : Nat} (hp : 1 ≤ p) (a : List Int) (x : Int) : hv p a x a.length = 0 := by
  unfold hv
  rw [List.drop_of_length_le (Nat.le_refl _)]
  exact rs_zero hp (by simp [ev])

theorem hv_step {p : Nat} (hp : 1 ≤ p) (a : List Int) (x : Int) {k : Nat} (h : k < a.length) : rs ((hv p a x (k + 1) : Int) * x + co a k) p = hv p a x k := by
  unfold hv
  refine rs_of hp ?_
  rw [drop_ev x h]
  have h1 := cong_mul (rs_cong hp (ev (a.drop (k + 1)) x)) (show (p : Int) ∣ x - x by simp)
  rw [Int.mul_comm (ev (a.drop (k + 1)) x)] at h1
  rw [Int.add_comm (co a k)]
  exact cong_add h1 (by simp)

theorem hv_zero (p : Nat) (a : List Int) (x : Int) : hv p a x 0 = rs (ev a x) p := rfl

def vl (p : Nat) (a : List Int) (x : Int) (k : Nat) : Int := ev (a.take k) x % (p : Int)

theorem vl_zero (p : Nat) (a : List Int) (x : Int) : vl p a x 0 = 0 := by simp [vl, ev]

theorem vl_step {p : Nat} (hp : 1 ≤ p) (a : List Int) (x : Int) {k : Nat} (h : k < a.length) : (vl p a x k + co a k * (pw x k p : Int)) % (p : Int) = vl p a x (k + 1) := by
  unfold vl
  rw [ev_take x a k h, Int.emod_add_emod]
  refine Int.emod_eq_emod_iff_emod_sub_eq_zero.2 (Int.emod_eq_zero_of_dvd ?_)
  exact cong_add (by simp) (cong_mul (by simp) (pw_cong x k hp))

theorem vl_done {p : Nat} (hp : 1 ≤ p) (a : List Int) (x : Int) : vl p a x a.length = (rs (ev a x) p : Int) := by
  unfold vl
  rw [List.take_of_length_le (Nat.le_refl _), rs_cast _ hp]

theorem vl_bd {p : Nat} (hp : 1 ≤ p) (a : List Int) (x : Int) (k : Nat) : 0 ≤ vl p a x k ∧ vl p a x k < (p : Int) := mod_bd hp _

end Go.Proofs.Ytpnmepobdnclkaa.Num34

namespace Go.Proofs.Ytpnmepobdnclkaa.Num35
set_option linter.unusedVariables false
open Go.Proofs.Ytpnmepobdnclkaa.Num Go.Proofs.Ytpnmepobdnclkaa.Num7 Go.Proofs.Ytpnmepobdnclkaa.Num13 Go.Proofs.Ytpnmepobdnclkaa.Num16 Go.Proofs.Ytpnmepobdnclkaa.Num17 Go.Proofs.Ytpnmepobdnclkaa.Num34

/-! ### the greatest that divides both -/

/-- What divides both and is greatest, with the last number 1; none, if both are none. -/
def GcdIs (p : Nat) (a b g : List Int) : Prop := Cn p g ∧ (∀ d, Dv p d g ↔ (Dv p d a ∧ Dv p d b)) ∧ (g ≠ [] → co g (g.length - 1) = 1)

theorem dv_nil {p : Nat} (hp : 1 ≤ p) {a : List Int} (ha : Cn p a) (h : Dv p [] a) : a = [] := by
  obtain ⟨c, hc⟩ := h
  exact (ha.uniq hp (Cn.nil p) (by exact hc.symm))

theorem GcdIs.uniq {p : Nat} (hp : Pr p) {a b g g' : List Int} (h : GcdIs p a b g) (k : GcdIs p a b g') : g = g' := by
  have hp1 := hp.1
  rcases Classical.em (g = []) with e | e
  · subst e
    exact (dv_nil (by omega) k.1 ((k.2.1 []).2 ((h.2.1 []).1 (Dv.self p [])))).symm
  · rcases Classical.em (g' = []) with e2 | e2
    · subst e2
      exact dv_nil (by omega) h.1 ((h.2.1 []).2 ((k.2.1 []).1 (Dv.self p [])))
    · exact dv_anti hp h.1 k.1 e e2 (h.2.2 e) (k.2.2 e2) ((k.2.1 g).2 ((h.2.1 g).1 (Dv.self p g))) ((h.2.1 g').2 ((k.2.1 g').1 (Dv.self p g')))

theorem GcdIs.nil_iff {p : Nat} (hp : 1 ≤ p) {a b g : List Int} (ha : Cn p a) (hb : Cn p b) (h : GcdIs p a b g) : g = [] ↔ (a = [] ∧ b = []) := by
  constructor
  · rintro rfl
    have := (h.2.1 []).1 (Dv.self p [])
    exact ⟨dv_nil hp ha this.1, dv_nil hp hb this.2⟩
  · rintro ⟨rfl, rfl⟩
    exact dv_nil hp h.1 ((h.2.1 []).2 ⟨Dv.nil p [], Dv.nil p []⟩)

/-- On the way: the same divide both. -/
def Gst (p : Nat) (a b a' b' : List Int) : Prop := Cn p a' ∧ Cn p b' ∧ ∀ d, (Dv p d a' ∧ Dv p d b') ↔ (Dv p d a ∧ Dv p d b)

theorem Gst.start {p : Nat} {a b : List Int} (ha : Cn p a) (hb : Cn p b) : Gst p a b a b := ⟨ha, hb, fun _ => Iff.rfl⟩

theorem Gst.step {p : Nat} {a b a' b' q r : List Int} (h : Gst p a b a' b') (hd : DivIs p a' b' q r) : Gst p a b b' r :=
  ⟨h.2.1, hd.2.1, fun d => (dv_step hd.2.2.2 d).symm.trans (h.2.2 d)⟩

theorem pmul_single (k : Int) (a : List Int) : Eqv (pmul [k] a) (psc k a) := fun i => by
  show co (padd (psc k a) (0 :: pmul [] a)) i = _
  rw [co_padd, show (0 :: pmul [] a : List Int) = [0] from rfl, sh_nil i, co_nil]; omega

theorem scale_facts {p : Nat} (hp : Pr p) {a : List Int} (ha : Cn p a) (na : a ≠ []) {c : Int} (hc : (p : Int) ∣ co a (a.length - 1) * c - 1) :
    (nm p (psc c a)).length = a.length ∧ co (nm p (psc c a)) (a.length - 1) = 1 := by
  have hp1 := hp.1
  have la := pos_of_ne na
  have hq := nm_q (p := p) (by omega) (psc c a)
  have hcn := nm_cn (p := p) (by omega) (psc c a)
  have ht := hq (a.length - 1)
  rw [co_psc] at ht
  have h1 : (p : Int) ∣ co (nm p (psc c a)) (a.length - 1) - 1 := cong_tr ht (by rw [Int.mul_comm]; exact hc)
  have e1 : co (nm p (psc c a)) (a.length - 1) = 1 := small_of h1 (hcn.bd (by omega) _) ⟨by omega, by omega⟩
  refine ⟨?_, e1⟩
  have l1 : (nm p (psc c a)).length ≤ a.length := by
    have := nm_length p (psc c a)
    simpa [psc] using this
  have l2 : a.length - 1 < (nm p (psc c a)).length := by
    rcases Nat.lt_or_ge (a.length - 1) (nm p (psc c a)).length with h | h
    · exact h
    · rw [co_over h] at e1; exact absurd e1 (by omega)
  omega

theorem Gst.done {p : Nat} (hp : Pr p) {a b a' : List Int} (h : Gst p a b a' []) (na : a' ≠ []) : GcdIs p a b (nm p (psc (iv p (co a' (a'.length - 1)) : Int) a')) := by
  have hp1 := hp.1
  have hc := iv_ok hp (h.1.top (by omega) na)
  generalize (iv p (co a' (a'.length - 1)) : Int) = c at *
  obtain ⟨e1, e2⟩ := scale_facts hp h.1 na hc
  have hq := nm_q (p := p) (by omega) (psc c a')
  refine ⟨nm_cn (by omega) _, fun d => ?_, fun _ => by rw [e1]; exact e2⟩
  refine Iff.trans ?_ (h.2.2 d)
  constructor
  · intro hd
    refine ⟨?_, Dv.nil p d⟩
    have h2 := hd.mul [co a' (a'.length - 1)]
    refine h2.q ?_
    refine (Eqv.q (pmul_single _ _)).trans ?_
    intro i
    have hi := hq i
    rw [co_psc] at hi ⊢
    obtain ⟨u, hu⟩ := hi
    obtain ⟨v, hv⟩ := hc
    refine ⟨co a' (a'.length - 1) * u + v * co a' i, ?_⟩
    generalize co (nm p (psc c a')) i = x at *
    generalize co a' (a'.length - 1) = y at *
    generalize co a' i = z at *
    grind
  · rintro ⟨hd, _⟩
    exact ((hd.mul [c]).q (Eqv.q (pmul_single _ _))).q hq.symm

theorem Gst.none {p : Nat} {a b : List Int} (h : Gst p a b [] []) : GcdIs p a b [] :=
  ⟨Cn.nil p, fun d => by rw [← h.2.2 d]; exact ⟨fun h => ⟨h, h⟩, fun h => h.1⟩, fun h => absurd rfl h⟩

theorem nm_single {p : Nat} (hp : 1 ≤ p) (c : Int) (a : List Int) : nm p (pmul a [c]) = nm p (psc c a) :=
  nm_eq hp (Eqv.q ((pmul_comm a [c]).trans (pmul_single c a)))

theorem dvd_back {n a b : Int} (h : n ∣ a - b) (k : n ∣ b) : n ∣ a := by
  have := Int.dvd_add h k
  rwa [Int.sub_add_cancel] at this

/-! ### through points -/

/-- Goes through the first n points, with no more numbers than these. -/
def ThrIs (p : Nat) (X Y : Nat → Int) (n : Nat) (a : List Int) : Prop := Cn p a ∧ a.length ≤ n ∧ ∀ j, j < n → (p : Int) ∣ ev a (X j) - Y j

def Dist (p : Nat) (X : Nat → Int) (n : Nat) : Prop := ∀ i j, i < n → j < i → ¬ (p : Int) ∣ X i - X j

theorem ThrIs.uniq {p : Nat} (hp : Pr p) {X Y : Nat → Int} {n : Nat} (hd : Dist p X n) {a b : List Int} (ha : ThrIs p X Y n a) (hb : ThrIs p X Y n b) : a = b := by
  refine same_of_values hp ha.1 hb.1 (S := mk n X) (by rw [mk_length]; exact ha.2.1) (by rw [mk_length]; exact hb.2.1) ?_ ?_
  · rw [List.pairwise_iff_getElem]
    intro i j hi hj hij
    rw [mk_length] at hi hj
    have := hd j i hj hij
    simp only [mk, List.getElem_map, List.getElem_range]
    exact fun h => this (cong_sy h)
  · intro x hx
    obtain ⟨i, hi, rfl⟩ := mk_mem hx
    exact cong_tr (ha.2.2 i hi) (cong_sy (hb.2.2 i hi))

theorem ThrIs.start (p : Nat) (X Y : Nat → Int) : ThrIs p X Y 0 [] := ⟨Cn.nil p, Nat.le_refl _, fun j hj => absurd hj (by omega)⟩

/-- 0 at the first k places and nowhere else. -/
def ZeroIs (p : Nat) (X : Nat → Int) (k : Nat) (z : List Int) : Prop := Cn p z ∧ z.length = k + 1 ∧ (∀ j, j < k → (p : Int) ∣ ev z (X j)) ∧ ∀ x, (∀ j, j < k → ¬ (p : Int) ∣ x - X j) → ¬ (p : Int) ∣ ev z x

theorem cn_one {p : Nat} (hp : 2 ≤ p) : Cn p [1] := by
  refine ⟨fun x hx => ?_, fun _ => by simp [co]⟩
  obtain rfl : x = 1 := by simpa using hx
  exact ⟨by omega, by omega⟩

theorem not_one {p : Nat} (hp : 2 ≤ p) : ¬ (p : Int) ∣ 1 := not_dvd ⟨by omega, by omega⟩ (by omega)

theorem ev_one (x : Int) : ev [1] x = 1 := by simp [ev]

theorem ev_two (a b x : Int) : ev [a, b] x = a + x * b := by simp [ev]

theorem ZeroIs.start {p : Nat} (hp : 2 ≤ p) (X : Nat → Int) : ZeroIs p X 0 [1] :=
  ⟨cn_one hp, rfl, fun j hj => absurd hj (by omega), fun x _ => by rw [ev_one]; exact not_one hp⟩

theorem cn_two {p : Nat} (hp : 2 ≤ p) (x : Int) : Cn p [(rs x p : Int), 1] := by
  refine ⟨fun y hy => ?_, fun _ => by simp [co]⟩
  have := rs_bd (p := p) (by omega) x
  simp only [List.mem_cons, List.not_mem_nil, or_false] at hy
  rcases hy with rfl | rfl
  · exact this
  · exact ⟨by omega, by omega⟩

theorem ev_nm {p : Nat} (hp : 1 ≤ p) (a : List Int) (x : Int) : (p : Int) ∣ ev (nm p a) x - ev a x := (nm_q hp a).ev x

theorem ZeroIs.next {p : Nat} (hp : Pr p) {X : Nat → Int} {k : Nat} {z : List Int} (h : ZeroIs p X k z) : ZeroIs p X (k + 1) (nm p (pmul z [(rs (-X k) p : Int), 1])) := by
  have hp1 := hp.1
  obtain ⟨h1, h2, h3, h4⟩ := h
  have nz : z ≠ [] := fun e => by rw [e] at h2; simp at h2
  have hev : ∀ x, (p : Int) ∣ ev (nm p (pmul z [(rs (-X k) p : Int), 1])) x - ev z x * (x - X k) := fun x => by
    refine cong_tr (ev_nm (by omega) _ x) ?_
    rw [ev_pmul, ev_two]
    obtain ⟨u, hu⟩ := rs_cong (p := p) (by omega) (-X k)
    generalize ev z x = y at *
    generalize (rs (-X k) p : Int) = r at *
    exact ⟨y * u, by grind⟩
  refine ⟨nm_cn (by omega) _, ?_, fun j hj => ?_, fun x hx hd => ?_⟩
  · rw [mul_len hp h1 (cn_two (by omega) _) nz (by simp), h2]; simp
  · have h5 := hev (X j)
    by_cases e : j = k
    · subst e
      rw [Int.sub_self, Int.mul_zero] at h5
      simpa using h5
    · have h6 := Int.dvd_mul_of_dvd_left (c := X j - X k) (h3 j (by omega))
      have := Int.dvd_add h5 h6
      rwa [Int.sub_add_cancel] at this
  · have h5 := hev x
    have h6 : (p : Int) ∣ ev z x * (x - X k) := by
      have := Int.dvd_sub hd h5
      rwa [show ∀ a b : Int, a - (a - b) = b from fun a b => by omega] at this
    rcases int_dvd_mul hp h6 with h7 | h7
    · exact h4 x (fun j hj => hx j (by omega)) h7
    · exact hx k (by omega) h7

theorem ThrIs.next {p : Nat} (hp : Pr p) {X Y : Nat → Int} {k : Nat} {a z : List Int} (h : ThrIs p X Y k a) (hz : ZeroIs p X k z) (hd : ∀ j, j < k → ¬ (p : Int) ∣ X k - X j) {m : Int}
    (hm : m = (rs (Y k - (rs (ev a (X k)) p : Int)) p : Int) * (iv p (rs (ev z (X k)) p : Int) : Int) % (p : Int)) : ThrIs p X Y (k + 1) (nm p (padd a (nm p (psc m z)))) := by
  have hp1 := hp.1
  obtain ⟨a1, a2, a3⟩ := h
  obtain ⟨z1, z2, z3, z4⟩ := hz
  have hev : ∀ x, (p : Int) ∣ ev (nm p (padd a (nm p (psc m z)))) x - (ev a x + m * ev z x) := fun x => by
    refine cong_tr (ev_nm (by omega) _ x) ?_
    rw [ev_padd]
    refine cong_add (by simp) ?_
    have := ev_nm (p := p) (by omega) (psc m z) x
    rwa [ev_psc] at this
  refine ⟨nm_cn (by omega) _, ?_, fun j hj => ?_⟩
  · have l1 := nm_length p (padd a (nm p (psc m z)))
    have l2 := nm_length p (psc m z)
    have l3 : (psc m z).length = z.length := by simp [psc]
    rw [padd_length] at l1
    omega
  · have h5 := hev (X j)
    by_cases e : j = k
    · subst e
      refine cong_tr h5 ?_
      have hz0 : ¬ (p : Int) ∣ ev z (X j) := z4 _ hd
      have hz1 : ¬ (p : Int) ∣ (rs (ev z (X j)) p : Int) := fun h => hz0 (by
        have := Int.dvd_sub h (rs_cong (p := p) (by omega) (ev z (X j)))
        rwa [show ∀ a b : Int, a - (a - b) = b from fun a b => by omega] at this)
      obtain ⟨u1, h1⟩ := iv_ok hp hz1
      obtain ⟨u2, h2⟩ := rs_cong (p := p) (by omega) (ev z (X j))
      obtain ⟨u3, h3⟩ := rs_cong (p := p) (by omega) (Y j - (rs (ev a (X j)) p : Int))
      obtain ⟨u4, h4⟩ := rs_cong (p := p) (by omega) (ev a (X j))
      obtain ⟨u5, h5⟩ := mod_cong (p := p) ((rs (Y j - (rs (ev a (X j)) p : Int)) p : Int) * (iv p (rs (ev z (X j)) p : Int) : Int))
      rw [← hm] at h5
      clear hm hev z4 z3 a3 hd hz0 hz1
      generalize (iv p (rs (ev z (X j)) p : Int) : Int) = v at *
      generalize (rs (Y j - (rs (ev a (X j)) p : Int)) p : Int) = s at *
      generalize (rs (ev z (X j)) p : Int) = rz at *
      generalize (rs (ev a (X j)) p : Int) = ra at *
      generalize ev z (X j) = ez at *
      generalize ev a (X j) = ea at *
      generalize Y j = y at *
      -- m = s v + p u5; s = y - ra + p u3; ra = ea + p u4; rz = ez + p u2; rz v = 1 + p u1
      have e1 : m = s * v + (p : Int) * u5 := by omega
      have e2 : s = y - ra + (p : Int) * u3 := by omega
      have e3 : ra = ea + (p : Int) * u4 := by omega
      have e4 : ez = rz - (p : Int) * u2 := by omega
      have e5 : rz * v = 1 + (p : Int) * u1 := by omega
      refine ⟨u5 * ez + s * u1 - s * v * u2 + u3 - u4, ?_⟩
      have e6 : m * ez = s * (rz * v) - (p : Int) * (s * v * u2) + (p : Int) * (u5 * ez) := by
        rw [e1, Int.add_mul, Int.mul_assoc (p : Int), show s * v * ez = s * (rz * v) - (p : Int) * (s * v * u2) by rw [e4]; clear e1 e2 e3 e4 e5 h1 h2 h3 h4 h5; grind]
      rw [e6, e5]
      clear e6 e5 e1 h1 h2 h3 h4 h5
      grind
    · have h6 := a3 j (by omega)
      have h7 := Int.dvd_mul_of_dvd_right (b := m) (z3 j (by omega))
      refine cong_tr h5 ?_
      have := Int.dvd_add h6 h7
      rwa [show ev a (X j) - Y j + m * ev z (X j) = ev a (X j) + m * ev z (X j) - Y j by omega] at this

/-! ### the document's way through points -/

/-- Through the point i, 0 at the other ones so far. -/
def OneIs (p : Nat) (X : Nat → Int) (i : Nat) (y : Int) (j : Nat) (o : List Int) : Prop :=
  Bd p o ∧ o.length ≤ (if i < j then j else j + 1) ∧ (p : Int) ∣ ev o (X i) - y ∧ ∀ t, t < j → t ≠ i → (p : Int) ∣ ev o (X t)

theorem OneIs.start {p : Nat} (X : Nat → Int) (i : Nat) {y : Int} (hy : 0 ≤ y ∧ y < (p : Int)) : OneIs p X i y 0 [y] := by
  refine ⟨fun x hx => ?_, by rw [if_neg (by omega)]; simp, by simp [ev], fun t ht => absurd ht (by omega)⟩
  obtain rfl : x = y := by simpa using hx
  exact hy

theorem OneIs.skip {p : Nat} {X : Nat → Int} {i : Nat} {y : Int} {o : List Int} (h : OneIs p X i y i o) : OneIs p X i y (i + 1) o := by
  obtain ⟨h1, h2, h3, h4⟩ := h
  refine ⟨h1, ?_, h3, fun t ht hne => h4 t (by omega) hne⟩
  rw [if_neg (by omega)] at h2
  rw [if_pos (by omega)]; exact h2

theorem mul_nm_len {p : Nat} (hp : 1 ≤ p) (a b : List Int) : (nm p (pmul a b)).length ≤ a.length + b.length - 1 :=
  (nm_cn hp _).len_le hp (fun i hi => by
    have h := nm_q hp (pmul a b) i
    rw [mul_over hi] at h
    simpa using h)

theorem OneIs.next {p : Nat} (hp : Pr p) {X : Nat → Int} {i j : Nat} {y : Int} {o : List Int} (h : OneIs p X i y j o) (hne : j ≠ i) (hd : ¬ (p : Int) ∣ X i - X j) {k : Int} (hk : k = (iv p (rs (X i - X j) p : Int) : Int)) :
    OneIs p X i y (j + 1) (nm p (pmul (tr o) (tr [(rs (-X j * k) p : Int), k]))) := by
  have hp1 := hp.1
  obtain ⟨h1, h2, h3, h4⟩ := h
  have hev : ∀ x, (p : Int) ∣ ev (nm p (pmul (tr o) (tr [(rs (-X j * k) p : Int), k]))) x - ev o x * ((x - X j) * k) := fun x => by
    refine cong_tr (ev_nm (by omega) _ x) ?_
    rw [ev_pmul]
    refine cong_mul ((tr_q p o).ev x) (cong_tr ((tr_q p _).ev x) ?_)
    rw [ev_two]
    obtain ⟨u, hu⟩ := rs_cong (p := p) (by omega) (-X j * k)
    generalize (rs (-X j * k) p : Int) = r at *
    exact ⟨u, by grind⟩
  refine ⟨(nm_cn (by omega) _).1, ?_, ?_, fun t ht hti => ?_⟩
  · have l1 := mul_nm_len (p := p) (by omega) (tr o) (tr [(rs (-X j * k) p : Int), k])
    have l2 := tr_length o
    have l3 := tr_length [(rs (-X j * k) p : Int), k]
    have l4 : [(rs (-X j * k) p : Int), k].length = 2 := rfl
    by_cases e : i < j
    · rw [if_pos e] at h2
      rw [if_pos (by omega)]; omega
    · rw [if_neg e] at h2
      rw [if_neg (by omega)]; omega
  · refine cong_tr (hev (X i)) ?_
    have hz1 : ¬ (p : Int) ∣ (rs (X i - X j) p : Int) := fun h => hd (by
      have := Int.dvd_sub h (rs_cong (p := p) (by omega) (X i - X j))
      rwa [show ∀ a b : Int, a - (a - b) = b from fun a b => by omega] at this)
    obtain ⟨u1, e1⟩ := iv_ok hp hz1
    obtain ⟨u2, e2⟩ := rs_cong (p := p) (by omega) (X i - X j)
    obtain ⟨u3, e3⟩ := h3
    rw [← hk] at e1
    clear hev hk h4 hz1 hd
    generalize (rs (X i - X j) p : Int) = r at *
    generalize ev o (X i) = eo at *
    generalize X i - X j = d at *
    have f1 : d = r - (p : Int) * u2 := by omega
    have f2 : r * k = 1 + (p : Int) * u1 := by omega
    have f3 : eo = y + (p : Int) * u3 := by omega
    refine ⟨eo * u1 - eo * u2 * k + u3, ?_⟩
    have f4 : eo * (d * k) = eo * (r * k) - (p : Int) * (eo * u2 * k) := by rw [f1]; clear f1 f2 f3 e1 e2 e3; grind
    rw [f4, f2]
    clear f4 f2 f1 e1 e2 e3
    generalize eo * u2 * k = q at *
    have f5 : eo * (1 + (p : Int) * u1) = eo + (p : Int) * (eo * u1) := by clear f3; grind
    have f6 : (p : Int) * (eo * u1 - q + u3) = (p : Int) * (eo * u1) - (p : Int) * q + (p : Int) * u3 := by rw [Int.mul_add, Int.mul_sub]
    rw [f5, f6]; omega
  · refine dvd_back (hev (X t)) ?_
    by_cases e : t = j
    · subst e
      rw [Int.sub_self, Int.zero_mul, Int.mul_zero]; exact Int.dvd_zero _
    · exact Int.dvd_mul_of_dvd_left (h4 t (by omega) hti)

/-- Through the first i, 0 at the other ones. -/
def SumIs (p : Nat) (X Y : Nat → Int) (n i : Nat) (s : List Int) : Prop :=
  Cn p s ∧ s.length ≤ n ∧ (∀ j, j < i → (p : Int) ∣ ev s (X j) - Y j) ∧ ∀ j, i ≤ j → j < n → (p : Int) ∣ ev s (X j)

theorem SumIs.start (p : Nat) (X Y : Nat → Int) (n : Nat) : SumIs p X Y n 0 [] :=
  ⟨Cn.nil p, by simp, fun j hj => absurd hj (by omega), fun j _ _ => by simp [ev]⟩

theorem SumIs.next {p : Nat} (hp : 1 ≤ p) {X Y : Nat → Int} {n i : Nat} {s o : List Int} (h : SumIs p X Y n i s) (hi : i < n) (ho : OneIs p X i (Y i) n o) : SumIs p X Y n (i + 1) (nm p (padd s (tr o))) := by
  obtain ⟨s1, s2, s3, s4⟩ := h
  obtain ⟨o1, o2, o3, o4⟩ := ho
  have hev : ∀ x, (p : Int) ∣ ev (nm p (padd s (tr o))) x - (ev s x + ev o x) := fun x => by
    refine cong_tr (ev_nm hp _ x) ?_
    rw [ev_padd]
    exact cong_add (by simp) ((tr_q p o).ev x)
  refine ⟨nm_cn hp _, ?_, fun j hj => ?_, fun j hj hjn => ?_⟩
  · have l1 := nm_length p (padd s (tr o))
    have l2 := tr_length o
    rw [padd_length] at l1
    rw [if_pos hi] at o2
    omega
  · refine cong_tr (hev (X j)) ?_
    by_cases e : j = i
    · subst e
      have := Int.dvd_add (s4 j (Nat.le_refl _) hi) o3
      rwa [show ev s (X j) + (ev o (X j) - Y j) = ev s (X j) + ev o (X j) - Y j by omega] at this
    · have := Int.dvd_add (s3 j (by omega)) (o4 j (by omega) e)
      rwa [show ev s (X j) - Y j + ev o (X j) = ev s (X j) + ev o (X j) - Y j by omega] at this
  · exact dvd_back (hev (X j)) (Int.dvd_add (s4 j (by omega) hjn) (o4 j hjn (by omega)))

theorem SumIs.done {p : Nat} {X Y : Nat → Int} {n : Nat} {s : List Int} (h : SumIs p X Y n n s) : ThrIs p X Y n s := ⟨h.1, h.2.1, h.2.2.1⟩

end Go.Proofs.Ytpnmepobdnclkaa.Num35

namespace Go.Proofs.Ytpnmepobdnclkaa.Num36
set_option linter.unusedVariables false
open Go.Proofs.Ytpnmepobdnclkaa.Num Go.Proofs.Ytpnmepobdnclkaa.Num13 Go.Proofs.Ytpnmepobdnclkaa.Num16 Go.Proofs.Ytpnmepobdnclkaa.Num17 Go.Proofs.Ytpnmepobdnclkaa.Num20 Go.Proofs.Ytpnmepobdnclkaa.Num21 Go.Proofs.Ytpnmepobdnclkaa.Num22 Go.Proofs.Ytpnmepobdnclkaa.Num23 Go.Proofs.Ytpnmepobdnclkaa.Num34 Go.Proofs.Ytpnmepobdnclkaa.Num35

/-! ### digits -/

theorem nb_snoc (p : Nat) (d : Int) : ∀ l : List Int, nb p (l ++ [d]) = nb p l + p ^ l.length * d.toNat
  | [] => by simp [nb]
  | x :: xs => by
    show x.toNat + p * nb p (xs ++ [d]) = x.toNat + p * nb p xs + p ^ (xs.length + 1) * d.toNat
    rw [nb_snoc p d xs, Nat.mul_add, Nat.pow_succ, Nat.mul_comm (p ^ xs.length) p, Nat.mul_assoc]; omega

/-- The first i digits. -/
def dgf (p a : Nat) (t : Nat) : Int := ((a / p ^ t % p : Nat) : Int)

theorem dgf_bd {p : Nat} (hp : 1 ≤ p) (a t : Nat) : 0 ≤ dgf p a t ∧ dgf p a t < (p : Int) := by
  unfold dgf
  have := Nat.mod_lt (a / p ^ t) (show p > 0 by omega)
  omega

theorem div_next (p a i : Nat) : a / p ^ i / p = a / p ^ (i + 1) := by rw [Nat.div_div_eq_div_mul, Nat.pow_succ]

theorem nb_dgf {p : Nat} (hp : 1 ≤ p) (a : Nat) : ∀ i, nb p (mk i (dgf p a)) + p ^ i * (a / p ^ i) = a
  | 0 => by simp [mk, nb]
  | i + 1 => by
    have ih := nb_dgf hp a i
    rw [mk_succ, nb_snoc, mk_length, ← div_next]
    have h1 : (dgf p a i).toNat = a / p ^ i % p := by unfold dgf; rw [Int.toNat_natCast]
    have h2 := Nat.mod_add_div (a / p ^ i) p
    rw [h1, Nat.pow_succ]
    have h3 : p ^ i * (a / p ^ i % p) + p ^ i * p * (a / p ^ i / p) = p ^ i * (a / p ^ i) := by
      rw [Nat.mul_assoc, ← Nat.mul_add, h2]
    omega

theorem dgf_done {p : Nat} (hp : 1 ≤ p) {a i : Nat} (h0 : a / p ^ i = 0) (hl : i = 0 ∨ a / p ^ (i - 1) ≠ 0) : Cn p (mk i (dgf p a)) ∧ nb p (mk i (dgf p a)) = a := by
  refine ⟨⟨Bd.mk fun t _ => dgf_bd hp a t, fun hne => ?_⟩, ?_⟩
  · rw [mk_length]
    have hi : i ≠ 0 := fun e => hne (by rw [e]; rfl)
    rw [co_mk, if_pos (by omega)]
    have h1 := hl.resolve_left hi
    obtain ⟨j, rfl⟩ : ∃ j, i = j + 1 := ⟨i - 1, by omega⟩
    rw [Nat.add_sub_cancel] at h1 ⊢
    rw [← div_next] at h0
    have h2 : a / p ^ j < p := by
      rcases Nat.lt_or_ge (a / p ^ j) p with h | h
      · exact h
      · have := Nat.div_pos h (by omega)
        omega
    unfold dgf
    rw [Nat.mod_eq_of_lt h2]
    omega
  · have := nb_dgf hp a i
    rw [h0, Nat.mul_zero] at this
    omega

theorem dgf_few {p a i : Nat} (hp : 2 ≤ p) (ha : a < 1048576) (h : i = 0 ∨ a / p ^ (i - 1) ≠ 0) : i ≤ 20 := by
  rcases h with h | h
  · omega
  · have h1 : p ^ (i - 1) ≤ a := by
      rcases Nat.lt_or_ge a (p ^ (i - 1)) with h2 | h2
      · exact absurd (Nat.div_eq_of_lt h2) h
      · exact h2
    have h3 : 2 ^ (i - 1) ≤ p ^ (i - 1) := Nat.pow_le_pow_left hp _
    rcases Nat.lt_or_ge (i - 1) 20 with h4 | h4
    · omega
    · have h5 : 2 ^ 20 ≤ 2 ^ (i - 1) := Nat.pow_le_pow_right (by omega) h4
      have h6 : (2 : Nat) ^ 20 = 1048576 := by decide
      omega

/-- The digits of a number that is not too great. -/
def dig (p a : Nat) : List Int := elm p 20 a

theorem pow20 {p : Nat} (hp : 2 ≤ p) : 1048576 ≤ p ^ 20 := by
  have h : 2 ^ 20 ≤ p ^ 20 := Nat.pow_le_pow_left hp 20
  have h6 : (2 : Nat) ^ 20 = 1048576 := by decide
  omega

theorem dig_cn {p : Nat} (hp : 1 ≤ p) (a : Nat) : Cn p (dig p a) := elm_cn hp 20 a

theorem dig_len20 (p a : Nat) : (dig p a).length ≤ 20 := elm_length p 20 a

theorem nb_dig {p a : Nat} (hp : 2 ≤ p) (ha : a < 1048576) : nb p (dig p a) = a := nb_elm (by omega) (Nat.lt_of_lt_of_le ha (pow20 hp))

theorem dig_nb {p : Nat} (hp : 1 ≤ p) {l : List Int} (hl : Cn p l) (h : l.length ≤ 20) : dig p (nb p l) = l := elm_nb hp hl h

theorem dig_of {p : Nat} (hp : 1 ≤ p) {l : List Int} {a : Nat} (hl : Cn p l) (h : l.length ≤ 20) (e : nb p l = a) : l = dig p a := by rw [← e, dig_nb hp hl h]

theorem dig_len {p a k : Nat} (hp : 1 ≤ p) (h : a < p ^ k) (hk : k ≤ 20) : (dig p a).length ≤ k := by
  have h1 := elm_length p k a
  have h2 := dig_of hp (elm_cn hp k a) (by omega) (nb_elm hp h)
  rw [← h2]; exact h1

theorem dig_zero {p : Nat} (hp : 1 ≤ p) : dig p 0 = [] := elm_zero hp 20

theorem dig_one {p : Nat} (hp : 2 ≤ p) : dig p 1 = [1] := elm_one hp (by omega)

theorem dig_inj {p a b : Nat} (hp : 2 ≤ p) (ha : a < 1048576) (hb : b < 1048576) (h : dig p a = dig p b) : a = b := by
  rw [← nb_dig hp ha, ← nb_dig hp hb, h]

theorem dig_done {p : Nat} (hp : 2 ≤ p) {a i : Nat} (ha : a < 1048576) (h0 : a / p ^ i = 0) (hl : i = 0 ∨ a / p ^ (i - 1) ≠ 0) : mk i (dgf p a) = dig p a := by
  obtain ⟨h1, h2⟩ := dgf_done (by omega) h0 hl
  exact dig_of (by omega) h1 (by rw [mk_length]; exact dgf_few hp ha hl) h2

/-! ### numbers -/

theorem nb_take {p : Nat} {l : List Int} {i : Nat} (h : i < l.length) : nb p (l.take (i + 1)) = nb p (l.take i) + p ^ i * (co l i).toNat := by
  rw [take_succ_co h, nb_snoc, List.length_take, Nat.min_eq_left (by omega)]

/-! ### sizes -/

def fsz (p : Nat) (f : List Int) : Nat := if p ^ (f.length - 1) ≤ 4096 then p ^ (f.length - 1) else 0

theorem fsz_le (p : Nat) (f : List Int) : fsz p f ≤ 4096 := by unfold fsz; split <;> omega

theorem pow_up {p : Nat} (hp : 1 ≤ p) {i j : Nat} (h : i ≤ j) (k : 4096 < p ^ i) : 4096 < p ^ j := Nat.lt_of_lt_of_le k (Nat.pow_le_pow_right hp h)

theorem fsz_deg {p : Nat} (hp : 2 ≤ p) {m : Nat} (h : p ^ m ≤ 4096) : m ≤ 12 := by
  rcases Nat.lt_or_ge m 13 with h1 | h1
  · omega
  · have h2 : 2 ^ 13 ≤ p ^ m := Nat.le_trans (Nat.pow_le_pow_left hp 13) (Nat.pow_le_pow_right (by omega) h1)
    have h3 : (2 : Nat) ^ 13 = 8192 := by decide
    omega

/-! ### products of two -/

/-- One that divides f has been found among the numbers below n. -/
def Fnd (p : Nat) (f : List Int) (a : Nat) : Prop := 2 * (dig p a).length ≤ f.length + 1 ∧ Dv p (dig p a) f

theorem dig_two {p a : Nat} (hp : 2 ≤ p) (ha : a < 1048576) (h : p ≤ a) : 2 ≤ (dig p a).length := by
  rcases Nat.lt_or_ge (dig p a).length 2 with h1 | h1
  · have h2 := nb_small (p := p) (by omega) (dig_cn (by omega) a) (k := 1) (by omega)
    rw [nb_dig hp ha, Nat.pow_one] at h2
    omega
  · exact h1

theorem nb_ge {p : Nat} (hp : 2 ≤ p) {l : List Int} (hl : Cn p l) (h2 : 2 ≤ l.length) : p ≤ nb p l := by
  rcases Nat.lt_or_ge (nb p l) p with h | h
  · exfalso
    have h3 : elm p 1 (nb p l) = elm p l.length (nb p l) := by
      have e1 := elm_nb (p := p) (by omega) (elm_cn (by omega) 1 (nb p l)) (k := l.length) (by have := elm_length p 1 (nb p l); omega)
      rw [nb_elm (by omega) (by rw [Nat.pow_one]; exact h)] at e1
      exact e1.symm
    rw [elm_nb (by omega) hl (Nat.le_refl _)] at h3
    have := elm_length p 1 (nb p l)
    rw [h3] at this
    omega
  · exact h

theorem irr_iff {p : Nat} (hp : Pr p) {f : List Int} (hf : Cn p f) (hfl : 2 ≤ f.length) (hs : p ^ (f.length - 1) ≤ 4096) : (∃ a, p ≤ a ∧ a < p ^ (f.length - 1) ∧ Fnd p f a) ↔ ¬ Irr p f := by
  have hp1 := hp.1
  have nf : f ≠ [] := fun e => by rw [e] at hfl; simp at hfl
  have hdeg := fsz_deg hp1 hs
  constructor
  · rintro ⟨a, h1, h2, h3, h4⟩ hI
    have ha : a < 1048576 := by omega
    obtain ⟨c, c1, c2, c3, c4, c5⟩ := h4.len hp (dig_cn (by omega) a) hf nf
    have l1 := dig_two hp1 ha h1
    have lc := pos_of_ne c2
    exact hI _ c (dig_cn (by omega) a) c1 l1 (by omega) c4
  · intro hn
    obtain ⟨a, b, ha, hb, la, lb, hq⟩ : ∃ a b, Cn p a ∧ Cn p b ∧ 2 ≤ a.length ∧ 2 ≤ b.length ∧ Q p (pmul a b) f := by
      rcases Classical.em (∃ a b, Cn p a ∧ Cn p b ∧ 2 ≤ a.length ∧ 2 ≤ b.length ∧ Q p (pmul a b) f) with h | h
      · exact h
      · exact absurd (fun a b h1 h2 h3 h4 h5 => h ⟨a, b, h1, h2, h3, h4, h5⟩) hn
    have na : a ≠ [] := fun e => by rw [e] at la; simp at la
    have nb' : b ≠ [] := fun e => by rw [e] at lb; simp at lb
    have hlen : f.length = a.length + b.length - 1 := by
      have h1 := mul_len hp ha hb na nb'
      rwa [nm_of (by omega) hf hq.symm] at h1
    have key : ∀ x y : List Int, Cn p x → 2 ≤ x.length → 2 ≤ y.length → f.length = x.length + y.length - 1 → x.length ≤ y.length → Q p (pmul x y) f → ∃ a, p ≤ a ∧ a < p ^ (f.length - 1) ∧ Fnd p f a := fun x y hx lx ly hl hle hq => by
      have hd : dig p (nb p x) = x := dig_nb (by omega) hx (by omega)
      refine ⟨nb p x, nb_ge hp1 hx lx, nb_small (by omega) hx (by omega), ?_, ?_⟩
      · rw [hd]; omega
      · rw [hd]; exact ⟨y, hq⟩
    rcases Nat.le_total a.length b.length with h | h
    · exact key a b ha la lb hlen h hq
    · exact key b a hb lb la (by omega) h ((Eqv.q (pmul_comm b a)).trans hq)

/-! ### sums and products -/

def fad (p a b : Nat) : Nat := nb p (nm p (padd (dig p a) (dig p b)))

/-- c is the product of a and b. -/
def FMul (p : Nat) (f : List Int) (a b c : Nat) : Prop := ∃ r, MulR p f (dig p a) (dig p b) r ∧ c = nb p r

theorem mulR_of {p : Nat} (hp : 1 ≤ p) {f a b q r : List Int} (h : DivIs p (nm p (pmul a b)) f q r) : MulR p f a b r := by
  obtain ⟨h1, h2, h3, h4⟩ := h
  refine ⟨h2, h3, ?_⟩
  refine ⟨q, ?_⟩
  intro i
  have e1 := h4 i
  have e2 := nm_q hp (pmul a b) i
  have e3 := pmul_comm f q i
  rw [co_padd] at e1 ⊢
  rw [co_pneg, e3]
  obtain ⟨u, hu⟩ := e1
  obtain ⟨v, hv⟩ := e2
  refine ⟨v - u, ?_⟩
  rw [Int.mul_sub]
  omega

theorem FMul.uniq {p : Nat} (hp : Pr p) {f : List Int} (hf : Cn p f) {a b c c' : Nat} (h : FMul p f a b c) (k : FMul p f a b c') : c = c' := by
  obtain ⟨r, h1, rfl⟩ := h
  obtain ⟨r', h2, rfl⟩ := k
  rw [h1.uniq hp hf h2]

/-! ### powers of an element: when they are 1 -/

/-- The element of a number below the size. -/
def el {p : Nat} (hp : 1 ≤ p) {f : List Int} (hf : 1 ≤ f.length ∧ f.length ≤ 13) {a : Nat} (ha : a < p ^ (f.length - 1)) : El p f :=
  ⟨dig p a, dig_cn hp a, by have := dig_len hp ha (by omega); omega⟩

end Go.Proofs.Ytpnmepobdnclkaa.Num36

namespace Go.Proofs.Ytpnmepobdnclkaa.Num37
set_option linter.unusedVariables false
open Go.Proofs.Ytpnmepobdnclkaa.Num Go.Proofs.Ytpnmepobdnclkaa.Num16 Go.Proofs.Ytpnmepobdnclkaa.Num17 Go.Proofs.Ytpnmepobdnclkaa.Num20 Go.Proofs.Ytpnmepobdnclkaa.Num21 Go.Proofs.Ytpnmepobdnclkaa.Num22 Go.Proofs.Ytpnmepobdnclkaa.Num23 Go.Proofs.Ytpnmepobdnclkaa.Num34 Go.Proofs.Ytpnmepobdnclkaa.Num35 Go.Proofs.Ytpnmepobdnclkaa.Num36

/-- What a field's reckoning does, on lists. -/
def Fits (p : Nat) (f : List Int) (F : Fd (El p f)) : Prop := F.zero.1 = [] ∧ F.one.1 = [1] ∧ (∀ a b, (F.add a b).1 = nm p (padd a.1 b.1)) ∧ (∀ a b, MulR p f a.1 b.1 (F.mul a b).1) ∧ ∀ x, nsm F p x = F.zero

/-- The number of an element. -/
def num {p : Nat} {f : List Int} (x : El p f) : Nat := nb p x.1

theorem num_lt {p : Nat} (hp : 1 ≤ p) {f : List Int} (x : El p f) : num x < p ^ (f.length - 1) := nb_small hp x.2.1 (by have := x.2.2; omega)

theorem el_num {p : Nat} (hp : 1 ≤ p) {f : List Int} (hf : 1 ≤ f.length ∧ f.length ≤ 13) (x : El p f) (h : num x < p ^ (f.length - 1)) : el hp hf h = x :=
  Subtype.ext (dig_nb hp x.2.1 (by have := x.2.2; omega))

theorem num_el {p : Nat} (hp : 2 ≤ p) {f : List Int} (hf : 1 ≤ f.length ∧ f.length ≤ 13) {a : Nat} (h : a < p ^ (f.length - 1)) (hs : p ^ (f.length - 1) ≤ 4096) : num (el (p := p) (by omega) hf h) = a := nb_dig hp (by omega)

theorem num_inj {p : Nat} (hp : 1 ≤ p) {f : List Int} (hf : 1 ≤ f.length ∧ f.length ≤ 13) {x y : El p f} (h : num x = num y) : x = y := by
  have h1 := el_num hp hf x (num_lt hp x)
  have h2 := el_num hp hf y (num_lt hp y)
  rw [← h1, ← h2]
  exact Subtype.ext (by show dig p (num x) = dig p (num y); rw [h])

theorem dig_num {p : Nat} (hp : 1 ≤ p) {f : List Int} (hf : f.length ≤ 13) (x : El p f) : dig p (num x) = x.1 := dig_nb hp x.2.1 (by have := x.2.2; omega)

theorem Fits.mul {p : Nat} (hp : Pr p) {f : List Int} (hf : Cn p f) (hl : f.length ≤ 13) {F : Fd (El p f)} (hF : Fits p f F) (x y : El p f) {c : Nat} (h : FMul p f (num x) (num y) c) : c = num (F.mul x y) := by
  have hp1 := hp.1
  refine h.uniq hp hf ⟨_, ?_, rfl⟩
  rw [dig_num (by omega) hl, dig_num (by omega) hl]
  exact hF.2.2.2.1 x y

theorem Fits.add {p : Nat} (hp : 1 ≤ p) {f : List Int} (hl : f.length ≤ 13) {F : Fd (El p f)} (hF : Fits p f F) (x y : El p f) : fad p (num x) (num y) = num (F.add x y) := by
  unfold fad num
  rw [show dig p (nb p x.1) = x.1 from dig_num hp hl x, show dig p (nb p y.1) = y.1 from dig_num hp hl y, hF.2.2.1]

theorem Fits.zero {p : Nat} {f : List Int} {F : Fd (El p f)} (hF : Fits p f F) : num F.zero = 0 := by unfold num; rw [hF.1]; rfl

theorem Fits.one {p : Nat} {f : List Int} {F : Fd (El p f)} (hF : Fits p f F) : num F.one = 1 := by unfold num; rw [hF.2.1]; simp [nb]

/-- The least one whose powers are all. -/
def BaseIs {p : Nat} {f : List Int} (F : Fd (El p f)) (n g : Nat) : Prop := (∃ x : El p f, num x = g ∧ Ord F x n) ∧ ∀ y : El p f, Ord F y n → g ≤ num y

theorem base_least {p : Nat} {f : List Int} (F : Fd (El p f)) (n : Nat) : ∀ (k : Nat), (∃ x : El p f, num x < k ∧ Ord F x n) → ∃ g, BaseIs F n g
  | 0, ⟨x, h, _⟩ => absurd h (by omega)
  | k + 1, ⟨x, h, ho⟩ => by
    rcases Classical.em (∃ y : El p f, num y < k ∧ Ord F y n) with h1 | h1
    · exact base_least F n k h1
    · refine ⟨num x, ⟨x, rfl, ho⟩, fun y hy => ?_⟩
      rcases Nat.lt_or_ge (num y) (num x) with h2 | h2
      · exact absurd ⟨y, by omega, hy⟩ h1
      · exact h2

theorem base_is {p : Nat} (hp : Pr p) {f : List Int} (hf : 1 ≤ f.length) {F : Fd (El p f)} (hF : Fits p f F) : ∃ g, BaseIs F (p ^ (f.length - 1) - 1) g := by
  obtain ⟨⟨x, hx⟩, _⟩ := field_cyclic hp hf F hF.1
  exact base_least F _ (num x + 1) ⟨x, by omega, hx⟩

theorem BaseIs.uniq {p : Nat} {f : List Int} {F : Fd (El p f)} {n g g' : Nat} (h : BaseIs F n g) (k : BaseIs F n g') : g = g' := by
  obtain ⟨⟨x, rfl, hx⟩, h2⟩ := h
  obtain ⟨⟨y, rfl, hy⟩, k2⟩ := k
  have := h2 y hy
  have := k2 x hx
  omega

end Go.Proofs.Ytpnmepobdnclkaa.Num37

namespace Go.Proofs.Ytpnmepobdnclkaa.Num38
set_option linter.unusedVariables false
open Go.Proofs.Ytpnmepobdnclkaa.Num13 (rs rs_cast)
open Go.Proofs.Ytpnmepobdnclkaa.Num Go.Proofs.Ytpnmepobdnclkaa.Num16 Go.Proofs.Ytpnmepobdnclkaa.Num17 Go.Proofs.Ytpnmepobdnclkaa.Num20 Go.Proofs.Ytpnmepobdnclkaa.Num21 Go.Proofs.Ytpnmepobdnclkaa.Num22 Go.Proofs.Ytpnmepobdnclkaa.Num23 Go.Proofs.Ytpnmepobdnclkaa.Num34 Go.Proofs.Ytpnmepobdnclkaa.Num35 Go.Proofs.Ytpnmepobdnclkaa.Num36 Go.Proofs.Ytpnmepobdnclkaa.Num37

/-! ### polynomials that end with 1 -/

theorem co_snoc (l : List Int) (x : Int) : co (l ++ [x]) l.length = x := by simp [co, List.getD]

theorem dig_monic {p : Nat} (hp : 2 ≤ p) {m n : Nat} (hm : m ≤ 12) (hn : n < p ^ m) : dig p (p ^ m + n) = dgs p m n ++ [1] := by
  symm
  refine dig_of (by omega) ⟨?_, ?_⟩ ?_ ?_
  · intro x hx
    rcases List.mem_append.1 hx with h | h
    · exact dgs_bd (by omega) m n x h
    · obtain rfl : x = 1 := by simpa using h
      omega
  · intro _
    have e : (dgs p m n ++ [1]).length - 1 = (dgs p m n).length := by simp
    rw [e, co_snoc]; omega
  · rw [List.length_append, dgs_length]; simp; omega
  · rw [nb_snoc, nb_dgs (by omega) m n hn, dgs_length]
    have : (1 : Int).toNat = 1 := rfl
    rw [this]; omega

theorem monic_len {p : Nat} (hp : 2 ≤ p) {m n : Nat} (hm : m ≤ 12) (hn : n < p ^ m) : (dig p (p ^ m + n)).length = m + 1 := by
  rw [dig_monic hp hm hn, List.length_append, dgs_length]; rfl

theorem monic_top {p : Nat} (hp : 2 ≤ p) {m n : Nat} (hm : m ≤ 12) (hn : n < p ^ m) : co (dig p (p ^ m + n)) m = 1 := by
  rw [dig_monic hp hm hn]
  have := co_snoc (dgs p m n) 1
  rwa [dgs_length] at this

theorem nb_monic {p : Nat} (hp : 2 ≤ p) {x : List Int} {m : Nat} (hx : Cn p x) (hl : x.length = m + 1) (h1 : co x m = 1) : ∃ n, n < p ^ m ∧ nb p x = p ^ m + n := by
  refine ⟨nb p (x.take m), ?_, ?_⟩
  · have h := nb_lt (p := p) (by omega) (x.take m) (fun y hy => hx.1 y (List.mem_of_mem_take hy))
    rwa [List.length_take, Nat.min_eq_left (by omega)] at h
  · have h := nb_take (p := p) (l := x) (i := m) (by omega)
    rw [List.take_of_length_le (by omega), h1] at h
    have : (1 : Int).toNat = 1 := rfl
    rw [this] at h
    omega

theorem prod_iff {p : Nat} (hp : Pr p) {f : List Int} (hf : Cn p f) (hfl : 2 ≤ f.length) (hs : p ^ (f.length - 1) ≤ 4096) : (∃ m n, 1 ≤ m ∧ 2 * m ≤ f.length - 1 ∧ n < p ^ m ∧ Dv p (dig p (p ^ m + n)) f) ↔ ¬ Irr p f := by
  have hp1 := hp.1
  have hdeg := fsz_deg hp1 hs
  constructor
  · rintro ⟨m, n, h1, h2, h3, h4⟩
    refine (irr_iff hp hf hfl hs).1 ⟨p ^ m + n, ?_, ?_, ?_, h4⟩
    · have := Nat.pow_le_pow_right (n := p) (by omega) h1
      rw [Nat.pow_one] at this
      omega
    · have h5 : p ^ (m + 1) ≤ p ^ (f.length - 1) := Nat.pow_le_pow_right (by omega) (by omega)
      rw [Nat.pow_succ] at h5
      have h6 : p ^ m * 2 ≤ p ^ m * p := Nat.mul_le_mul_left _ hp1
      omega
    · rw [monic_len hp1 (by omega) h3]; omega
  · intro hn
    obtain ⟨a, h1, h2, h3, h4⟩ := (irr_iff hp hf hfl hs).2 hn
    have ha : a < 1048576 := by omega
    have hx := dig_cn (p := p) (by omega) a
    have lx := dig_two hp1 ha h1
    have nx : dig p a ≠ [] := fun e => by rw [e] at lx; simp at lx
    have hG := Gst.done hp (Gst.start hx (Cn.nil p)) nx
    have hsc := scale_facts hp hx nx (iv_ok hp (hx.top (by omega) nx))
    have hdv := ((hG.2.1 _).1 (Dv.self p _)).1.trans h4
    have hcn := hG.1
    generalize nm p (psc (iv p (co (dig p a) ((dig p a).length - 1)) : Int) (dig p a)) = g at *
    obtain ⟨m, hm⟩ : ∃ m, (dig p a).length = m + 1 := ⟨(dig p a).length - 1, by omega⟩
    rw [hm, Nat.add_sub_cancel] at hsc
    rw [hm] at h3 lx
    obtain ⟨n, hn1, hn2⟩ := nb_monic hp1 hcn hsc.1 hsc.2
    refine ⟨m, n, by omega, by omega, hn1, ?_⟩
    rw [← hn2, dig_nb (by omega) hcn (by omega)]
    exact hdv

/-! ### sizes -/

def szf (p : Nat) : Nat → Nat
  | 0 => 1
  | i + 1 => if szf p i ≤ 4096 then szf p i * p else szf p i

theorem szf_ok {p : Nat} (hp : 2 ≤ p) : ∀ i, (p ^ i ≤ 4096 ∧ szf p i = p ^ i) ∨ (4096 < p ^ i ∧ 4096 < szf p i)
  | 0 => .inl ⟨by simp, by simp [szf]⟩
  | i + 1 => by
    rcases szf_ok hp i with ⟨h1, h2⟩ | ⟨h1, h2⟩
    · have e : szf p (i + 1) = p ^ (i + 1) := by
        show (if szf p i ≤ 4096 then szf p i * p else szf p i) = _
        rw [h2, if_pos h1, Nat.pow_succ]
      rw [e]
      rcases Nat.lt_or_ge 4096 (p ^ (i + 1)) with h | h
      · exact .inr ⟨h, h⟩
      · exact .inl ⟨h, rfl⟩
    · have e : szf p (i + 1) = szf p i := by
        show (if szf p i ≤ 4096 then szf p i * p else szf p i) = _
        rw [if_neg (by omega)]
      rw [e]
      exact .inr ⟨pow_up (by omega) (Nat.le_succ i) h1, h2⟩

theorem szf_bd {p : Nat} (hp : 1 ≤ p) (hp2 : p ≤ 251) : ∀ i, 1 ≤ szf p i ∧ szf p i ≤ 1028096
  | 0 => by simp [szf]
  | i + 1 => by
    have ih := szf_bd hp hp2 i
    show 1 ≤ (if szf p i ≤ 4096 then szf p i * p else szf p i) ∧ (if szf p i ≤ 4096 then szf p i * p else szf p i) ≤ 1028096
    by_cases h : szf p i ≤ 4096
    · rw [if_pos h]
      have h2 : szf p i * p ≤ 4096 * 251 := Nat.mul_le_mul h hp2
      have h3 : 1 * 1 ≤ szf p i * p := Nat.mul_le_mul ih.1 hp
      omega
    · rw [if_neg h]; exact ih

theorem szf_next (p i : Nat) : szf p (i + 1) = if szf p i ≤ 4096 then szf p i * p else szf p i := rfl

theorem pow_two_le {p : Nat} (hp : 2 ≤ p) {m k : Nat} : p ^ m * p ^ m ≤ p ^ k ↔ 2 * m ≤ k := by
  rw [← Nat.pow_add, show m + m = 2 * m by omega]
  exact Nat.pow_le_pow_iff_right (by omega)

/-! ### powers by squaring -/

theorem pw_sq {A : Type} (F : Fd A) (a : A) (k : Nat) : pw F (F.mul a a) k = pw F a (2 * k) := by
  rw [mul_pw, ← pw_add, show k + k = 2 * k by omega]

theorem sq_even {A : Type} (F : Fd A) (o a : A) {n : Nat} (h : n % 2 = 0) : F.mul o (pw F (F.mul a a) (n / 2)) = F.mul o (pw F a n) := by
  rw [pw_sq, show 2 * (n / 2) = n by omega]

theorem sq_odd {A : Type} (F : Fd A) (o a : A) {n : Nat} (h : n % 2 = 1) : F.mul (F.mul o a) (pw F (F.mul a a) (n / 2)) = F.mul o (pw F a n) := by
  rw [pw_sq, F.mul_assoc]
  congr 1
  have e : n = 2 * (n / 2) + 1 := by omega
  conv => rhs; rw [e]
  show F.mul a (pw F a (2 * (n / 2))) = F.mul (pw F a (2 * (n / 2))) a
  rw [F.mul_comm]

/-! ### what comes round -/

theorem ord_iff {A : Type} (F : Fd A) {x : A} {n : Nat} (hn : 1 ≤ n) (h1 : pw F x n = F.one) : Ord F x n ↔ ∀ q, Pr q → q ∣ n → pw F x (n / q) ≠ F.one := by
  constructor
  · intro h q hq ⟨c, hc⟩ he
    have hq1 := hq.1
    rw [hc, Nat.mul_div_cancel_left _ (by omega)] at he
    have h2 := Nat.le_of_dvd (by rcases Nat.eq_zero_or_pos c with e | e; · subst e; simp at hc; omega
                                 · exact e) ((h.2 c).1 he)
    have h3 : 2 * c ≤ q * c := Nat.mul_le_mul_right _ hq1
    have h4 : 1 ≤ c := by
      rcases Nat.eq_zero_or_pos c with e | e
      · subst e; simp at hc; omega
      · exact e
    omega
  · intro h
    obtain ⟨o, ho⟩ := ord_ex F hn h1
    obtain ⟨c, hc⟩ := (ho.2 n).1 h1
    have ho1 := ho.1
    by_cases hc1 : c = 1
    · subst hc1; rw [Nat.mul_one] at hc; rw [hc]; exact ho
    · have hc2 : 2 ≤ c := by
        rcases Nat.eq_zero_or_pos c with e | e
        · subst e; simp at hc; omega
        · omega
      obtain ⟨q, hq, ⟨d, hd⟩, _⟩ := least_prime hc2
      have hq1 := hq.1
      exfalso
      refine h q hq ⟨o * d, by rw [hc, hd, Nat.mul_left_comm]⟩ ?_
      rw [hc, hd, Nat.mul_left_comm, Nat.mul_div_cancel_left _ (by omega)]
      exact (ho.2 _).2 ⟨d, rfl⟩

/-! ### what is left, by what ends with 1 -/

theorem iv_one {p : Nat} (hp : Pr p) : (iv p 1 : Int) = 1 := by
  have hp1 := hp.1
  exact (iv_uniq hp (not_one hp1) (y := 1) ⟨by omega, by omega⟩ (by simp)).symm

theorem sub_as_add {p : Nat} (hp : 1 ≤ p) (z c y : Int) : (z + ((p : Int) - c) * y) % (p : Int) = (rs (z - c * y) p : Int) := by
  rw [rs_cast _ hp]
  have e : z + ((p : Int) - c) * y = z - c * y + (p : Int) * y := by rw [Int.sub_mul]; omega
  rw [e, Int.add_mul_emod_self_left]

theorem mul_one_mod {p : Nat} {x : Int} (hx : 0 ≤ x ∧ x < (p : Int)) : x = x * (1 : Int) % (p : Int) := by
  rw [Int.mul_one, Int.emod_eq_of_lt hx.1 hx.2]

theorem tr_cut {f : Nat → Int} {m : Nat} : ∀ {n : Nat}, m ≤ n → (∀ i, m ≤ i → i < n → f i = 0) → tr (mk n f) = tr (mk m f)
  | 0, h, _ => by obtain rfl : m = 0 := by omega
                  rfl
  | n + 1, h, h0 => by
    rcases Nat.lt_or_ge n m with e | e
    · obtain rfl : m = n + 1 := by omega
      rfl
    · rw [mk_succ, h0 n e (by omega), tr_snoc_zero]
      exact tr_cut e (fun i h1 h2 => h0 i h1 (by omega))

theorem tr_nil_iff {l : List Int} : tr l = [] ↔ ∀ x ∈ l, x = 0 := by
  constructor
  · intro h x hx
    obtain ⟨j, hj, e⟩ := List.getElem_of_mem hx
    have h1 := co_tr l j
    rw [h] at h1
    have : co l j = l[j] := by simp [co, List.getD, hj]
    rw [this, e] at h1
    rw [← h1]; rfl
  · intro h
    rcases Classical.em (tr l = []) with e | e
    · exact e
    · have h1 := tr_last l e
      rw [co_tr] at h1
      have hl := tr_length l
      have h2 := pos_of_ne e
      have : co l ((tr l).length - 1) = l[(tr l).length - 1]'(by omega) := by
        have : (tr l).length - 1 < l.length := by omega
        simp [co, List.getD, this]
      rw [this] at h1
      exact absurd (h _ (List.getElem_mem _)) h1

/-! ### a field -/

/-- A field that may be. -/
def Fld (p : Nat) (f : List Int) : Prop := Pr p ∧ p ≤ 251 ∧ Cn p f ∧ 2 ≤ f.length ∧ f.length ≤ 13 ∧ co f (f.length - 1) = 1 ∧ p ^ (f.length - 1) ≤ 4096 ∧ Irr p f

theorem Fld.ex {p : Nat} {f : List Int} (h : Fld p f) : ∃ F : Fd (El p f), Fits p f F := field_ex h.1 h.2.2.1 h.2.2.2.1 h.2.2.2.2.2.2.2

/-- The element of a number. -/
theorem Fld.el {p : Nat} {f : List Int} (h : Fld p f) {a : Nat} (ha : a < p ^ (f.length - 1)) : ∃ x : El p f, num x = a :=
  ⟨_, num_el h.1.1 ⟨by have := h.2.2.2.1; omega, h.2.2.2.2.1⟩ ha h.2.2.2.2.2.2.1⟩

theorem Fld.fl {p : Nat} {f : List Int} (h : Fld p f) : 1 ≤ f.length ∧ f.length ≤ 13 := ⟨by have := h.2.2.2.1; omega, h.2.2.2.2.1⟩

theorem Fld.size {p : Nat} {f : List Int} (h : Fld p f) : 2 ≤ p ^ (f.length - 1) ∧ p ^ (f.length - 1) ≤ 4096 := by
  refine ⟨?_, h.2.2.2.2.2.2.1⟩
  have h1 := h.1.1
  have h2 : p ^ 1 ≤ p ^ (f.length - 1) := Nat.pow_le_pow_right (by omega) (by have := h.2.2.2.1; omega)
  rw [Nat.pow_one] at h2
  omega

theorem Fld.fermat {p : Nat} {f : List Int} (h : Fld p f) {F : Fd (El p f)} (hF : Fits p f F) (x : El p f) : pw F x (p ^ (f.length - 1)) = x := field_fermat h.1 h.fl.1 F hF.1 x

theorem Fld.ne_zero {p : Nat} {f : List Int} (h : Fld p f) {F : Fd (El p f)} (hF : Fits p f F) {x : El p f} (hx : num x ≠ 0) : x ≠ F.zero := fun e => hx (by rw [e, hF.zero])

theorem Fld.one_of {p : Nat} {f : List Int} (h : Fld p f) {F : Fd (El p f)} (hF : Fits p f F) {x : El p f} : num x = 1 ↔ x = F.one := by
  constructor
  · intro e
    exact num_inj (by have := h.1.1; omega) h.fl (by rw [e, hF.one])
  · rintro rfl; exact hF.one

/-- What makes 1. -/
theorem Fld.inv {p : Nat} {f : List Int} (h : Fld p f) {F : Fd (El p f)} (hF : Fits p f F) {x : El p f} (hx : num x ≠ 0) : F.mul x (pw F x (p ^ (f.length - 1) - 2)) = F.one := by
  have hs := h.size
  have h1 := (field_cyclic h.1 h.fl.1 F hF.1).2 x (h.ne_zero hF hx)
  have e : p ^ (f.length - 1) - 1 = (p ^ (f.length - 1) - 2) + 1 := by omega
  rw [e] at h1
  rw [F.mul_comm]
  exact h1

end Go.Proofs.Ytpnmepobdnclkaa.Num38
