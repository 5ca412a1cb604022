/-
  Numbers that seem to be primes, as yes or no; counting them.
-/
import Derived.Test.YtnciahbpmajhdabNum15
import Derived.Test.YtnciahbpmajhdabNum29
namespace Go.Proofs.Ytnciahbpmajhdab.Num30
set_option linter.unusedVariables false
open Go.Proofs.Ytnciahbpmajhdab.Num Go.Proofs.Ytnciahbpmajhdab.Num3 Go.Proofs.Ytnciahbpmajhdab.Num6 Go.Proofs.Ytnciahbpmajhdab.Num7 Go.Proofs.Ytnciahbpmajhdab.Num8 Go.Proofs.Ytnciahbpmajhdab.Num9 Go.Proofs.Ytnciahbpmajhdab.Num10 Go.Proofs.Ytnciahbpmajhdab.Num11 Go.Proofs.Ytnciahbpmajhdab.Num12 Go.Proofs.Ytnciahbpmajhdab.Num13 Go.Proofs.Ytnciahbpmajhdab.Num15 Go.Proofs.Ytnciahbpmajhdab.Num29

/-- n is 2 to the s times an odd d. -/
structure Odd2 (n s d : Nat) : Prop where
  three : 3 ≤ n
  odd : n % 2 = 1
  s1 : 1 ≤ s
  d1 : d % 2 = 1
  eq : n - 1 = 2 ^ s * d

theorem split2 : ∀ m, 1 ≤ m → ∃ s d, d % 2 = 1 ∧ m = 2 ^ s * d := by
  intro m
  induction m using Nat.strongRecOn with
  | _ m ih =>
    intro h
    by_cases ho : m % 2 = 1
    · exact ⟨0, m, ho, by omega⟩
    · obtain ⟨s, d, h1, h2⟩ := ih (m / 2) (by omega) (by omega)
      refine ⟨s + 1, d, h1, ?_⟩
      rw [Nat.pow_succ, Nat.mul_comm (2 ^ s) 2, Nat.mul_assoc, ← h2]
      omega

theorem Odd2.ex {n : Nat} (h3 : 3 ≤ n) (ho : n % 2 = 1) : ∃ s d, Odd2 n s d := by
  obtain ⟨s, d, h1, h2⟩ := split2 (n - 1) (by omega)
  refine ⟨s, d, h3, ho, ?_, h1, h2⟩
  rcases Nat.eq_zero_or_pos s with e | e
  · subst e; simp at h2; omega
  · exact e

/-- Does a seem to prove n a prime: by Fermat, by Euler, by square roots of 1? -/
def frB (a : Int) (n : Nat) : Bool := decide (pw a (n - 1) n = 1)
def euB (a : Int) (n : Nat) (J : Int) : Bool := decide (¬ J = 0 ∧ pw a ((n - 1) / 2) n = rs J n)
def stB (a : Int) (n s d : Nat) : Bool := decide (pw a d n = 1) || (List.range s).any fun j => decide (pw a (2 ^ j * d) n = n - 1)

theorem stB_iff (a : Int) (n s d : Nat) : stB a n s d = true ↔ Strong (rs a n) n s d := by
  unfold stB Strong pw
  rw [Bool.or_eq_true, decide_eq_true_eq, List.any_eq_true]
  constructor
  · rintro (h | ⟨j, hj, h⟩)
    · exact .inl h
    · exact .inr ⟨j, List.mem_range.1 hj, of_decide_eq_true h⟩
  · rintro (h | ⟨j, hj, h⟩)
    · exact .inl h
    · exact .inr ⟨j, List.mem_range.2 hj, decide_eq_true h⟩

theorem stB_false {a : Int} {n s d : Nat} (h : ¬ Strong (rs a n) n s d) : stB a n s d = false := by
  cases e : stB a n s d
  · rfl
  · exact absurd ((stB_iff a n s d).1 e) h

/-- What has been looked at so far: not yet found. -/
def Sofar (a : Int) (n d j : Nat) : Prop := ¬ pw a d n = 1 ∧ ∀ i, i < j → ¬ pw a (2 ^ i * d) n = n - 1

theorem Sofar.start {a : Int} {n d : Nat} (h : ¬ pw a d n = 1) : Sofar a n d 0 := ⟨h, fun i hi => by omega⟩

theorem Sofar.next {a : Int} {n d j : Nat} (h : Sofar a n d j) (hj : ¬ pw a (2 ^ j * d) n = n - 1) : Sofar a n d (j + 1) := ⟨h.1, fun i hi => by
  by_cases e : i = j
  · subst e; exact hj
  · exact h.2 i (by omega)⟩

theorem Sofar.yes {a : Int} {n s d j : Nat} (hj : j < s) (h : pw a (2 ^ j * d) n = n - 1) : stB a n s d = true := (stB_iff a n s d).2 (.inr ⟨j, hj, h⟩)

theorem stB_one {a : Int} {n s d : Nat} (h : pw a d n = 1) : stB a n s d = true := (stB_iff a n s d).2 (.inl h)

theorem Sofar.no {a : Int} {n s d : Nat} (h : Sofar a n d s) : stB a n s d = false := stB_false (by
  rintro (e | ⟨j, hj, e⟩)
  · exact h.1 e
  · exact h.2 j hj e)

theorem pw_sq (a : Int) (n d j : Nat) : pw a (2 ^ j * d) n * pw a (2 ^ j * d) n % n = pw a (2 ^ (j + 1) * d) n := by
  rw [pw_add, show 2 ^ j * d + 2 ^ j * d = 2 ^ (j + 1) * d by rw [Nat.pow_succ, Nat.mul_comm (2 ^ j) 2, Nat.mul_assoc, Nat.two_mul]]

theorem two_half (d k : Nat) : 2 ^ (k + 1) * d / 2 = 2 ^ k * d := by
  rw [Nat.pow_succ, Nat.mul_comm (2 ^ k) 2, Nat.mul_assoc]; omega

theorem two_even (d k : Nat) : 2 ^ (k + 1) * d % 2 = 0 := by
  rw [Nat.pow_succ, Nat.mul_comm (2 ^ k) 2, Nat.mul_assoc]; omega

theorem two_up (d k : Nat) : 2 * (2 ^ k * d) = 2 ^ (k + 1) * d := by
  rw [Nat.pow_succ, Nat.mul_comm (2 ^ k) 2, Nat.mul_assoc]

theorem Odd2.le {n s d k : Nat} (h : Odd2 n s d) (hk : k ≤ s) : 2 ^ k * d ≤ n - 1 := by
  rw [h.eq]; exact Nat.mul_le_mul_right d (Nat.pow_le_pow_right (by omega) hk)

theorem Odd2.lt {n s d k : Nat} (h : Odd2 n s d) (hk : k < s) : 2 ^ k * d < n - 1 := by
  have h1 := h.le (k := k + 1) (by omega)
  rw [← two_up] at h1
  have : 1 ≤ 2 ^ k * d := Nat.mul_pos (Nat.pow_pos (by omega)) (by have := h.d1; omega)
  omega

theorem Odd2.two_le {n s d : Nat} (h : Odd2 n s d) : 2 ^ s ≤ n := by
  have := h.eq
  have h1 := h.d1
  have : 2 ^ s * 1 ≤ 2 ^ s * d := Nat.mul_le_mul_left _ (by omega)
  omega

theorem lt_two (s : Nat) : s < 2 ^ s := Nat.lt_two_pow_self

theorem Odd2.s_le {n s d : Nat} (h : Odd2 n s d) : s < n := Nat.lt_of_lt_of_le (lt_two s) h.two_le

theorem euB_iff {a : Int} {n : Nat} {J : Int} {l : List (Nat × Nat)} (hn : 3 ≤ n) (hF : Fac n l) (hJ : JJ a n J) : euB a n J = true ↔ EulerB (rs a n) n l := by
  obtain ⟨l', hl', e⟩ := hJ
  have el : l' = l := hl'.unique hF
  subst el
  subst e
  unfold euB EulerB
  rw [decide_eq_true_eq]
  have hz := jac_zero hF (a := rs a n)
  have key : pw a ((n - 1) / 2) n = rs (jac (rs a n) l') n ↔ (n : Int) ∣ (rs a n : Int) ^ ((n - 1) / 2) - jac (rs a n) l' := by
    unfold pw
    have h1 : ((rs (jac (rs a n) l') n : Nat) : Int) = jac (rs a n) l' % (n : Int) := rs_cast _ (by omega)
    have h2 : ((rs a n ^ ((n - 1) / 2) % n : Nat) : Int) = (rs a n : Int) ^ ((n - 1) / 2) % (n : Int) := by simp
    constructor
    · intro e
      exact Int.dvd_of_emod_eq_zero (by rw [Int.sub_emod, ← h2, ← h1, e]; simp)
    · intro e
      have e2 := Int.emod_eq_emod_iff_emod_sub_eq_zero.2 (Int.emod_eq_zero_of_dvd e)
      rw [← h2, ← h1] at e2
      omega
  rw [key]
  constructor
  · rintro ⟨h1, h2⟩
    refine ⟨?_, h2⟩
    by_cases hg : Nat.gcd (rs a n) n = 1
    · exact hg
    · exact absurd (hz.2 hg) h1
  · rintro ⟨h1, h2⟩
    exact ⟨fun e => hz.1 e h1, h2⟩

/-! ### Counting -/

/-- Which of 1 to k are so. -/
def fl (P : Nat → Bool) : Nat → List Nat
  | 0 => []
  | k + 1 => if P (k + 1) then (k + 1) :: fl P k else fl P k

theorem fl_len (P : Nat → Bool) : ∀ k, (fl P k).length = cnt P k
  | 0 => rfl
  | k + 1 => by
    unfold fl cnt
    by_cases h : P (k + 1) = true
    · rw [if_pos h, if_pos h, List.length_cons, fl_len P k]
    · rw [if_neg h, if_neg h, fl_len P k]; rfl

theorem mem_fl {P : Nat → Bool} {x : Nat} : ∀ {k : Nat}, x ∈ fl P k ↔ 1 ≤ x ∧ x ≤ k ∧ P x = true
  | 0 => by simp [fl]; omega
  | k + 1 => by
    unfold fl
    by_cases h : P (k + 1) = true
    · rw [if_pos h, List.mem_cons, mem_fl]
      constructor
      · rintro (rfl | ⟨h1, h2, h3⟩)
        · exact ⟨by omega, by omega, h⟩
        · exact ⟨h1, by omega, h3⟩
      · rintro ⟨h1, h2, h3⟩
        by_cases e : x = k + 1
        · exact .inl e
        · exact .inr ⟨h1, by omega, h3⟩
    · rw [if_neg h, mem_fl]
      constructor
      · rintro ⟨h1, h2, h3⟩
        exact ⟨h1, by omega, h3⟩
      · rintro ⟨h1, h2, h3⟩
        refine ⟨h1, ?_, h3⟩
        by_cases e : x = k + 1
        · subst e; exact absurd h3 h
        · omega

theorem fl_nodup (P : Nat → Bool) : ∀ k, (fl P k).Nodup
  | 0 => List.nodup_nil
  | k + 1 => by
    unfold fl
    by_cases h : P (k + 1) = true
    · rw [if_pos h, List.nodup_cons]
      exact ⟨fun hm => by have := (mem_fl.1 hm).2.1; omega, fl_nodup P k⟩
    · rw [if_neg h]; exact fl_nodup P k

theorem cnt_true {P : Nat → Bool} : ∀ {k : Nat}, (∀ x, 1 ≤ x → x ≤ k → P x = true) → cnt P k = k
  | 0, _ => rfl
  | k + 1, h => by
    unfold cnt
    rw [cnt_true (fun x h1 h2 => h x h1 (by omega)), if_pos (h (k + 1) (by omega) (by omega))]

theorem cnt_one {P : Nat → Bool} (h : P 1 = true) : ∀ k, 1 ≤ k → 1 ≤ cnt P k
  | 0, h1 => by omega
  | k + 1, h1 => by
    unfold cnt
    by_cases e : k = 0
    · subst e; simp [h]
    · have := cnt_one h k (by omega); omega

theorem cnt_two {P : Nat → Bool} {k : Nat} (h : P 1 = true) (hk : 2 ≤ k) (h2 : P k = true) : 2 ≤ cnt P k := by
  obtain ⟨j, rfl⟩ : ∃ j, k = j + 1 := ⟨k - 1, by omega⟩
  unfold cnt
  rw [if_pos h2]
  have := cnt_one h j (by omega)
  omega

theorem cnt_step (P : Nat → Bool) {k : Nat} (hk : 1 ≤ k) : cnt P k = cnt P (k - 1) + (if P k = true then 1 else 0) := by
  obtain ⟨j, rfl⟩ : ∃ j, k = j + 1 := ⟨k - 1, by omega⟩
  rfl

/-! ### Primes -/

theorem rs_self {x n : Nat} (h : x < n) : rs (x : Int) n = x := by rw [rs_nat, Nat.mod_eq_of_lt h]

theorem prime_cop {p a : Nat} (hp : Pr p) (h : ¬ a % p = 0) : Nat.gcd a p = 1 := by
  rw [Nat.gcd_comm]; exact cop_prime hp (fun hd => h (Nat.mod_eq_zero_of_dvd hd))

theorem tot_prime {p : Nat} (hp : Pr p) : tot p = p - 1 := by
  have h := tot_out (p := p) (m := 1) hp (fun hd => by have := Nat.le_of_dvd (by omega) hd; have := hp.1; omega)
  rw [Nat.mul_one, tot_one, Nat.mul_one] at h
  exact h

theorem prime_fermat {p a : Nat} (hp : Pr p) (h : ¬ a % p = 0) : a ^ (p - 1) % p = 1 := by
  have h1 := euler (a := a) (m := p) (by have := hp.1; omega) (prime_cop hp h)
  rw [tot_prime hp, Nat.mod_eq_of_lt (show 1 < p from hp.1)] at h1
  exact h1

theorem prime_strong {p a s d : Nat} (hp : Pr p) (H : Odd2 p s d) (h : ¬ a % p = 0) : Strong a p s d := by
  have h2 := hp.1
  have key : ∀ k, k ≤ s → a ^ (2 ^ k * d) % p = 1 → Strong a p s d := by
    intro k
    induction k with
    | zero => intro _ e; left; simpa using e
    | succ k ih =>
      intro hk e
      have hx : a ^ (2 ^ k * d) % p < p := Nat.mod_lt _ (by omega)
      have e2 : (a ^ (2 ^ k * d) % p) * (a ^ (2 ^ k * d) % p) % p = 1 * 1 % p := by
        rw [← Nat.mul_mod, ← Nat.pow_add, show 2 ^ k * d + 2 ^ k * d = 2 ^ (k + 1) * d by rw [← two_up]; omega, e, Nat.mod_eq_of_lt (by omega)]
      rcases root_two hp e2 hx (by omega) with e3 | e3
      · exact ih (by omega) e3.symm
      · right
        exact ⟨k, by omega, by omega⟩
  exact key s (Nat.le_refl s) (by rw [← H.eq]; exact prime_fermat hp h)

theorem zero_pow_mod {n k : Nat} (hk : 1 ≤ k) : 0 ^ k % n = 0 := by
  rw [Nat.zero_pow (by omega), Nat.zero_mod]

theorem zero_strong {n s d : Nat} (H : Odd2 n s d) : ¬ Strong 0 n s d := by
  have h3 := H.three
  have hd := H.d1
  rintro (e | ⟨j, hj, e⟩)
  · rw [zero_pow_mod (by omega)] at e; omega
  · rw [zero_pow_mod (Nat.mul_pos (Nat.pow_pos (by omega)) (by omega))] at e; omega

theorem one_strong {n s d : Nat} (H : Odd2 n s d) : Strong 1 n s d := by
  left; rw [Nat.one_pow]; exact Nat.mod_eq_of_lt (by have := H.three; omega)

theorem minus_strong {n s d : Nat} (H : Odd2 n s d) : Strong (n - 1) n s d := .inr ⟨0, H.s1, minus_start H.three H.d1⟩

/-! ### What the statements want -/

theorem fr_prime {a : Int} {p : Nat} (hp : Pr p) (h : ¬ rs a p = 0) : frB a p = true := by
  unfold frB pw
  exact decide_eq_true (prime_fermat hp (by rw [rs_mod a (by have := hp.1; omega)]; exact h))

theorem st_prime {a : Int} {p s d : Nat} (hp : Pr p) (H : Odd2 p s d) (h : ¬ rs a p = 0) : stB a p s d = true :=
  (stB_iff a p s d).2 (prime_strong hp H (by rw [rs_mod a (by have := hp.1; omega)]; exact h))

theorem eu_prime {a J : Int} {p : Nat} (hp : Pr p) (ho : p ≠ 2) (hJ : JJ a p J) (h : ¬ rs a p = 0) : euB a p J = true := by
  unfold euB
  refine decide_eq_true ⟨fun e => ?_, hJ.euler hp ho⟩
  obtain ⟨l, hF, hj⟩ := hJ
  rw [e] at hj
  exact (jac_zero hF).1 hj (prime_cop hp (by rw [rs_mod a (by have := hp.1; omega)]; exact h))

theorem fr_zero {a : Int} {n : Nat} (hn : 3 ≤ n) (h : rs a n = 0) : frB a n = false := by
  unfold frB pw
  rw [h, zero_pow_mod (by omega)]; rfl

theorem st_zero {a : Int} {n s d : Nat} (H : Odd2 n s d) (h : rs a n = 0) : stB a n s d = false := stB_false (by rw [h]; exact zero_strong H)

theorem eu_zero {a J : Int} {n : Nat} (hn : 3 ≤ n) (hJ : JJ a n J) (h : rs a n = 0) : euB a n J = false := by
  unfold euB
  refine decide_eq_false (fun hh => hh.1 ?_)
  obtain ⟨l, hF, hj⟩ := hJ
  rw [← hj]
  refine (jac_zero hF).2 (by rw [h, Nat.gcd_zero_left]; omega)

theorem st_one {n s d : Nat} (H : Odd2 n s d) : stB 1 n s d = true := (stB_iff 1 n s d).2 (by
  have := rs_self (x := 1) (n := n) (by have := H.three; omega)
  rw [show ((1 : Nat) : Int) = 1 from rfl] at this
  rw [this]; exact one_strong H)

theorem eu_one {n : Nat} (hn : 3 ≤ n) : euB 1 n 1 = true := by
  have := rs_self (x := 1) (n := n) (by omega)
  rw [show ((1 : Nat) : Int) = 1 from rfl] at this
  unfold euB pw
  rw [this, Nat.one_pow, Nat.mod_eq_of_lt (by omega)]
  exact decide_eq_true ⟨by omega, rfl⟩

theorem st_eu {a J : Int} {n s d : Nat} (H : Odd2 n s d) (hJ : JJ a n J) (h : stB a n s d = true) : euB a n J = true := by
  obtain ⟨l, hF⟩ := Fac.exists n (by have := H.three; omega)
  exact (euB_iff H.three hF hJ).2 (strong_euler H.three H.odd H.s1 H.d1 H.eq hF ((stB_iff a n s d).1 h))

theorem eu_fr {a J : Int} {n : Nat} (hn : 3 ≤ n) (ho : n % 2 = 1) (hJ : JJ a n J) (h : euB a n J = true) : frB a n = true := by
  obtain ⟨l, hF⟩ := Fac.exists n (by omega)
  unfold frB pw
  exact decide_eq_true (euler_fermat hn ho hF ((euB_iff hn hF hJ).1 h))

/-- How many seem to prove n a prime. -/
def stN (n s d k : Nat) : Nat := cnt (fun x => stB (x : Int) n s d) k

theorem stN_prime {p s d : Nat} (hp : Pr p) (H : Odd2 p s d) : stN p s d (p - 1) = p - 1 := cnt_true (fun x h1 h2 => st_prime hp H (by
  rw [rs_self (by omega)]; omega))

theorem stN_two {n s d : Nat} (H : Odd2 n s d) : 2 ≤ stN n s d (n - 1) := by
  have h3 := H.three
  refine cnt_two (st_one H) (by omega) ((stB_iff _ n s d).2 ?_)
  rw [rs_self (by omega)]
  exact minus_strong H

theorem stN_rabin {n s d : Nat} (H : Odd2 n s d) (hc : ¬ Pr n) : 4 * stN n s d (n - 1) ≤ n - 1 := by
  unfold stN
  rw [← fl_len]
  refine rabin H.three H.odd hc H.s1 H.d1 H.eq (fl_nodup _ _) (fun u hu => ?_) (fun u hu => ?_)
  · have := mem_fl.1 hu; have := H.three; omega
  · have h := mem_fl.1 hu
    have h2 := (stB_iff (u : Int) n s d).1 h.2.2
    rw [rs_self (by have := H.three; omega)] at h2
    exact h2

/-- Does x seem to prove n a prime by Euler's criterion, whatever the symbol? -/
def euP (a : Int) (n : Nat) : Prop := ∃ J, JJ a n J ∧ euB a n J = true

theorem solovay_cnt {n : Nat} {f : Nat → Bool} (hn : 3 ≤ n) (ho : n % 2 = 1) (hc : ¬ Pr n) (hf : ∀ x, 1 ≤ x → x < n → f x = true → euP (x : Int) n) : 2 * cnt f (n - 1) ≤ tot n := by
  obtain ⟨l, hF⟩ := Fac.exists n (by omega)
  rw [← fl_len]
  refine solovay hn ho hc hF (fl_nodup _ _) (fun u hu => ?_) (fun u hu => ?_)
  · have := mem_fl.1 hu; omega
  · have h := mem_fl.1 hu
    obtain ⟨J, hJ, hb⟩ := hf u h.1 (by omega) h.2.2
    have h2 := (euB_iff hn hF hJ).1 hb
    rw [rs_self (by omega)] at h2
    exact h2

end Go.Proofs.Ytnciahbpmajhdab.Num30
