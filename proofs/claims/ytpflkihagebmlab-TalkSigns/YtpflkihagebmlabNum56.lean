/-
  Plain arithmetic: Rivest, Shamir, Adleman; and the powers of a number whose order is a prime: Diffie, Hellman, ElGamal, Pedersen, Schnorr.
-/
import Derived.Test.YtpflkihagebmlabFoldA
import Derived.Test.YtpflkihagebmlabNum19
namespace Go.Proofs.Ytpflkihagebmlab.Num56
set_option linter.unusedVariables false
open Go.Proofs.Ytpflkihagebmlab.Num Go.Proofs.Ytpflkihagebmlab.Num3 Go.Proofs.Ytpflkihagebmlab.Num6 Go.Proofs.Ytpflkihagebmlab.Num7 Go.Proofs.Ytpflkihagebmlab.Num8
open Go.Proofs.Ytpflkihagebmlab.Num19 (pow_same)

/-! ### locked and opened -/

theorem pow_round {p x : Nat} (hp : Pr p) : ∀ j, x ^ (1 + j * (p - 1)) % p = x % p
  | 0 => by simp
  | j + 1 => by
    have h2 := hp.1
    have e : 1 + (j + 1) * (p - 1) = j * (p - 1) + p := by rw [Nat.add_mul]; omega
    rw [e, Nat.pow_add, Nat.mul_mod, fermat hp x, ← Nat.mul_mod, ← Nat.pow_succ]
    have := pow_round (x := x) hp j
    rwa [Nat.add_comm] at this

theorem one_dvd_of {k m : Nat} (h1 : 1 ≤ k) (h : k % m = 1 % m) : m ∣ k - 1 := by
  have := (mod_eq_iff (m := m) (x := k) (y := 1)).1 h
  have e : ((k : Int) - ((1 : Nat) : Int)) = ((k - 1 : Nat) : Int) := by omega
  rw [e] at this
  exact Int.natCast_dvd_natCast.1 this

theorem fermat_more {p x k : Nat} (hp : Pr p) (h1 : 1 ≤ k) (h : p - 1 ∣ k - 1) : x ^ k % p = x % p := by
  obtain ⟨j, hj⟩ := h
  have e : k = 1 + j * (p - 1) := by rw [Nat.mul_comm]; omega
  rw [e]; exact pow_round hp j

theorem cop_primes {p q : Nat} (hp : Pr p) (hq : Pr q) (hne : p ≠ q) : Nat.gcd p q = 1 := by
  rcases hp.2 _ (Nat.gcd_dvd_left p q) with h | h
  · exact h
  · have : p ∣ q := by rw [← h]; exact Nat.gcd_dvd_right p q
    rcases hq.2 _ this with h2 | h2
    · have := hp.1; omega
    · exact absurd h2 hne

/-- What was locked is opened. -/
theorem rsa_opens {p q e d : Nat} (hp : Pr p) (hq : Pr q) (hne : p ≠ q) (he : 1 ≤ e) (hd : 1 ≤ d) (h : e * d % Nat.lcm (p - 1) (q - 1) = 1 % Nat.lcm (p - 1) (q - 1)) (x : Nat) : (x ^ e % (p * q)) ^ d % (p * q) = x % (p * q) := by
  have h1 : 1 ≤ e * d := Nat.mul_pos he hd
  have hl := one_dvd_of h1 h
  rw [← Nat.pow_mod, ← Nat.pow_mul]
  exact (mod_mul_iff (cop_primes hp hq hne)).2 ⟨fermat_more hp h1 (Nat.dvd_trans (Nat.dvd_lcm_left _ _) hl), fermat_more hq h1 (Nat.dvd_trans (Nat.dvd_lcm_right _ _) hl)⟩

theorem rsa_muls (x y e n : Nat) : (x * y % n) ^ e % n = (x ^ e % n) * (y ^ e % n) % n := by
  rw [← Nat.pow_mod, Nat.mul_pow, Nat.mul_mod]

/-- By parts it is the same. -/
theorem rsa_parts {p q d y z : Nat} (hp : Pr p) (hq : Pr q) (hne : p ≠ q) (h1 : z % p = y ^ d % p) (h2 : z % q = y ^ d % q) (hz : z < p * q) : z = y ^ d % (p * q) := by
  have := (mod_mul_iff (cop_primes hp hq hne)).2 ⟨h1, h2⟩
  rwa [Nat.mod_eq_of_lt hz] at this

theorem cop_lcm {e a b : Nat} : Nat.gcd e (a * b) = 1 ↔ Nat.gcd e (Nat.lcm a b) = 1 := by
  constructor
  · intro h
    exact Nat.Coprime.coprime_dvd_right (Nat.lcm_dvd (Nat.dvd_mul_right a b) (Nat.dvd_mul_left b a)) h
  · intro h
    exact Nat.Coprime.mul_right (Nat.Coprime.coprime_dvd_right (Nat.dvd_lcm_left a b) h) (Nat.Coprime.coprime_dvd_right (Nat.dvd_lcm_right a b) h)

/-- There is a D just if E has nothing in common with it. -/
theorem inv_iff {e m : Nat} (hm : 1 ≤ m) (he : 1 ≤ e) : Nat.gcd e m = 1 ↔ ∃ d, 1 ≤ d ∧ d ≤ m ∧ e * d % m = 1 % m := by
  constructor
  · intro h
    by_cases h1 : m = 1
    · subst h1; exact ⟨1, Nat.le_refl _, Nat.le_refl _, by rw [Nat.mod_one]⟩
    · have ht := euler hm h
      have htp := tot_pos hm
      have e1 : e * (e ^ (tot m - 1) % m) % m = 1 % m := by
        rw [Nat.mul_mod_mod, ← Nat.pow_succ', show (tot m - 1).succ = tot m by omega]; exact ht
      refine ⟨e ^ (tot m - 1) % m, ?_, Nat.le_of_lt (Nat.mod_lt _ (by omega)), e1⟩
      rcases Nat.eq_zero_or_pos (e ^ (tot m - 1) % m) with h0 | h0
      · rw [h0, Nat.mul_zero, Nat.zero_mod, Nat.mod_eq_of_lt (by omega : 1 < m)] at e1
        omega
      · exact h0
  · rintro ⟨d, hd, _, h⟩
    have hg := Nat.gcd_dvd_left e m
    have hl := one_dvd_of (Nat.mul_pos he hd) h
    have h1 : Nat.gcd e m ∣ e * d := Nat.dvd_trans hg (Nat.dvd_mul_right e d)
    have h2 : Nat.gcd e m ∣ e * d - 1 := Nat.dvd_trans (Nat.gcd_dvd_right e m) hl
    have h3 := (Nat.dvd_sub h1 h2)
    rw [show e * d - (e * d - 1) = 1 by have := Nat.mul_pos he hd; omega] at h3
    exact Nat.dvd_one.1 h3

/-- The least D. -/
def IsD (e m d : Nat) : Prop := 1 ≤ d ∧ e * d % m = 1 % m ∧ ∀ j, 1 ≤ j → j < d → ¬ e * j % m = 1 % m

theorem isD_ex {e m : Nat} (hm : 1 ≤ m) (he : 1 ≤ e) (h : Nat.gcd e m = 1) : ∃ d, IsD e m d ∧ d ≤ m := by
  obtain ⟨d, h1, h2, h3⟩ := (inv_iff hm he).1 h
  obtain ⟨k, hk, hkd, hno⟩ := least_ex (P := fun k => 1 ≤ k ∧ e * k % m = 1 % m) d ⟨h1, h3⟩
  exact ⟨k, ⟨hk.1, hk.2, fun j hj1 hj2 hj3 => hno j hj2 ⟨hj1, hj3⟩⟩, by omega⟩

theorem IsD.uniq {e m d d' : Nat} (h : IsD e m d) (h' : IsD e m d') : d = d' := by
  rcases Nat.lt_trichotomy d d' with e | e | e
  · exact absurd h.2.1 (h'.2.2 d h.1 e)
  · exact e
  · exact absurd h'.2.1 (h.2.2 d' h'.1 e)

/-! ### groups -/

/-- A group: of a prime order. -/
structure Gp (P Q G : Nat) : Prop where
  pr : Pr P
  prq : Pr Q
  one : G ^ Q % P = 1
  two : 2 ≤ G
  lt : G < P

/-- A member. -/
def Mem (P Q x : Nat) : Prop := 1 ≤ x ∧ x < P ∧ x ^ Q % P = 1

theorem one_mod {P : Nat} (hp : Pr P) : 1 % P = 1 := Nat.mod_eq_of_lt (by have := hp.1; omega)

theorem mem_cop {P Q x : Nat} (hp : Pr P) (hq : Pr Q) (h : Mem P Q x) : Nat.gcd x P = 1 :=
  cop_of_pow (by have := hp.1; omega) (k := Q) (by have := hq.1; omega) (by rw [h.2.2, one_mod hp])

theorem Gp.mem {P Q G : Nat} (h : Gp P Q G) : Mem P Q G := ⟨by have := h.two; omega, h.lt, h.one⟩

theorem Gp.ord {P Q G : Nat} (h : Gp P Q G) : IsOrd G P Q := by
  have hP := h.pr.1
  obtain ⟨o, ho, _⟩ := ord_ex (a := G) (m := P) (by omega) (mem_cop h.pr h.prq h.mem)
  have hd : o ∣ Q := (ho.dvd Q).1 (by rw [h.one, one_mod h.pr])
  rcases h.prq.2 o hd with e | e
  · subst e
    have := ho.2.1
    rw [Nat.pow_one, one_mod h.pr, Nat.mod_eq_of_lt h.lt] at this
    have := h.two
    omega
  · rw [e] at ho; exact ho

theorem Mem.mul {P Q x y : Nat} (hp : Pr P) (hq : Pr Q) (h : Mem P Q x) (h' : Mem P Q y) : Mem P Q (x * y % P) := by
  have hP := hp.1
  have e : (x * y % P) ^ Q % P = 1 := by
    rw [← Nat.pow_mod, Nat.mul_pow, Nat.mul_mod, h.2.2, h'.2.2, Nat.one_mul, one_mod hp]
  refine ⟨?_, Nat.mod_lt _ (by omega), e⟩
  rcases Nat.eq_zero_or_pos (x * y % P) with h0 | h0
  · rw [h0, Nat.zero_pow (by have := hq.1; omega), Nat.zero_mod] at e; omega
  · exact h0

theorem Mem.one {P Q : Nat} (hp : Pr P) : Mem P Q 1 := ⟨Nat.le_refl 1, by have := hp.1; omega, by rw [Nat.one_pow, one_mod hp]⟩

theorem Mem.pow {P Q x : Nat} (hp : Pr P) (hq : Pr Q) (h : Mem P Q x) : ∀ k, Mem P Q (x ^ k % P)
  | 0 => by rw [Nat.pow_zero, one_mod hp]; exact Mem.one hp
  | k + 1 => by
    have := (Mem.pow hp hq h k).mul hp hq h
    rwa [Nat.mod_mul_mod, ← Nat.pow_succ] at this

theorem pow_iff {P Q G : Nat} (h : Gp P Q G) (i j : Nat) : G ^ i % P = G ^ j % P ↔ i % Q = j % Q := pow_same (by have := h.pr.1; omega) h.ord

theorem pow_lt_iff {P Q G i j : Nat} (h : Gp P Q G) (hi : i < Q) (hj : j < Q) : G ^ i % P = G ^ j % P ↔ i = j := by
  rw [pow_iff h, Nat.mod_eq_of_lt hi, Nat.mod_eq_of_lt hj]

/-- Each member is a power of it. -/
theorem log_ex {P Q G x : Nat} (h : Gp P Q G) (hx : Mem P Q x) : ∃ i, i < Q ∧ G ^ i % P = x := by
  have hP := h.pr.1
  have hQ := h.prq.1
  refine Classical.byContradiction fun hno => ?_
  have hn : ∀ i, i < Q → G ^ i % P ≠ x := fun i hi e => hno ⟨i, hi, e⟩
  have := root_bound (p := P) (n := Q) h.pr (by omega) (x :: (List.range Q).map (fun i => G ^ i % P)) ?_ ?_ ?_
  · simp at this
    omega
  · refine List.nodup_cons.2 ⟨fun hm => ?_, List.pairwise_map.2 (List.Pairwise.imp_of_mem ?_ List.nodup_range)⟩
    · obtain ⟨i, hi, e⟩ := List.mem_map.1 hm
      exact hn i (List.mem_range.1 hi) e
    · intro i j hi hj hne e
      exact hne ((pow_lt_iff h (List.mem_range.1 hi) (List.mem_range.1 hj)).1 e)
  · intro y hy
    rcases List.mem_cons.1 hy with rfl | hy
    · exact hx.2.1
    · obtain ⟨i, _, rfl⟩ := List.mem_map.1 hy
      exact Nat.mod_lt _ (by omega)
  · intro y hy
    rcases List.mem_cons.1 hy with rfl | hy
    · exact hx.2.2
    · obtain ⟨i, _, rfl⟩ := List.mem_map.1 hy
      exact (h.mem.pow h.pr h.prq i).2.2

theorem Gp.other {P Q G x : Nat} (h : Gp P Q G) (hx : Mem P Q x) (h1 : x ≠ 1) : Gp P Q x := ⟨h.pr, h.prq, hx.2.2, by have := hx.1; omega, hx.2.1⟩

/-- From either side it is the same. -/
theorem shares (P G a b : Nat) : (G ^ a % P) ^ b % P = (G ^ b % P) ^ a % P := by
  rw [← Nat.pow_mod, ← Nat.pow_mod, ← Nat.pow_mul, ← Nat.pow_mul, Nat.mul_comm]

theorem pow_pow_mod (P G a b : Nat) : (G ^ a % P) ^ b % P = G ^ (a * b) % P := by rw [← Nat.pow_mod, ← Nat.pow_mul]

/-- There is just one member that times another one is a third. -/
theorem quot_ex {P Q a b : Nat} (hp : Pr P) (hq : Pr Q) (ha : Mem P Q a) (hb : Mem P Q b) : ∃ o, Mem P Q o ∧ o * a % P = b := by
  have hQ := hq.1
  refine ⟨b * (a ^ (Q - 1) % P) % P, hb.mul hp hq (ha.pow hp hq (Q - 1)), ?_⟩
  rw [Nat.mod_mul_mod, Nat.mul_assoc, ← Nat.mul_mod_mod, Nat.mod_mul_mod, ← Nat.pow_succ, show (Q - 1).succ = Q by omega, ha.2.2, Nat.mul_one, Nat.mod_eq_of_lt hb.2.1]

theorem quot_uniq {P Q a o o' : Nat} (hp : Pr P) (hq : Pr Q) (ha : Mem P Q a) (ho : o < P) (ho' : o' < P) (e : o * a % P = o' * a % P) : o = o' := by
  have := cancel e (mem_cop hp hq ha)
  rwa [Nat.mod_eq_of_lt ho, Nat.mod_eq_of_lt ho'] at this

/-! ### bound, and hidden -/

def bd (P G H m r : Nat) : Nat := (G ^ m % P) * (H ^ r % P) % P

theorem bd_log {P G H b : Nat} (hb : G ^ b % P = H % P) (m r : Nat) : bd P G H m r = G ^ (m + b * r) % P := by
  unfold bd
  rw [Nat.pow_add, Nat.mul_mod (G ^ m) (G ^ (b * r)) P]
  congr 2
  rw [Nat.pow_mul, Nat.pow_mod (G ^ b), hb, ← Nat.pow_mod]

theorem bd_mem {P Q G H : Nat} (hG : Gp P Q G) (hH : Mem P Q H) (m r : Nat) : Mem P Q (bd P G H m r) :=
  (hG.mem.pow hG.pr hG.prq m).mul hG.pr hG.prq (hH.pow hG.pr hG.prq r)

/-- There is just one number by which it would have been another one. -/
theorem other_ex {P Q G H c m : Nat} (hG : Gp P Q G) (hH : Gp P Q H) (hc : Mem P Q c) : ∃ r, r < Q ∧ bd P G H m r = c := by
  obtain ⟨o, ho, e⟩ := quot_ex hG.pr hG.prq (hG.mem.pow hG.pr hG.prq m) hc
  obtain ⟨r, hr, er⟩ := log_ex hH ho
  exact ⟨r, hr, by unfold bd; rw [er, Nat.mul_comm, e]⟩

theorem other_uniq {P Q G H m r s : Nat} (hG : Gp P Q G) (hH : Gp P Q H) (hr : r < Q) (hs : s < Q) (e : bd P G H m r = bd P G H m s) : r = s := by
  have hP := hG.pr.1
  unfold bd at e
  rw [Nat.mul_comm, Nat.mul_comm (G ^ m % P)] at e
  exact (pow_lt_iff hH hr hs).1 (quot_uniq hG.pr hG.prq (hG.mem.pow hG.pr hG.prq m) (Nat.mod_lt _ (by omega)) (Nat.mod_lt _ (by omega)) e)

/-- Bound alike just if the exponents are, by the power that the one is of the other. -/
theorem bd_same {P Q G H b m r n s : Nat} (hG : Gp P Q G) (hb : G ^ b % P = H % P) : bd P G H m r = bd P G H n s ↔ (m + b * r) % Q = (n + b * s) % Q := by
  rw [bd_log hb, bd_log hb, pow_iff hG]

theorem bd_adds (P G H m r n s : Nat) : bd P G H (m + n) (r + s) = bd P G H m r * bd P G H n s % P := by
  unfold bd
  rw [Nat.mod_mul_mod, Nat.mul_mod_mod, Nat.pow_add, Nat.pow_add, Nat.mod_mul_mod, Nat.mul_mod_mod]
  rw [show G ^ m % P * (H ^ r % P) * (G ^ n % P * (H ^ s % P)) = (G ^ m % P) * (G ^ n % P) * ((H ^ r % P) * (H ^ s % P)) by ac_rfl]
  rw [Nat.mul_mod (G ^ m * G ^ n), Nat.mul_mod (G ^ m) (G ^ n), Nat.mul_mod (H ^ r) (H ^ s), ← Nat.mul_mod]

theorem pow_mod_exp {P Q G : Nat} (hG : Gp P Q G) (k : Nat) : G ^ (k % Q) % P = G ^ k % P := (pow_iff hG _ _).2 (Nat.mod_mod k Q)

/-- Two pairs that are not the same, bound alike, tell the power: no other number fits. -/
theorem break_uniq {P Q G H b d m r n s : Nat} (hG : Gp P Q G) (hb : G ^ b % P = H % P) (hbQ : b < Q) (hd : d < Q) (hr : r < Q) (hs : s < Q) (hm : m < Q) (hn : n < Q) (hne : ¬ (m = n ∧ r = s)) (e : bd P G H m r = bd P G H n s) (ed : (m + d * r) % Q = (n + d * s) % Q) : d = b := by
  have e2 := (bd_same hG hb).1 e
  have h1 := (mod_eq_iff (m := Q)).1 e2
  have h2 := (mod_eq_iff (m := Q)).1 ed
  have h3 := Int.dvd_sub h1 h2
  have e3 : ((m + b * r : Nat) : Int) - ((n + b * s : Nat) : Int) - (((m + d * r : Nat) : Int) - ((n + d * s : Nat) : Int)) = ((b : Int) - (d : Int)) * ((r : Int) - (s : Int)) := by
    push_cast; grind
  rw [e3] at h3
  rcases int_dvd_mul hG.prq h3 with h | h
  · have := (mod_eq_iff (m := Q) (x := b) (y := d)).2 h
    rw [Nat.mod_eq_of_lt hbQ, Nat.mod_eq_of_lt hd] at this
    exact this.symm
  · have h4 := (mod_eq_iff (m := Q) (x := r) (y := s)).2 h
    rw [Nat.mod_eq_of_lt hr, Nat.mod_eq_of_lt hs] at h4
    subst h4
    have h5 : (Q : Int) ∣ (m : Int) - (n : Int) := by
      have e4 : ((m + b * r : Nat) : Int) - ((n + b * r : Nat) : Int) = (m : Int) - (n : Int) := by push_cast; omega
      rw [e4] at h1; exact h1
    have h6 := (mod_eq_iff (m := Q) (x := m) (y := n)).2 h5
    rw [Nat.mod_eq_of_lt hm, Nat.mod_eq_of_lt hn] at h6
    exact absurd ⟨h6, rfl⟩ hne

/-! ### proof without telling -/

/-- What who knows the secret says fits. -/
theorem talk_fits {P Q G : Nat} (hG : Gp P Q G) (x k a : Nat) : G ^ ((k + a * x) % Q) % P = (G ^ k % P) * ((G ^ x % P) ^ a % P) % P := by
  rw [pow_mod_exp hG, pow_pow_mod, ← Nat.mul_mod, ← Nat.pow_add, Nat.mul_comm x a]

/-- What fits is just what who knows the secret says. -/
theorem talk_iff {P Q G x k a z : Nat} (hG : Gp P Q G) (hz : z < Q) : G ^ z % P = (G ^ k % P) * ((G ^ x % P) ^ a % P) % P ↔ z = (k + a * x) % Q := by
  rw [← talk_fits hG, pow_iff hG, Nat.mod_mod, Nat.mod_eq_of_lt hz]

/-- Two answers to two things asked tell the secret: no other number fits. -/
theorem extract_uniq {Q x d k a b y z : Nat} (hq : Pr Q) (hx : x < Q) (hd : d < Q) (ha : a < Q) (hb : b < Q) (hne : a ≠ b) (h1 : y % Q = (k + a * x) % Q) (h2 : z % Q = (k + b * x) % Q) (h3 : (y + b * d) % Q = (z + a * d) % Q) : d = x := by
  have g1 := (mod_eq_iff (m := Q)).1 h1
  have g2 := (mod_eq_iff (m := Q)).1 h2
  have g3 := (mod_eq_iff (m := Q)).1 h3
  have g4 := Int.dvd_sub (Int.dvd_sub g3 g1) (Int.dvd_neg.2 g2)
  have e : ((y + b * d : Nat) : Int) - ((z + a * d : Nat) : Int) - ((y : Int) - ((k + a * x : Nat) : Int)) - -((z : Int) - ((k + b * x : Nat) : Int)) = ((a : Int) - (b : Int)) * ((x : Int) - (d : Int)) := by
    push_cast; grind
  rw [e] at g4
  rcases int_dvd_mul hq g4 with h | h
  · have := (mod_eq_iff (m := Q) (x := a) (y := b)).2 h
    rw [Nat.mod_eq_of_lt ha, Nat.mod_eq_of_lt hb] at this
    exact absurd this hne
  · have := (mod_eq_iff (m := Q) (x := x) (y := d)).2 h
    rw [Nat.mod_eq_of_lt hx, Nat.mod_eq_of_lt hd] at this
    exact this.symm

end Go.Proofs.Ytpflkihagebmlab.Num56
