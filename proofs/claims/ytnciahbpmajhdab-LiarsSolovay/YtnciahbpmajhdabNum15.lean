/-
  Plain arithmetic, without the model: Rabin's and Monier's bound: of an odd number that is no prime at most a quarter of all below it seem to prove it one by square roots of 1.
-/
import Derived.Test.YtnciahbpmajhdabNum12
namespace Go.Proofs.Ytnciahbpmajhdab.Num15
set_option linter.unusedVariables false
open Go.Proofs.Ytnciahbpmajhdab.Num Go.Proofs.Ytnciahbpmajhdab.Num3 Go.Proofs.Ytnciahbpmajhdab.Num6 Go.Proofs.Ytnciahbpmajhdab.Num7 Go.Proofs.Ytnciahbpmajhdab.Num8 Go.Proofs.Ytnciahbpmajhdab.Num9 Go.Proofs.Ytnciahbpmajhdab.Num10 Go.Proofs.Ytnciahbpmajhdab.Num11 Go.Proofs.Ytnciahbpmajhdab.Num12

theorem mul_cong {n a b c d : Int} (h1 : n ∣ a - b) (h2 : n ∣ c - d) : n ∣ a * c - b * d := by
  have e : a * c - b * d = (a - b) * c + b * (c - d) := by rw [Int.sub_mul, Int.mul_sub]; omega
  rw [e]
  exact Int.dvd_add (Int.dvd_mul_of_dvd_left h1) (Int.dvd_mul_of_dvd_right h2)

theorem pow_cong {n a b : Int} (h : n ∣ a - b) : ∀ k : Nat, n ∣ a ^ k - b ^ k
  | 0 => by simp
  | k + 1 => by rw [Int.pow_succ, Int.pow_succ]; exact mul_cong (pow_cong h k) h

theorem cong_trans {n a b c : Int} (h1 : n ∣ a - b) (h2 : n ∣ b - c) : n ∣ a - c := by
  have := Int.dvd_add h1 h2
  rwa [show a - b + (b - c) = a - c by omega] at this

theorem cong_symm {n a b : Int} (h : n ∣ a - b) : n ∣ b - a := by
  have := (Int.dvd_neg).2 h
  rwa [show -(a - b) = b - a by omega] at this

/-- One or minus one. -/
def Sn (e : Int) : Prop := e = 1 ∨ e = -1

theorem Sn.mul {a b : Int} (ha : Sn a) (hb : Sn b) : Sn (a * b) := by
  rcases ha with rfl | rfl <;> rcases hb with rfl | rfl <;> simp [Sn]

theorem Sn.bd {a : Int} (ha : Sn a) : -1 ≤ a ∧ a ≤ 1 := by
  rcases ha with rfl | rfl <;> omega

theorem sgn {n k M s t u v : Nat} {sp tp eu ev : Int} (hk3 : 3 ≤ k) (hk : k ∣ n) (h1 : (k : Int) ∣ (s : Int) ^ M - sp) (h2 : (k : Int) ∣ (t : Int) ^ M - tp)
    (hu : (n : Int) ∣ (u : Int) ^ M - eu) (hv : (n : Int) ∣ (v : Int) ^ M - ev) (e : s * u % n = t * v % n) (b1 : Sn sp) (b2 : Sn tp) (b3 : Sn eu) (b4 : Sn ev) : sp * eu = tp * ev := by
  have hkn : (k : Int) ∣ (n : Int) := Int.ofNat_dvd.2 hk
  have e1 := pow_cong (Int.dvd_trans hkn (mod_eq_iff.1 e)) M
  rw [Int.natCast_mul, Int.natCast_mul, Int.mul_pow, Int.mul_pow] at e1
  have e2 := mul_cong h1 (Int.dvd_trans hkn hu)
  have e3 := mul_cong h2 (Int.dvd_trans hkn hv)
  exact small_eq hk3 (cong_trans (cong_symm e2) (cong_trans e1 e3)) (b1.mul b3).bd (b2.mul b4).bd

theorem sgn_one {a b e : Int} (he : Sn e) (h : a * e = b * e) : a = b := by
  rcases he with rfl | rfl <;> omega

/-- The greatest exponent at which some power is minus one. -/
theorem greatest {P : Nat → Prop} (h0 : P 0) : ∀ s, 1 ≤ s → ∃ i, i < s ∧ P i ∧ ∀ j, i < j → j < s → ¬ P j := by
  intro s
  induction s with
  | zero => intro h; omega
  | succ s ih =>
    intro _
    by_cases hs : P s
    · exact ⟨s, by omega, hs, fun j h1 h2 => by omega⟩
    · rcases Nat.eq_zero_or_pos s with e | e
      · subst e; exact absurd h0 hs
      · obtain ⟨i, h1, h2, h3⟩ := ih e
        refine ⟨i, by omega, h2, fun j h4 h5 => ?_⟩
        by_cases ej : j = s
        · subst ej; exact hs
        · exact h3 j h4 (by omega)

theorem minus_start {n d : Nat} (hn : 3 ≤ n) (hd : d % 2 = 1) : (n - 1) ^ (2 ^ 0 * d) % n = n - 1 := by
  rw [minus_iff (by omega), natpow_cast]
  have e : ((n - 1 : Nat) : Int) = (n : Int) - 1 := by omega
  have h1 : (n : Int) ∣ ((n - 1 : Nat) : Int) - (-1) := ⟨1, by rw [e]; omega⟩
  have h2 := pow_cong h1 (2 ^ 0 * d)
  obtain ⟨k, rfl⟩ : ∃ k, d = 2 * k + 1 := ⟨d / 2, by omega⟩
  have e2 : (-1 : Int) ^ (2 ^ 0 * (2 * k + 1)) = -1 := by
    rw [Nat.pow_zero, Nat.one_mul, Int.pow_succ, Int.pow_mul]
    have : ((-1 : Int) ^ 2) = 1 := rfl
    rw [this, Int.one_pow]; rfl
  rw [e2] at h2
  rwa [show ((n - 1 : Nat) : Int) ^ (2 ^ 0 * (2 * k + 1)) - -1 = ((n - 1 : Nat) : Int) ^ (2 ^ 0 * (2 * k + 1)) + 1 by omega] at h2

/-- All that seem so are of the group at the greatest exponent. -/
theorem in_group {n s d i : Nat} (hn : 3 ≤ n) (hi : i < s) (hmax : ∀ j, i < j → j < s → ¬ ∃ a, a ^ (2 ^ j * d) % n = n - 1) {u : Nat} (h : Strong u n s d) : ∃ e : Int, Sn e ∧ (n : Int) ∣ (u : Int) ^ (2 ^ i * d) - e := by
  rcases h with h | ⟨j, hj, h⟩
  · refine ⟨1, .inl rfl, ?_⟩
    rw [one_iff (by omega), natpow_cast] at h
    have := int_pow_one h (2 ^ i)
    rwa [← Int.pow_mul, Nat.mul_comm] at this
  · have hji : j ≤ i := by
      rcases Nat.lt_or_ge i j with h1 | h1
      · exact absurd ⟨u, h⟩ (hmax j h1 hj)
      · exact h1
    rw [minus_iff (by omega), natpow_cast] at h
    by_cases e : j = i
    · subst e
      refine ⟨-1, .inr rfl, ?_⟩
      rwa [show (u : Int) ^ (2 ^ j * d) - -1 = (u : Int) ^ (2 ^ j * d) + 1 by omega]
    · refine ⟨1, .inl rfl, ?_⟩
      have h2 := int_pow_one (minus_sq h) (2 ^ (i - j - 1))
      rw [← Int.pow_mul, ← Int.pow_mul] at h2
      rwa [show 2 ^ j * d * (2 * 2 ^ (i - j - 1)) = 2 ^ i * d by
        have : 2 ^ i = 2 ^ j * (2 * 2 ^ (i - j - 1)) := by
          rw [← Nat.pow_succ', ← Nat.pow_add]; congr 1; omega
        rw [this]; ac_rfl] at h2

theorem cong_of_mod {k x y : Nat} (h : x % k = y % k) (M : Nat) {e : Int} (hy : (k : Int) ∣ (y : Int) ^ M - e) : (k : Int) ∣ (x : Int) ^ M - e :=
  cong_trans (pow_cong (mod_eq_iff.1 h) M) hy

theorem one_cong (k M : Nat) : (k : Int) ∣ ((1 : Nat) : Int) ^ M - 1 := by
  rw [show ((1 : Nat) : Int) = 1 from rfl, Int.one_pow]; simp

theorem cop_of_mod {k x y : Nat} (h : x % k = y % k) (hy : Nat.gcd y k = 1) : Nat.gcd x k = 1 := by
  rw [← gcd_mod, h, gcd_mod]; exact hy

/-- Three parts that have nothing in common. -/
theorem three {n M p q r a : Nat} (hn : n = p * (q * r)) (hp : 3 ≤ p) (hq : 3 ≤ q) (hr : 3 ≤ r) (hpq : Nat.gcd p q = 1) (hpr : Nat.gcd p r = 1) (hqr : Nat.gcd q r = 1) (ha : (n : Int) ∣ (a : Int) ^ M - (-1)) (hga : Nat.gcd a n = 1)
    {L : List Nat} (hL : L.Nodup) (hu : ∀ u ∈ L, u ∈ ul n n) (hH : ∀ u ∈ L, ∃ e : Int, Sn e ∧ (n : Int) ∣ (u : Int) ^ M - e) : 4 * L.length ≤ tot n := by
  have hpn : p ∣ n := by rw [hn]; exact Nat.dvd_mul_right _ _
  have hqn : q ∣ n := by rw [hn]; exact Nat.dvd_mul_left_of_dvd (Nat.dvd_mul_right _ _) _
  have hrn : r ∣ n := by rw [hn]; exact Nat.dvd_mul_left_of_dvd (Nat.dvd_mul_left _ _) _
  have hn2 : 2 ≤ n := Nat.le_trans (by omega) (Nat.le_of_dvd (by
    rw [hn]; exact Nat.mul_pos (by omega) (Nat.mul_pos (by omega) (by omega))) hpn)
  have hap := Int.dvd_trans (Int.ofNat_dvd.2 hpn) ha
  have haq := Int.dvd_trans (Int.ofNat_dvd.2 hqn) ha
  have gap : Nat.gcd a p = 1 := Nat.Coprime.coprime_dvd_right hpn hga
  have gaq : Nat.gcd a q = 1 := Nat.Coprime.coprime_dvd_right hqn hga
  obtain ⟨x, x1, x2⟩ := sun (m := p) (n := q * r) (by omega) (Nat.mul_pos (by omega) (by omega)) (Nat.Coprime.mul_right hpq hpr) a 1
  obtain ⟨y, y1, y2⟩ := sun (m := q) (n := p * r) (by omega) (Nat.mul_pos (by omega) (by omega)) (Nat.Coprime.mul_right (Nat.Coprime.symm hpq) hqr) a 1
  obtain ⟨x3, x4⟩ := (mod_mul_iff hqr).1 x2
  obtain ⟨y3, y4⟩ := (mod_mul_iff hpr).1 y2
  have cop : ∀ {t : Nat}, Nat.gcd t p = 1 → Nat.gcd t q = 1 → Nat.gcd t r = 1 → Nat.gcd t n = 1 := fun h1 h2 h3 => by
    rw [hn]; exact Nat.Coprime.mul_right h1 (Nat.Coprime.mul_right h2 h3)
  have gx : Nat.gcd x n = 1 := cop (cop_of_mod x1 gap) (cop_of_mod x3 (Nat.gcd_one_left _)) (cop_of_mod x4 (Nat.gcd_one_left _))
  have gy : Nat.gcd y n = 1 := cop (cop_of_mod y3 (Nat.gcd_one_left _)) (cop_of_mod y1 gaq) (cop_of_mod y4 (Nat.gcd_one_left _))
  -- what each leaves, by each part
  have xp := cong_of_mod x1 M hap
  have xq := cong_of_mod x3 M (one_cong q M)
  have xr := cong_of_mod x4 M (one_cong r M)
  have yp := cong_of_mod y3 M (one_cong p M)
  have yq := cong_of_mod y1 M haq
  have yr := cong_of_mod y4 M (one_cong r M)
  have ap : (p : Int) ∣ ((x * y : Nat) : Int) ^ M - (-1) := by rw [Int.natCast_mul, Int.mul_pow]; exact mul_cong xp yp
  have aq : (q : Int) ∣ ((x * y : Nat) : Int) ^ M - (-1) := by rw [Int.natCast_mul, Int.mul_pow]; exact mul_cong xq yq
  have ar : (r : Int) ∣ ((x * y : Nat) : Int) ^ M - 1 := by rw [Int.natCast_mul, Int.mul_pow]; exact mul_cong xr yr
  have key : ∀ {s t : Nat} {sp sq tp tq : Int}, Sn sp → Sn sq → Sn tp → Sn tq → (p : Int) ∣ (s : Int) ^ M - sp → (q : Int) ∣ (s : Int) ^ M - sq → (r : Int) ∣ (s : Int) ^ M - 1 →
      (p : Int) ∣ (t : Int) ^ M - tp → (q : Int) ∣ (t : Int) ^ M - tq → (r : Int) ∣ (t : Int) ^ M - 1 → (sp ≠ tp ∨ sq ≠ tq) → ∀ u ∈ L, ∀ v ∈ L, ¬ s * u % n = t * v % n := by
    intro s t sp sq tp tq b1 b2 b3 b4 h1 h2 h3 h4 h5 h6 hne u hu' v hv' e
    obtain ⟨eu, e1, e2⟩ := hH u hu'
    obtain ⟨ev, e3, e4⟩ := hH v hv'
    have f1 := sgn hr hrn h3 h6 e2 e4 e (.inl rfl) (.inl rfl) e1 e3
    have f2 : eu = ev := by omega
    subst f2
    have f3 := sgn_one e1 (sgn hp hpn h1 h4 e2 e4 e b1 b3 e1 e3)
    have f4 := sgn_one e1 (sgn hq hqn h2 h5 e2 e4 e b2 b4 e1 e3)
    rcases hne with h | h
    · exact h f3
    · exact h f4
  have P1 : Sn 1 := .inl rfl
  have P2 : Sn (-1) := .inr rfl
  have hc := coset hn2 hL hu [1, x, y, x * y] (by
    intro t ht
    simp at ht
    rcases ht with rfl | rfl | rfl | rfl
    · exact Nat.gcd_one_left _
    · exact gx
    · exact gy
    · exact Nat.Coprime.mul_left gx gy) (by
    simp only [List.pairwise_cons, List.mem_cons, List.not_mem_nil, or_false, forall_eq_or_imp, forall_eq]
    refine ⟨⟨?_, ?_, ?_⟩, ⟨?_, ?_⟩, ?_, ?_, ?_⟩
    · exact key P1 P1 P2 P1 (one_cong _ _) (one_cong _ _) (one_cong _ _) xp xq xr (.inl (by omega))
    · exact key P1 P1 P1 P2 (one_cong _ _) (one_cong _ _) (one_cong _ _) yp yq yr (.inr (by omega))
    · exact key P1 P1 P2 P2 (one_cong _ _) (one_cong _ _) (one_cong _ _) ap aq ar (.inl (by omega))
    · exact key P2 P1 P1 P2 xp xq xr yp yq yr (.inl (by omega))
    · exact key P2 P1 P2 P2 xp xq xr ap aq ar (.inr (by omega))
    · exact key P1 P2 P2 P2 yp yq yr ap aq ar (.inl (by omega))
    · intro a ha; exact absurd ha (by simp)
    · exact List.Pairwise.nil)
  simpa using hc

theorem sub_one {a b : Nat} (h : 1 ≤ a) (hb : 1 ≤ b) : a * b - 1 = b * (a - 1) + (b - 1) := by
  have : 1 * 1 ≤ a * b := Nat.mul_le_mul h hb
  have e : b * (a - 1) + b = a * b := by
    rw [Nat.mul_sub, Nat.mul_one, Nat.mul_comm b a]
    have : b ≤ a * b := Nat.le_mul_of_pos_left b h
    omega
  omega

/-- Of two primes some unit does not seem so even by Fermat. -/
theorem not_fermat {n p q : Nat} (hp : Pr p) (hq : Pr q) (hne : p ≠ q) (hn : n = p * q) : ∃ y, Nat.gcd y n = 1 ∧ ¬ y ^ (n - 1) % n = 1 := by
  have hp1 := hp.1
  have hq1 := hq.1
  have hpq : Nat.gcd p q = 1 := cop_prime hp (fun h => hne (hp.eq_of_dvd hq h))
  have half : ∀ {p q : Nat}, Pr p → Pr q → p ≠ q → n = p * q → (∀ y, Nat.gcd y n = 1 → y ^ (n - 1) % n = 1) → p - 1 ∣ q - 1 := by
    intro p q hp hq hne hn hall
    have hp1 := hp.1
    have hq1 := hq.1
    have hpq : Nat.gcd p q = 1 := cop_prime hp (fun h => hne (hp.eq_of_dvd hq h))
    obtain ⟨g, hg⟩ := prim_ex hp
    have hgp := cop_of_pow (by omega) hg.1 hg.2.1
    obtain ⟨y, y1, y2⟩ := sun (by omega) (by omega) hpq g 1
    have gy : Nat.gcd y n = 1 := by
      rw [hn]; exact Nat.Coprime.mul_right (cop_of_mod y1 hgp) (cop_of_mod y2 (Nat.gcd_one_left _))
    have h1 := hall y gy
    have h2 : y ^ (n - 1) % p = 1 % p := by
      have : y ^ (n - 1) % n % p = 1 % p := by rw [h1]
      rwa [Nat.mod_mod_of_dvd _ (by rw [hn]; exact Nat.dvd_mul_right _ _)] at this
    have h3 : g ^ (n - 1) % p = 1 % p := by rw [Nat.pow_mod, ← y1, ← Nat.pow_mod]; exact h2
    have h4 := (hg.dvd _).1 h3
    rw [hn, sub_one (by omega) (by omega)] at h4
    exact (Nat.dvd_add_right (Nat.dvd_mul_left _ _)).1 h4
  by_cases hall : ∀ y, Nat.gcd y n = 1 → y ^ (n - 1) % n = 1
  · exfalso
    have h1 := Nat.le_of_dvd (by omega) (half hp hq hne hn hall)
    have h2 := Nat.le_of_dvd (by omega) (half hq hp (Ne.symm hne) (by rw [hn, Nat.mul_comm]) hall)
    omega
  · rcases Classical.not_forall.1 hall with ⟨y, hy⟩
    exact ⟨y, Classical.not_imp.1 hy⟩

/-- Two primes. -/
theorem two {n M p q a c : Nat} (hp : Pr p) (hq : Pr q) (hne : p ≠ q) (hn : n = p * q) (hp3 : 3 ≤ p) (hq3 : 3 ≤ q) (hM : n - 1 = M * (2 * c)) (ha : (n : Int) ∣ (a : Int) ^ M - (-1)) (hga : Nat.gcd a n = 1)
    {L : List Nat} (hL : L.Nodup) (hu : ∀ u ∈ L, u ∈ ul n n) (hH : ∀ u ∈ L, ∃ e : Int, Sn e ∧ (n : Int) ∣ (u : Int) ^ M - e) : 4 * L.length ≤ tot n := by
  have hpq : Nat.gcd p q = 1 := cop_prime hp (fun h => hne (hp.eq_of_dvd hq h))
  have hpn : p ∣ n := by rw [hn]; exact Nat.dvd_mul_right _ _
  have hqn : q ∣ n := by rw [hn]; exact Nat.dvd_mul_left _ _
  have hn2 : 2 ≤ n := Nat.le_trans (by omega) (Nat.le_of_dvd (by
    rw [hn]; exact Nat.mul_pos (by omega) (by omega)) hpn)
  obtain ⟨y, gy, fy⟩ := not_fermat hp hq hne hn
  have gap : Nat.gcd a p = 1 := Nat.Coprime.coprime_dvd_right hpn hga
  obtain ⟨x, x1, x2⟩ := sun (m := p) (n := q) (by omega) (by omega) hpq a 1
  have gx : Nat.gcd x n = 1 := by
    rw [hn]; exact Nat.Coprime.mul_right (cop_of_mod x1 gap) (cop_of_mod x2 (Nat.gcd_one_left _))
  have xp := cong_of_mod x1 M (Int.dvd_trans (Int.ofNat_dvd.2 hpn) ha)
  have xq := cong_of_mod x2 M (one_cong q M)
  -- what is of the group seems so by Fermat
  have fer : ∀ {k t : Nat} {e : Int}, Sn e → (k : Int) ∣ (t : Int) ^ M - e → (k : Int) ∣ (t : Int) ^ (n - 1) - 1 := by
    intro k t e he h
    have h1 := int_pow_one (sq_of h (by rcases he with rfl | rfl <;> rfl)) c
    rwa [← Int.pow_mul, ← Int.pow_mul, ← hM] at h1
  have ferL : ∀ u ∈ L, u ^ (n - 1) % n = 1 := fun u hu' => by
    obtain ⟨e, h1, h2⟩ := hH u hu'
    rw [one_iff hn2, natpow_cast]; exact fer h1 h2
  have ferx : x ^ (n - 1) % n = 1 := by
    rw [one_iff hn2, natpow_cast, hn]
    rw [hn] at fer
    exact int_cop_dvd hpq (fer (.inr rfl) xp) (fer (.inl rfl) xq)
  have fpair : ∀ {s t u v : Nat}, u ∈ L → v ∈ L → s * u % n = t * v % n → s ^ (n - 1) % n = t ^ (n - 1) % n := by
    intro s t u v hu' hv' e
    have e1 : (s * u) ^ (n - 1) % n = (t * v) ^ (n - 1) % n := by rw [Nat.pow_mod, e, ← Nat.pow_mod]
    rwa [Nat.mul_pow, Nat.mul_pow, Nat.mul_mod, ferL u hu', Nat.mul_one, Nat.mod_mod, Nat.mul_mod (t ^ (n - 1)), ferL v hv', Nat.mul_one, Nat.mod_mod] at e1
  have f1 : 1 ^ (n - 1) % n = 1 := by rw [Nat.one_pow]; exact Nat.mod_eq_of_lt (by omega)
  have fxy : (x * y) ^ (n - 1) % n = y ^ (n - 1) % n := by rw [Nat.mul_pow, Nat.mul_mod, ferx, Nat.one_mul, Nat.mod_mod]
  have n1x : ∀ u ∈ L, ∀ v ∈ L, ¬ 1 * u % n = x * v % n := by
    intro u hu' v hv' e
    obtain ⟨eu, e1, e2⟩ := hH u hu'
    obtain ⟨ev, e3, e4⟩ := hH v hv'
    have g1 := sgn hp3 hpn (one_cong p M) xp e2 e4 e (.inl rfl) (.inr rfl) e1 e3
    have g2 := sgn hq3 hqn (one_cong q M) xq e2 e4 e (.inl rfl) (.inl rfl) e1 e3
    rcases e1 with rfl | rfl <;> rcases e3 with rfl | rfl <;> omega
  have hc := coset hn2 hL hu [1, x, y, x * y] (by
    intro t ht
    simp at ht
    rcases ht with rfl | rfl | rfl | rfl
    · exact Nat.gcd_one_left _
    · exact gx
    · exact gy
    · exact Nat.Coprime.mul_left gx gy) (by
    simp only [List.pairwise_cons, List.mem_cons, List.not_mem_nil, or_false, forall_eq_or_imp, forall_eq]
    refine ⟨⟨n1x, ?_, ?_⟩, ⟨?_, ?_⟩, ?_, ?_, ?_⟩
    · intro u hu' v hv' e
      have := fpair hu' hv' e
      rw [f1] at this; exact fy this.symm
    · intro u hu' v hv' e
      have := fpair hu' hv' e
      rw [f1, fxy] at this; exact fy this.symm
    · intro u hu' v hv' e
      have := fpair hu' hv' e
      rw [ferx] at this; exact fy this.symm
    · intro u hu' v hv' e
      have := fpair hu' hv' e
      rw [ferx, fxy] at this; exact fy this.symm
    · intro u hu' v hv' e
      have e2 : 1 * u * y % n = x * v * y % n := by
        rw [show 1 * u * y = y * u by rw [Nat.one_mul, Nat.mul_comm], e]; congr 1; ac_rfl
      exact n1x u hu' v hv' (cancel e2 gy)
    · intro a ha; exact absurd ha (by simp)
    · exact List.Pairwise.nil)
  simpa using hc

/-- Rabin, Monier. -/
theorem rabin {n s d : Nat} (hn : 3 ≤ n) (ho : n % 2 = 1) (hc : ¬ Pr n) (hs : 1 ≤ s) (hd : d % 2 = 1) (hsd : n - 1 = 2 ^ s * d) {L : List Nat} (hL : L.Nodup) (hu : ∀ u ∈ L, 1 ≤ u ∧ u < n) (hS : ∀ u ∈ L, Strong u n s d) : 4 * L.length ≤ n - 1 := by
  obtain ⟨l, hF⟩ := Fac.exists n (by omega)
  have hE := fun u hu' => strong_euler hn ho hs hd hsd hF (hS u hu')
  have hul : ∀ u ∈ L, u ∈ ul n n := fun u hu' => mem_ul.2 ⟨(hu u hu').1, by have := (hu u hu').2; omega, (hE u hu').1⟩
  have hFe : ∀ u ∈ L, u ^ (n - 1) % n = 1 := fun u hu' => euler_fermat hn ho hF (hE u hu')
  have ht := tot_lt (n := n) (by omega)
  rcases comp_cases hn ho hc with ⟨p, N, hp, hp3, e, hpN, hN⟩ | ⟨p, m, hp, hp3, e, hd', hm, hm2⟩
  · exact fermat_square hp hp3 e hpN hN hL hul hFe
  · have hpm := cop_prime hp hd'
    obtain ⟨i, hi, ⟨a, ha⟩, hmax⟩ := greatest (P := fun i => ∃ a, a ^ (2 ^ i * d) % n = n - 1) ⟨n - 1, minus_start hn hd⟩ s hs
    have hH := fun u hu' => in_group hn hi hmax (hS u hu')
    have ha2 : (n : Int) ∣ (a : Int) ^ (2 ^ i * d) - (-1) := by
      rw [minus_iff (by omega), natpow_cast] at ha
      rwa [show (a : Int) ^ (2 ^ i * d) - -1 = (a : Int) ^ (2 ^ i * d) + 1 by omega]
    have hM : n - 1 = 2 ^ i * d * (2 * 2 ^ (s - i - 1)) := by
      rw [hsd]
      have : 2 ^ s = 2 ^ i * (2 * 2 ^ (s - i - 1)) := by
        rw [← Nat.pow_succ', ← Nat.pow_add]; congr 1; omega
      rw [this]; ac_rfl
    have hga : Nat.gcd a n = 1 := by
      have h1 := int_pow_one (sq_of ha2 rfl) (2 ^ (s - i - 1))
      rw [← Int.pow_mul, ← Int.pow_mul, ← hM, ← natpow_cast] at h1
      have h2 := (one_iff (by omega)).2 h1
      exact cop_of_pow (k := n - 1) (by omega) (by omega) (by rw [h2]; exact (Nat.mod_eq_of_lt (by omega)).symm)
    by_cases hmp : Pr m
    · have := two hp hmp (fun h => hd' (by rw [h]; exact Nat.dvd_refl _)) e hp3 hm hM ha2 hga hL hul hH
      omega
    · rcases comp_cases hm hm2 hmp with ⟨q, N, hq, hq3, e2, hqN, hN⟩ | ⟨q, r, hq, hq3, e2, hqr, hr, hr2⟩
      · exact fermat_square (p := q) (N := p * N) hq hq3 (by rw [e, e2]; ac_rfl) (Nat.dvd_mul_left_of_dvd hqN _) (Nat.mul_pos (by omega) (by omega)) hL hul hFe
      · have hqm : q ∣ m := by rw [e2]; exact Nat.dvd_mul_right _ _
        have hrm : r ∣ m := by rw [e2]; exact Nat.dvd_mul_left _ _
        have := three (p := p) (q := q) (r := r) (by rw [e, e2]) hp3 hq3 hr (Nat.Coprime.coprime_dvd_right hqm hpm) (Nat.Coprime.coprime_dvd_right hrm hpm) (cop_prime hq hqr) ha2 hga hL hul hH
        omega

end Go.Proofs.Ytnciahbpmajhdab.Num15
