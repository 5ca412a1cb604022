/-
  Plain arithmetic, without the model: Sun Tzu; and when all powers are 1 again, of prime powers and of products (Carmichael's function).
-/
import Derived.Test.YtjpmkcijkcnfiaaNum7
import Derived.Test.YtjpmkcijkcnfiaaNum2
namespace Go.Proofs.Ytjpmkcijkcnfiaa.Num8
set_option linter.unusedVariables false
open Go.Proofs.Ytjpmkcijkcnfiaa.Num Go.Proofs.Ytjpmkcijkcnfiaa.Num3 Go.Proofs.Ytjpmkcijkcnfiaa.Num6 Go.Proofs.Ytjpmkcijkcnfiaa.Num7

/-- Rests are the same just if the difference is divided. -/
theorem mod_eq_iff {m x y : Nat} : x % m = y % m ↔ (m : Int) ∣ (x : Int) - (y : Int) := by
  constructor
  · intro h
    have e1 := Nat.div_add_mod x m
    have e2 := Nat.div_add_mod y m
    refine ⟨((x / m : Nat) : Int) - ((y / m : Nat) : Int), ?_⟩
    have f1 : (x : Int) = (m : Int) * ((x / m : Nat) : Int) + ((x % m : Nat) : Int) := by rw [← Int.natCast_mul, ← Int.natCast_add, e1]
    have f2 : (y : Int) = (m : Int) * ((y / m : Nat) : Int) + ((y % m : Nat) : Int) := by rw [← Int.natCast_mul, ← Int.natCast_add, e2]
    rw [Int.mul_sub]
    rw [h] at f1
    omega
  · rintro ⟨q, hq⟩
    have e : (x : Int) = y + m * q := by omega
    have h1 : (x : Int) % m = (y : Int) % m := by rw [e, Int.add_mul_emod_self_left]
    have h2 : ((x % m : Nat) : Int) = ((y % m : Nat) : Int) := by simpa using h1
    omega

theorem int_cop_dvd {m n : Nat} (h : Nat.gcd m n = 1) {z : Int} (h1 : (m : Int) ∣ z) (h2 : (n : Int) ∣ z) : ((m * n : Nat) : Int) ∣ z := by
  have a1 : m ∣ z.natAbs := by have := Int.natAbs_dvd_natAbs.2 h1; simpa using this
  have a2 : n ∣ z.natAbs := by have := Int.natAbs_dvd_natAbs.2 h2; simpa using this
  have a3 : m * n ∣ z.natAbs := Nat.Coprime.mul_dvd_of_dvd_of_dvd h a1 a2
  exact Int.natAbs_dvd_natAbs.1 (by rw [Int.natAbs_natCast]; exact a3)

theorem mod_mul_iff {m n x y : Nat} (h : Nat.gcd m n = 1) : x % (m * n) = y % (m * n) ↔ x % m = y % m ∧ x % n = y % n := by
  rw [mod_eq_iff, mod_eq_iff, mod_eq_iff]
  constructor
  · intro hd
    exact ⟨Int.dvd_trans ⟨(n : Int), by rw [Int.natCast_mul]⟩ hd, Int.dvd_trans ⟨(m : Int), by rw [Int.natCast_mul, Int.mul_comm]⟩ hd⟩
  · rintro ⟨h1, h2⟩
    exact int_cop_dvd h h1 h2

/-- Sun Tzu. -/
theorem sun {m n : Nat} (hm : 1 ≤ m) (hn : 1 ≤ n) (h : Nat.gcd m n = 1) (a b : Nat) : ∃ c, c % m = a % m ∧ c % n = b % n := by
  obtain ⟨u, v, e⟩ := Num2.bez m n
  rw [h] at e
  -- a * v * n + b * u * m
  obtain ⟨Z, hZ⟩ : ∃ Z : Int, Z = (a : Int) * (v * n) + (b : Int) * (u * m) := ⟨_, rfl⟩
  have hmn : (0 : Int) < ((m * n : Nat) : Int) := by
    have : 1 ≤ m * n := Nat.mul_le_mul hm hn
    omega
  have h0 := Int.emod_nonneg Z (show ((m * n : Nat) : Int) ≠ 0 by omega)
  have hdm : ((m * n : Nat) : Int) ∣ Z - Z % ((m * n : Nat) : Int) := Int.dvd_self_sub_emod
  have hc : ((Z % ((m * n : Nat) : Int)).toNat : Int) = Z % ((m * n : Nat) : Int) := Int.toNat_of_nonneg h0
  refine ⟨(Z % ((m * n : Nat) : Int)).toNat, ?_, ?_⟩
  · rw [mod_eq_iff, hc]
    have h1 : (m : Int) ∣ Z - Z % ((m * n : Nat) : Int) := Int.dvd_trans ⟨(n : Int), by rw [Int.natCast_mul]⟩ hdm
    have h2 : (m : Int) ∣ Z - a := by
      have : Z - (a : Int) = (m : Int) * ((b : Int) * u - (a : Int) * u) := by
        have e1 : v * (n : Int) = 1 - u * m := by omega
        rw [hZ, e1, Int.mul_sub, Int.mul_sub, Int.mul_one, Int.mul_left_comm (m : Int) (b : Int) u, Int.mul_left_comm (m : Int) (a : Int) u, Int.mul_comm (m : Int) u]
        omega
      exact ⟨_, this⟩
    have h3 := Int.dvd_sub h2 h1
    have e2 : Z - (a : Int) - (Z - Z % ((m * n : Nat) : Int)) = Z % ((m * n : Nat) : Int) - a := by omega
    rwa [e2] at h3
  · rw [mod_eq_iff, hc]
    have h1 : (n : Int) ∣ Z - Z % ((m * n : Nat) : Int) := Int.dvd_trans ⟨(m : Int), by rw [Int.natCast_mul, Int.mul_comm]⟩ hdm
    have h2 : (n : Int) ∣ Z - b := by
      have : Z - (b : Int) = (n : Int) * ((a : Int) * v - (b : Int) * v) := by
        have e1 : u * (m : Int) = 1 - v * n := by omega
        rw [hZ, e1, Int.mul_sub, Int.mul_sub, Int.mul_one, Int.mul_left_comm (n : Int) (a : Int) v, Int.mul_left_comm (n : Int) (b : Int) v, Int.mul_comm (n : Int) v]
        omega
      exact ⟨_, this⟩
    have h3 := Int.dvd_sub h2 h1
    have e2 : Z - (b : Int) - (Z - Z % ((m * n : Nat) : Int)) = Z % ((m * n : Nat) : Int) - b := by omega
    rwa [e2] at h3

/-- The least number that all orders divide. -/
def IsLam (m L : Nat) : Prop := (∃ c, IsOrd c m L) ∧ ∀ a o, IsOrd a m o → o ∣ L

theorem IsLam.uniq {m L K : Nat} (h : IsLam m L) (k : IsLam m K) : L = K := by
  obtain ⟨⟨c, hc⟩, hL⟩ := h
  obtain ⟨⟨d, hd⟩, hK⟩ := k
  exact Nat.dvd_antisymm (hK c L hc) (hL d K hd)

theorem lam_ex {m : Nat} (hm : 1 ≤ m) : ∃ L, IsLam m L := by
  obtain ⟨c, L, hc, h⟩ := lambda_ex hm
  exact ⟨L, ⟨c, hc⟩, h⟩

theorem IsLam.pos {m L : Nat} (h : IsLam m L) : 1 ≤ L := by obtain ⟨⟨c, hc⟩, _⟩ := h; exact hc.1

theorem IsLam.all {m L a : Nat} (h : IsLam m L) (hm : 1 ≤ m) (ha : Nat.gcd a m = 1) : a ^ L % m = 1 % m := by
  obtain ⟨o, ho, _⟩ := ord_ex hm ha
  exact (ho.dvd L).2 (h.2 a o ho)

theorem IsLam.tot {m L : Nat} (h : IsLam m L) (hm : 1 ≤ m) : L ∣ tot m := by
  obtain ⟨⟨c, hc⟩, _⟩ := h
  obtain ⟨o, ho, hd⟩ := ord_ex hm (cop_of_pow hm hc.1 hc.2.1)
  rw [hc.uniq ho]; exact hd

theorem isLam_of {m L c : Nat} (hm : 1 ≤ m) (hc : IsOrd c m L) (h : ∀ a, Nat.gcd a m = 1 → a ^ L % m = 1 % m) : IsLam m L :=
  ⟨⟨c, hc⟩, fun a o ho => (ho.dvd L).1 (h a (cop_of_pow hm ho.1 ho.2.1))⟩

/-- Of a product of two that have nothing in common. -/
theorem IsLam.mul {m n L K : Nat} (hm : 1 ≤ m) (hn : 1 ≤ n) (h : IsLam m L) (k : IsLam n K) (hc : Nat.gcd m n = 1) : IsLam (m * n) (Nat.lcm L K) := by
  obtain ⟨⟨c, hcL⟩, hL⟩ := h
  obtain ⟨⟨d, hdK⟩, hK⟩ := k
  obtain ⟨z, hz1, hz2⟩ := sun hm hn hc c d
  have hmn : 1 ≤ m * n := Nat.mul_le_mul hm hn
  have o1 : IsOrd z m L := isOrd_mod.1 (by rw [hz1]; exact isOrd_mod.2 hcL)
  have o2 : IsOrd z n K := isOrd_mod.1 (by rw [hz2]; exact isOrd_mod.2 hdK)
  have hord : IsOrd z (m * n) (Nat.lcm L K) := by
    refine isOrd_of_dvd (Nat.lcm_pos hcL.1 hdK.1) (fun j => ?_)
    rw [mod_mul_iff hc, o1.dvd, o2.dvd]
    exact ⟨fun ⟨h1, h2⟩ => Nat.lcm_dvd h1 h2, fun h => ⟨Nat.dvd_trans (Nat.dvd_lcm_left L K) h, Nat.dvd_trans (Nat.dvd_lcm_right L K) h⟩⟩
  refine isLam_of hmn hord (fun a ha => ?_)
  have ha1 : Nat.gcd a m = 1 := Nat.Coprime.coprime_dvd_right (Nat.dvd_mul_right m n) ha
  have ha2 : Nat.gcd a n = 1 := Nat.Coprime.coprime_dvd_right (Nat.dvd_mul_left n m) ha
  obtain ⟨p1, hp1, _⟩ := ord_ex hm ha1
  obtain ⟨p2, hp2, _⟩ := ord_ex hn ha2
  exact (mod_mul_iff hc).2 ⟨(hp1.dvd _).2 (Nat.dvd_trans (hL a p1 hp1) (Nat.dvd_lcm_left L K)), (hp2.dvd _).2 (Nat.dvd_trans (hK a p2 hp2) (Nat.dvd_lcm_right L K))⟩

def tri : Nat → Nat
  | 0 => 0
  | n + 1 => tri n + n

theorem tri_two : ∀ n, 2 * tri n + n = n * n
  | 0 => rfl
  | n + 1 => by
    have := tri_two n
    simp only [tri, Nat.mul_add, Nat.add_mul, Nat.mul_one, Nat.one_mul]
    omega

theorem binom1 (x : Nat) : ∀ n, ∃ w, (1 + x) ^ n = 1 + n * x + x * x * w
  | 0 => ⟨0, by simp⟩
  | n + 1 => by
    obtain ⟨w, hw⟩ := binom1 x n
    refine ⟨w + n + x * w, ?_⟩
    rw [Nat.pow_succ, hw]
    simp only [Nat.mul_add, Nat.add_mul, Nat.mul_one, Nat.one_mul]
    have e1 : n * x * x = x * x * n := by rw [Nat.mul_assoc, Nat.mul_comm]
    have e2 : x * x * w * x = x * x * (x * w) := by rw [Nat.mul_assoc, Nat.mul_comm w x]
    omega

theorem binom2 (x : Nat) : ∀ n, ∃ w, (1 + x) ^ n = 1 + n * x + tri n * (x * x) + x * x * x * w
  | 0 => ⟨0, by simp [tri]⟩
  | n + 1 => by
    obtain ⟨w, hw⟩ := binom2 x n
    refine ⟨w + tri n + x * w, ?_⟩
    rw [Nat.pow_succ, hw]
    simp only [tri, Nat.mul_add, Nat.add_mul, Nat.mul_one, Nat.one_mul]
    have e1 : n * x * x = n * (x * x) := Nat.mul_assoc _ _ _
    have e2 : x * x * x * w * x = x * x * x * (x * w) := by rw [Nat.mul_assoc, Nat.mul_comm w x]
    have e3 : tri n * (x * x) * x = x * x * x * tri n := by rw [Nat.mul_assoc, Nat.mul_comm]
    omega

/-- One step up, by an odd prime. -/
theorem lift_odd {p i u : Nat} (hp : Pr p) (ho : p ≠ 2) (hi : 1 ≤ i) (hu : ¬ p ∣ u) : ∃ u', ¬ p ∣ u' ∧ (1 + p ^ i * u) ^ p = 1 + p ^ (i + 1) * u' := by
  obtain ⟨w, hw⟩ := binom2 (p ^ i * u) p
  have ht : p ∣ tri p := by
    have h1 : p ∣ 2 * tri p := by
      have e := tri_two p
      have h2 : p ∣ 2 * tri p + p := by rw [e]; exact Nat.dvd_mul_right _ _
      exact (Nat.dvd_add_left (Nat.dvd_refl p)).1 h2
    rcases hp.dvd_mul h1 with h | h
    · have := Nat.le_of_dvd (by omega) h
      have := hp.1
      omega
    · exact h
  obtain ⟨t, ht⟩ := ht
  refine ⟨u + p * (p ^ (i - 1) * (t * (u * u)) + p ^ (2 * (i - 1)) * (u * u * u * w)), fun h => hu ((Nat.dvd_add_left (Nat.dvd_mul_right p _)).1 h), ?_⟩
  rw [hw, ht]
  obtain ⟨j, rfl⟩ : ∃ j, i = j + 1 := ⟨i - 1, by omega⟩
  simp only [Nat.add_sub_cancel]
  have e1 : p * (p ^ (j + 1) * u) = p ^ (j + 1 + 1) * u := by rw [Nat.pow_succ p (j + 1), Nat.mul_comm (p ^ (j + 1)) p, Nat.mul_assoc]
  have e2 : p * t * (p ^ (j + 1) * u * (p ^ (j + 1) * u)) = p ^ (j + 1 + 1) * (p * (p ^ j * (t * (u * u)))) := by
    rw [Nat.pow_succ p (j + 1), Nat.pow_succ p j]
    simp only [Nat.mul_assoc, Nat.mul_comm, Nat.mul_left_comm]
  have e3 : p ^ (j + 1) * u * (p ^ (j + 1) * u) * (p ^ (j + 1) * u) * w = p ^ (j + 1 + 1) * (p * (p ^ (2 * j) * (u * u * u * w))) := by
    rw [Nat.pow_succ p (j + 1), Nat.pow_succ p j, Nat.two_mul, Nat.pow_add]
    simp only [Nat.mul_assoc, Nat.mul_comm, Nat.mul_left_comm]
  rw [e1, e2, e3]
  simp only [Nat.mul_add]
  omega

theorem up_odd {p : Nat} (hp : Pr p) (ho : p ≠ 2) : ∀ j, ∃ u, ¬ p ∣ u ∧ (1 + p) ^ (p ^ j) = 1 + p ^ (j + 1) * u
  | 0 => ⟨1, fun h => by have := Nat.le_of_dvd (by omega) h; have := hp.1; omega, by simp⟩
  | j + 1 => by
    obtain ⟨u, hu, e⟩ := up_odd hp ho j
    obtain ⟨u', hu', e'⟩ := lift_odd hp ho (i := j + 1) (by omega) hu
    refine ⟨u', hu', ?_⟩
    rw [Nat.pow_succ, Nat.pow_mul, e, e']

theorem lift_two {i u : Nat} (hi : 2 ≤ i) : (1 + 2 ^ i * u) ^ 2 = 1 + 2 ^ (i + 1) * (u + 2 ^ (i - 1) * (u * u)) := by
  obtain ⟨j, rfl⟩ : ∃ j, i = j + 1 := ⟨i - 1, by omega⟩
  rw [Nat.pow_succ (1 + _), Nat.pow_one]
  simp only [Nat.add_sub_cancel, Nat.mul_add, Nat.add_mul, Nat.mul_one, Nat.one_mul]
  have e1 : 2 ^ (j + 1) * u * (2 ^ (j + 1) * u) = 2 ^ (j + 1 + 1) * (2 ^ j * (u * u)) := by
    rw [Nat.pow_succ 2 (j + 1), Nat.pow_succ 2 j]
    simp only [Nat.mul_assoc, Nat.mul_comm, Nat.mul_left_comm]
  have e2 : 2 ^ (j + 1 + 1) * u = 2 ^ (j + 1) * u + 2 ^ (j + 1) * u := by
    rw [Nat.pow_succ 2 (j + 1), Nat.mul_assoc, Nat.mul_left_comm]; omega
  omega

theorem up_five : ∀ j, ∃ u, u % 2 = 1 ∧ 5 ^ (2 ^ j) = 1 + 2 ^ (j + 2) * u
  | 0 => ⟨1, rfl, rfl⟩
  | j + 1 => by
    obtain ⟨u, hu, e⟩ := up_five j
    refine ⟨u + 2 ^ (j + 1) * (u * u), ?_, ?_⟩
    · rw [Nat.pow_succ, Nat.mul_assoc, Nat.mul_left_comm, Nat.add_mul_mod_self_left]; exact hu
    · rw [Nat.pow_succ, Nat.pow_mul, e, lift_two (by omega)]; rfl

theorem up_all {a : Nat} (ha : a % 2 = 1) : ∀ j, ∃ u, a ^ (2 ^ (j + 1)) = 1 + 2 ^ (j + 3) * u
  | 0 => by
    obtain ⟨b, rfl⟩ : ∃ b, a = 2 * b + 1 := ⟨a / 2, by omega⟩
    have h2 : ∃ c, b * (b + 1) = 2 * c := by
      rcases Nat.mod_two_eq_zero_or_one b with h | h
      · obtain ⟨c, rfl⟩ : ∃ c, b = 2 * c := ⟨b / 2, by omega⟩
        exact ⟨c * (2 * c + 1), by rw [Nat.mul_assoc]⟩
      · obtain ⟨c, hc⟩ : ∃ c, b + 1 = 2 * c := ⟨(b + 1) / 2, by omega⟩
        exact ⟨b * c, by rw [hc, Nat.mul_left_comm]⟩
    obtain ⟨c, hc⟩ := h2
    refine ⟨c, ?_⟩
    have e : (2 * b + 1) ^ 2 = 1 + 4 * (b * (b + 1)) := by
      rw [Nat.pow_succ, Nat.pow_one]
      simp only [Nat.mul_add, Nat.add_mul, Nat.mul_one, Nat.one_mul]
      have : 2 * b * (2 * b) = 4 * (b * b) := by rw [Nat.mul_mul_mul_comm]
      omega
    show (2 * b + 1) ^ 2 = 1 + 8 * c
    rw [e, hc]; omega
  | j + 1 => by
    obtain ⟨u, e⟩ := up_all ha j
    refine ⟨u + 2 ^ (j + 2) * (u * u), ?_⟩
    rw [Nat.pow_succ 2 (j + 1), Nat.pow_mul, e, lift_two (by omega)]; rfl

/-- Of a power of an odd prime. -/
theorem lam_odd {p k : Nat} (hp : Pr p) (ho : p ≠ 2) : IsLam (p ^ (k + 1)) (p ^ k * (p - 1)) := by
  have h2 := hp.1
  have hpos : 1 ≤ p ^ (k + 1) := Nat.pow_pos (by omega)
  obtain ⟨L, hL⟩ := lam_ex hpos
  have htot : tot (p ^ (k + 1)) = p ^ k * (p - 1) := by
    have := tot_pow (m := 1) hp (fun h => by have := Nat.le_of_dvd (by omega) h; omega) k
    rwa [Nat.mul_one, tot_one, Nat.mul_one] at this
  have hd : L ∣ p ^ k * (p - 1) := by rw [← htot]; exact hL.tot hpos
  have hup : p ^ k * (p - 1) ∣ L := by
    have hcop : Nat.gcd (p ^ k) (p - 1) = 1 := by
      refine Nat.Coprime.pow_left k ?_
      have := (gcd_prime (x := p - 1) hp).2 (fun h => by have := Nat.le_of_dvd (by omega) h; omega)
      rw [Nat.gcd_comm] at this
      exact this
    refine Nat.Coprime.mul_dvd_of_dvd_of_dvd hcop ?_ ?_
    · -- p^k : by 1 + p
      have hg : Nat.gcd (1 + p) (p ^ (k + 1)) = 1 := by
        refine Nat.Coprime.pow_right (k + 1) ?_
        exact (gcd_prime hp).2 (fun h => by
          have := (Nat.dvd_add_left (Nat.dvd_refl p)).1 h
          have := Nat.le_of_dvd (by omega) this
          omega)
      obtain ⟨o, hoo, hot⟩ := ord_ex hpos hg
      refine Nat.dvd_trans ?_ (hL.2 _ o hoo)
      obtain ⟨t, s, e, hs, hs1⟩ := pow_out hp.1 o hoo.1
      have htk : k ≤ t := by
        rcases Nat.lt_or_ge t k with hlt | hge
        · exfalso
          obtain ⟨u, hu, eu⟩ := up_odd hp ho t
          obtain ⟨w, ew⟩ := binom1 (p ^ (t + 1) * u) s
          have h3 := hoo.2.1
          rw [e, Nat.pow_mul, eu, ew] at h3
          -- p^(t+2) divides
          have h4 := (mod_eq_iff (x := 1 + s * (p ^ (t + 1) * u) + p ^ (t + 1) * u * (p ^ (t + 1) * u) * w) (y := 1)).1 h3
          have h5 : p ^ (k + 1) ∣ s * (p ^ (t + 1) * u) + p ^ (t + 1) * u * (p ^ (t + 1) * u) * w := by
            have h6 : ((p ^ (k + 1) : Nat) : Int) ∣ ((s * (p ^ (t + 1) * u) + p ^ (t + 1) * u * (p ^ (t + 1) * u) * w : Nat) : Int) := by
              have e6 : ((1 + s * (p ^ (t + 1) * u) + p ^ (t + 1) * u * (p ^ (t + 1) * u) * w : Nat) : Int) - ((1 : Nat) : Int) = ((s * (p ^ (t + 1) * u) + p ^ (t + 1) * u * (p ^ (t + 1) * u) * w : Nat) : Int) := by omega
              rw [← e6]; exact h4
            exact Int.natCast_dvd_natCast.1 h6
          have h7 : p ^ (t + 2) ∣ s * (p ^ (t + 1) * u) + p ^ (t + 1) * u * (p ^ (t + 1) * u) * w := Nat.dvd_trans (Nat.pow_dvd_pow p (by omega)) h5
          have e8 : s * (p ^ (t + 1) * u) + p ^ (t + 1) * u * (p ^ (t + 1) * u) * w = p ^ (t + 1) * (s * u + p * (p ^ t * (u * (u * w)))) := by
            rw [Nat.mul_add, Nat.pow_succ]
            congr 1
            · exact Nat.mul_left_comm _ _ _
            · simp only [Nat.mul_assoc, Nat.mul_comm, Nat.mul_left_comm]
          rw [e8, Nat.pow_succ p (t + 1)] at h7
          have h9 : p ∣ s * u + p * (p ^ t * (u * (u * w))) := Nat.dvd_of_mul_dvd_mul_left (Nat.pow_pos (by omega)) h7
          have h10 : p ∣ s * u := (Nat.dvd_add_left (Nat.dvd_mul_right p _)).1 h9
          rcases hp.dvd_mul h10 with h | h
          · exact hs h
          · exact hu h
        · exact hge
      rw [e]
      exact Nat.dvd_trans (Nat.pow_dvd_pow p htk) (Nat.dvd_mul_right _ _)
    · -- p - 1: by a number whose powers are all
      obtain ⟨g, hg⟩ := prim_ex hp
      have hgp := cop_of_pow (by omega) hg.1 hg.2.1
      have hgk : Nat.gcd g (p ^ (k + 1)) = 1 := Nat.Coprime.pow_right (k + 1) hgp
      obtain ⟨o, hoo, _⟩ := ord_ex hpos hgk
      refine Nat.dvd_trans ?_ (hL.2 g o hoo)
      refine (hg.dvd o).1 ?_
      have h3 := (mod_eq_iff (x := g ^ o) (y := 1)).1 hoo.2.1
      refine (mod_eq_iff (x := g ^ o) (y := 1)).2 (Int.dvd_trans (Int.natCast_dvd_natCast.2 ?_) h3)
      have := Nat.pow_dvd_pow p (show 1 ≤ k + 1 by omega)
      rwa [Nat.pow_one] at this
  have : L = p ^ k * (p - 1) := Nat.dvd_antisymm hd hup
  rw [← this]; exact hL

theorem pr_two : Pr 2 := ⟨Nat.le_refl _, fun d hd => by have := Nat.le_of_dvd (by omega) hd; have : d ≠ 0 := (by intro e; subst e; simp at hd); omega⟩

theorem lam_one : IsLam 1 1 := isLam_of (c := 1) (Nat.le_refl _) ⟨Nat.le_refl _, rfl, fun k h1 h2 => by omega⟩ (fun a _ => by rw [Nat.mod_one, Nat.mod_one])

theorem odd_of_cop {a k : Nat} (h : Nat.gcd a (2 ^ (k + 1)) = 1) : a % 2 = 1 := by
  have h1 : Nat.gcd a 2 = 1 := Nat.Coprime.coprime_dvd_right (by rw [Nat.pow_succ]; exact Nat.dvd_mul_left _ _) h
  have := (gcd_prime (x := a) pr_two).1 h1
  omega

theorem lam_two : IsLam 2 1 := isLam_of (c := 1) (by omega) ⟨Nat.le_refl _, rfl, fun k h1 h2 => by omega⟩ (fun a h => by
  have := odd_of_cop (k := 0) h
  rw [Nat.pow_one]; exact this)

theorem lam_four : IsLam 4 2 := isLam_of (c := 3) (by omega) ⟨by omega, rfl, fun k h1 h2 => by
  have : k = 1 := by omega
  subst this; decide⟩ (fun a h => by
  have h1 := odd_of_cop (k := 1) h
  obtain ⟨b, rfl⟩ : ∃ b, a = 2 * b + 1 := ⟨a / 2, by omega⟩
  have e : (2 * b + 1) ^ 2 = 1 + 4 * (b * (b + 1)) := by
    rw [Nat.pow_succ, Nat.pow_one]
    simp only [Nat.mul_add, Nat.add_mul, Nat.mul_one, Nat.one_mul]
    have : 2 * b * (2 * b) = 4 * (b * b) := by rw [Nat.mul_mul_mul_comm]
    omega
  rw [e, Nat.add_mul_mod_self_left])

/-- Of a power of 2, from 8 on. -/
theorem lam_eight (k : Nat) : IsLam (2 ^ (k + 3)) (2 ^ (k + 1)) := by
  have hpos : 1 ≤ 2 ^ (k + 3) := Nat.pow_pos (by omega)
  have hg5 : Nat.gcd 5 (2 ^ (k + 3)) = 1 := Nat.Coprime.pow_right (k + 3) (by decide)
  have hall : ∀ a, Nat.gcd a (2 ^ (k + 3)) = 1 → a ^ 2 ^ (k + 1) % 2 ^ (k + 3) = 1 % 2 ^ (k + 3) := fun a ha => by
    obtain ⟨u, e⟩ := up_all (odd_of_cop (k := k + 2) ha) k
    rw [e, Nat.add_mul_mod_self_left]
  obtain ⟨o, ho, _⟩ := ord_ex hpos hg5
  have hd : o ∣ 2 ^ (k + 1) := (ho.dvd _).1 (hall 5 hg5)
  obtain ⟨t, s, e, hs, hs1⟩ := pow_out (p := 2) (Nat.le_refl 2) o ho.1
  have hsd : s = 1 := by
    have h1 : s ∣ 2 ^ (k + 1) := Nat.dvd_trans (by rw [e]; exact Nat.dvd_mul_left _ _) hd
    have h2 : Nat.gcd s (2 ^ (k + 1)) = 1 := Nat.Coprime.pow_right (k + 1) ((gcd_prime pr_two).2 hs)
    have h3 : s ∣ Nat.gcd s (2 ^ (k + 1)) := Nat.dvd_gcd (Nat.dvd_refl _) h1
    rw [h2] at h3
    exact Nat.dvd_one.1 h3
  rw [hsd, Nat.mul_one] at e
  have htk : k + 1 ≤ t := by
    rcases Nat.lt_or_ge t (k + 1) with hlt | hge
    · exfalso
      obtain ⟨u, hu, eu⟩ := up_five t
      have h3 := ho.2.1
      rw [e, eu] at h3
      have h4 := (mod_eq_iff (x := 1 + 2 ^ (t + 2) * u) (y := 1)).1 h3
      have h5 : 2 ^ (k + 3) ∣ 2 ^ (t + 2) * u := by
        have e6 : ((1 + 2 ^ (t + 2) * u : Nat) : Int) - ((1 : Nat) : Int) = ((2 ^ (t + 2) * u : Nat) : Int) := by omega
        rw [e6] at h4
        exact Int.natCast_dvd_natCast.1 h4
      have h6 : 2 ^ (t + 2) * 2 ∣ 2 ^ (t + 2) * u := Nat.dvd_trans (by rw [← Nat.pow_succ]; exact Nat.pow_dvd_pow 2 (by omega)) h5
      have h7 : 2 ∣ u := Nat.dvd_of_mul_dvd_mul_left (Nat.pow_pos (by omega)) h6
      omega
    · exact hge
  have hoe : o = 2 ^ (k + 1) := Nat.dvd_antisymm hd (by rw [e]; exact Nat.pow_dvd_pow 2 htk)
  exact isLam_of hpos (by rw [← hoe]; exact ho) hall

end Go.Proofs.Ytjpmkcijkcnfiaa.Num8
