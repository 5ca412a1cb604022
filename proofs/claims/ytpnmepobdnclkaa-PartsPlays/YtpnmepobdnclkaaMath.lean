/-
  Plain arithmetic on integers, which knows nothing of any program: the greatest common divisor as an integer, what halving, subtracting and dividing do to it, the invariant of Euclid's extended loop, and what is left by a modulus.
-/
namespace Go.Proofs.Ytpnmepobdnclkaa.Math

/-- The greatest common divisor of two integers, as an integer. -/
def gg (a b : Int) : Int := (Int.gcd a b : Nat)

theorem gg_nonneg (a b : Int) : 0 ≤ gg a b := by unfold gg; omega
theorem gg_left (a b : Int) : gg a b ∣ a := Int.gcd_dvd_left a b
theorem gg_right (a b : Int) : gg a b ∣ b := Int.gcd_dvd_right a b
theorem gg_great {a b c : Int} (h1 : c ∣ a) (h2 : c ∣ b) : c ∣ gg a b := Int.dvd_coe_gcd h1 h2
theorem gg_comm (a b : Int) : gg a b = gg b a := by unfold gg; rw [Int.gcd_comm]

theorem gg_uniq {a b g : Int} (hg : 0 ≤ g) (h1 : g ∣ a) (h2 : g ∣ b) (h : ∀ c, c ∣ a → c ∣ b → c ∣ g) : gg a b = g :=
  Int.dvd_antisymm (gg_nonneg a b) hg (h _ (gg_left a b) (gg_right a b)) (gg_great h1 h2)

theorem gg_zero_right {a : Int} (h : 0 ≤ a) : gg a 0 = a :=
  gg_uniq h (Int.dvd_refl a) (Int.dvd_zero a) (fun _ h _ => h)
theorem gg_zero_left {a : Int} (h : 0 ≤ a) : gg 0 a = a := by rw [gg_comm]; exact gg_zero_right h
theorem gg_self {a : Int} (h : 0 ≤ a) : gg a a = a :=
  gg_uniq h (Int.dvd_refl a) (Int.dvd_refl a) (fun _ h _ => h)

theorem gg_step (a b q : Int) : gg b (a - q * b) = gg a b := by
  apply gg_uniq (gg_nonneg a b) (gg_right a b)
  · exact Int.dvd_sub (gg_left a b) (Int.dvd_mul_of_dvd_right (gg_right a b))
  · intro c h1 h2
    have h3 : c ∣ a := by
      have := Int.dvd_add h2 (Int.dvd_mul_of_dvd_right (b := q) h1)
      rwa [Int.sub_add_cancel] at this
    exact gg_great h3 h1

theorem gg_sub_left (a b : Int) : gg (a - b) b = gg a b := by
  have := gg_step a b 1; rw [Int.one_mul, gg_comm] at this; exact this
theorem gg_sub_right (a b : Int) : gg a (b - a) = gg a b := by
  rw [gg_comm, gg_sub_left, gg_comm]

theorem gg_pos {a b : Int} (h : a ≠ 0 ∨ b ≠ 0) : 0 < gg a b := by
  unfold gg
  rcases h with h | h
  · have := Int.gcd_pos_of_ne_zero_left b h; omega
  · have := Int.gcd_pos_of_ne_zero_right a h; omega

theorem gg_le_left {a b : Int} (h : 0 < a) : gg a b ≤ a := Int.le_of_dvd h (gg_left a b)
theorem gg_le_right {a b : Int} (h : 0 < b) : gg a b ≤ b := Int.le_of_dvd h (gg_right a b)

theorem gg_le {a b m : Int} (ha : 0 ≤ a) (hb : 0 ≤ b) (h1 : a ≤ m) (h2 : b ≤ m) : gg a b ≤ m := by
  by_cases h : a = 0
  · subst h; rw [gg_zero_left hb]; exact h2
  · have := gg_le_left (a := a) (b := b) (by omega); omega

theorem gg_abs (a b : Int) : gg (a.natAbs : Int) (b.natAbs : Int) = gg a b := by
  unfold gg; simp [Int.gcd]

theorem half_mul {a : Int} (h : a % 2 = 0) : a = 2 * (a / 2) := by omega

theorem gg_half_both {a b : Int} (ha : a % 2 = 0) (hb : b % 2 = 0) : gg a b = 2 * gg (a / 2) (b / 2) := by
  have h := Int.gcd_mul_left 2 (a / 2) (b / 2)
  rw [← half_mul ha, ← half_mul hb] at h
  unfold gg; rw [h]; simp

/-- An odd number that divides twice another divides that other. -/
theorem odd_dvd_half {g a : Int} (ho : g % 2 = 1) (ha : a % 2 = 0) (h : g ∣ a) : g ∣ a / 2 := by
  obtain ⟨k, rfl⟩ := h
  have hk : k % 2 = 0 := by
    rcases Int.emod_two_eq k with h | h
    · exact h
    · rw [Int.mul_emod, ho, h] at ha; simp at ha
  refine ⟨k / 2, ?_⟩
  have e := half_mul hk
  generalize k / 2 = m at e
  subst e
  rw [show g * (2 * m) = 2 * (g * m) by rw [← Int.mul_assoc, Int.mul_comm g 2, Int.mul_assoc]]
  omega

theorem half_dvd {a : Int} (ha : a % 2 = 0) : a / 2 ∣ a := ⟨2, by omega⟩

theorem gg_half_left {a b : Int} (ha : a % 2 = 0) (ho : gg a b % 2 = 1) : gg (a / 2) b = gg a b := by
  apply gg_uniq (gg_nonneg a b)
  · exact odd_dvd_half ho ha (gg_left a b)
  · exact gg_right a b
  · intro c h1 h2; exact gg_great (Int.dvd_trans h1 (half_dvd ha)) h2

theorem gg_half_right {a b : Int} (hb : b % 2 = 0) (ho : gg a b % 2 = 1) : gg a (b / 2) = gg a b := by
  rw [gg_comm, gg_half_left hb (by rw [gg_comm]; exact ho), gg_comm]

/-- If one of two numbers is odd, so is what divides both. -/
theorem gg_odd {a b : Int} (h : a % 2 ≠ 0 ∨ b % 2 ≠ 0) : gg a b % 2 = 1 := by
  rcases Int.emod_two_eq (gg a b) with e | e
  · have d : (2 : Int) ∣ gg a b := Int.dvd_of_emod_eq_zero e
    have d1 := Int.emod_eq_zero_of_dvd (Int.dvd_trans d (gg_left a b))
    have d2 := Int.emod_eq_zero_of_dvd (Int.dvd_trans d (gg_right a b))
    omega
  · exact e

/-! ### Euclid's extended loop -/

/-- What holds at each round's head: 'a0', 'b0' came in; 'a', 'b', 'x', 'n' are the loop's own. -/
structure Ext (a0 b0 a b x n : Int) : Prop where
  ha : 0 ≤ a
  hb : 0 ≤ b
  ga : a ≤ 2147483648
  gb : b ≤ 2147483648
  g : gg a b = gg a0 b0
  da : b0 ∣ x * a0 - a
  db : b0 ∣ n * a0 - b
  sx : (0 ≤ x ∧ n ≤ 0 ∧ x * b - n * a = b0) ∨ (x ≤ 0 ∧ 0 ≤ n ∧ n * a - x * b = b0)
  xl : -2147483648 ≤ x
  xu : x ≤ 2147483648
  nl : -2147483648 ≤ n
  nu : n ≤ 2147483648

theorem Ext.start {a b : Int} (ha : 0 ≤ a) (hb : 0 ≤ b) (ga : a ≤ 2147483648) (gb : b ≤ 2147483648) : Ext a b a b 1 0 where
  ha := ha
  hb := hb
  ga := ga
  gb := gb
  g := rfl
  da := by rw [Int.one_mul, Int.sub_self]; exact Int.dvd_zero _
  db := ⟨-1, by omega⟩
  sx := Or.inl ⟨by omega, by omega, by omega⟩
  xl := by omega
  xu := by omega
  nl := by omega
  nu := by omega

theorem mul_le_one {x y c : Int} (hx : 0 ≤ x) (hy : 1 ≤ y) (h : x * y ≤ c) : x ≤ c := by
  have h1 : x * 1 ≤ x * y := Int.mul_le_mul_of_nonneg_left hy hx
  omega

theorem Ext.next {a0 b0 a b x n : Int} (h : Ext a0 b0 a b x n) (hb : b ≠ 0) (hb0 : b0 ≤ 2147483648) :
    0 ≤ a / b ∧ a / b ≤ 2147483648 ∧ 0 ≤ a / b * b ∧ a / b * b ≤ a ∧ a - a / b * b < b ∧ -2147483648 ≤ a / b * n ∧ a / b * n ≤ 2147483648 ∧ -2147483648 ≤ x - a / b * n ∧ x - a / b * n ≤ 2147483648 ∧ Ext a0 b0 b (a - a / b * b) n (x - a / b * n) := by
  obtain ⟨ha, hb', ga, gb, g, da, db, sx, xl, xu, nl, nu⟩ := h
  have bp : 0 < b := by omega
  have q0 : 0 ≤ a / b := Int.ediv_nonneg ha hb'
  have q1 : a / b ≤ a := Int.ediv_le_self b ha
  have em : a - a / b * b = a % b := by rw [Int.mul_comm, Int.emod_def]
  have r0 : 0 ≤ a % b := Int.emod_nonneg a hb
  have r1 : a % b < b := Int.emod_lt_of_pos a bp
  generalize hq : a / b = q at *
  have qb : 0 ≤ q * b := Int.mul_nonneg q0 hb'
  have core : ((0 ≤ n ∧ x - q * n ≤ 0 ∧ n * (a - q * b) - (x - q * n) * b = b0 ∧ 0 ≤ q * n ∧ -2147483648 ≤ x - q * n ∧ x ≤ 0)
      ∨ (n ≤ 0 ∧ 0 ≤ x - q * n ∧ (x - q * n) * b - n * (a - q * b) = b0 ∧ q * n ≤ 0 ∧ x - q * n ≤ 2147483648 ∧ 0 ≤ x)) := by
    have e1 : (x - q * n) * b - n * (a - q * b) = x * b - n * a := by
      rw [Int.sub_mul, Int.mul_sub, show q * n * b = n * (q * b) by rw [Int.mul_comm q n, Int.mul_assoc]]; omega
    rcases sx with ⟨s1, s2, s3⟩ | ⟨s1, s2, s3⟩
    · right
      have qn : q * n ≤ 0 := by
        have := Int.mul_nonneg q0 (show 0 ≤ -n by omega); rw [Int.mul_neg] at this; omega
      refine ⟨s2, by omega, by omega, qn, ?_, s1⟩
      have nr : n * (a - q * b) ≤ 0 := by
        have := Int.mul_nonneg (show 0 ≤ -n by omega) (show 0 ≤ a - q * b by omega); rw [Int.neg_mul] at this; omega
      have := mul_le_one (x := x - q * n) (y := b) (c := b0) (by omega) (by omega) (by omega)
      omega
    · left
      have qn : 0 ≤ q * n := Int.mul_nonneg q0 s2
      refine ⟨s2, by omega, by omega, qn, ?_, s1⟩
      have nr : 0 ≤ n * (a - q * b) := Int.mul_nonneg s2 (by omega)
      have e2 : -(x - q * n) * b = -((x - q * n) * b) := Int.neg_mul _ _
      have := mul_le_one (x := -(x - q * n)) (y := b) (c := b0) (by omega) (by omega) (by omega)
      omega
  have dn : b0 ∣ (x - q * n) * a0 - (a - q * b) := by
    have e3 : (x - q * n) * a0 - (a - q * b) = (x * a0 - a) - q * (n * a0 - b) := by
      rw [Int.sub_mul, Int.mul_sub, Int.mul_assoc]; omega
    rw [e3]; exact Int.dvd_sub da (Int.dvd_mul_of_dvd_right db)
  have gn : gg b (a - q * b) = gg a0 b0 := by rw [gg_step]; exact g
  refine ⟨q0, by omega, qb, by omega, by omega, by omega, by omega, by omega, by omega, ?_⟩
  refine ⟨by omega, by omega, by omega, by omega, gn, db, dn, ?_, by omega, by omega, by omega, by omega⟩
  rcases core with ⟨c1, c2, c3, _, _⟩ | ⟨c1, c2, c3, _, _⟩
  · exact Or.inl ⟨c1, c2, c3⟩
  · exact Or.inr ⟨c1, c2, c3⟩

end Go.Proofs.Ytpnmepobdnclkaa.Math
