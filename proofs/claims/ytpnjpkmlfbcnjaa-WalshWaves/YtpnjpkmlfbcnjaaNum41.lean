/-
  Plain arithmetic: truths as waves: Parseval, the way back, sums of products, Siegenthaler, Rothaus.
-/
import Derived.Test.YtpnjpkmlfbcnjaaFoldB
namespace Go.Proofs.Ytpnjpkmlfbcnjaa.Num41
set_option linter.unusedVariables false
open Go.Proofs.Ytpnjpkmlfbcnjaa.Num34 (su)

/-! ### sums over all numbers of n bits, by the lowest bit -/

def s2 : Nat → (Nat → Int) → Int
  | 0, g => g 0
  | n + 1, g => s2 n (fun y => g (2 * y)) + s2 n (fun y => g (2 * y + 1))

theorem su_two (g : Nat → Int) : ∀ m, su g (2 * m) = su (fun y => g (2 * y)) m + su (fun y => g (2 * y + 1)) m
  | 0 => rfl
  | m + 1 => by
    have ih := su_two g m
    show su g (2 * m) + g (2 * m) + g (2 * m + 1) = su (fun y => g (2 * y)) m + g (2 * m) + (su (fun y => g (2 * y + 1)) m + g (2 * m + 1))
    rw [ih]; omega

theorem s2_su : ∀ (n : Nat) (g : Nat → Int), s2 n g = su g (2 ^ n)
  | 0, g => by show g 0 = 0 + g 0; omega
  | n + 1, g => by
    show s2 n _ + s2 n _ = _
    rw [s2_su n, s2_su n, Nat.pow_succ, Nat.mul_comm (2 ^ n) 2, su_two]

theorem s2_congr : ∀ {n : Nat} {f g : Nat → Int}, (∀ x, x < 2 ^ n → f x = g x) → s2 n f = s2 n g
  | 0, f, g, h => h 0 (by decide)
  | n + 1, f, g, h => by
    show s2 n _ + s2 n _ = s2 n _ + s2 n _
    have hp : 2 ^ (n + 1) = 2 * 2 ^ n := by rw [Nat.pow_succ, Nat.mul_comm]
    rw [s2_congr (n := n) (fun x hx => h (2 * x) (by omega)), s2_congr (n := n) (fun x hx => h (2 * x + 1) (by omega))]

theorem s2_add : ∀ (n : Nat) (f g : Nat → Int), s2 n (fun x => f x + g x) = s2 n f + s2 n g
  | 0, f, g => rfl
  | n + 1, f, g => by
    show s2 n (fun y => f (2 * y) + g (2 * y)) + s2 n (fun y => f (2 * y + 1) + g (2 * y + 1)) = s2 n _ + s2 n _ + (s2 n _ + s2 n _)
    rw [s2_add n, s2_add n]; omega

theorem s2_mul (c : Int) : ∀ (n : Nat) (f : Nat → Int), s2 n (fun x => c * f x) = c * s2 n f
  | 0, f => rfl
  | n + 1, f => by
    show s2 n (fun y => c * f (2 * y)) + s2 n (fun y => c * f (2 * y + 1)) = c * (s2 n _ + s2 n _)
    rw [s2_mul c n, s2_mul c n, Int.mul_add]

theorem s2_const (c : Int) : ∀ n : Nat, s2 n (fun _ => c) = 2 ^ n * c
  | 0 => by show c = 2 ^ 0 * c; simp
  | n + 1 => by
    show s2 n (fun _ => c) + s2 n (fun _ => c) = _
    rw [s2_const c n, Int.pow_succ, Int.mul_comm (2 ^ n) 2, Int.mul_assoc]; omega

/-! ### signs -/

/-- The sign by the lowest bit. -/
def eb (u : Nat) : Int := if u % 2 = 1 then -1 else 1

def chi : Nat → Nat → Nat → Int
  | 0, _, _ => 1
  | n + 1, u, x => (if u % 2 = 1 ∧ x % 2 = 1 then -1 else 1) * chi n (u / 2) (x / 2)

theorem eb_even (v : Nat) : eb (2 * v) = 1 := by unfold eb; rw [if_neg (by omega)]
theorem eb_odd (v : Nat) : eb (2 * v + 1) = -1 := by unfold eb; rw [if_pos (by omega)]

theorem chi_even (n u y : Nat) : chi (n + 1) u (2 * y) = chi n (u / 2) y := by
  show (if u % 2 = 1 ∧ 2 * y % 2 = 1 then (-1 : Int) else 1) * chi n (u / 2) (2 * y / 2) = _
  rw [if_neg (by omega), show 2 * y / 2 = y by omega, Int.one_mul]

theorem chi_odd (n u y : Nat) : chi (n + 1) u (2 * y + 1) = eb u * chi n (u / 2) y := by
  show (if u % 2 = 1 ∧ (2 * y + 1) % 2 = 1 then (-1 : Int) else 1) * chi n (u / 2) ((2 * y + 1) / 2) = _
  rw [show (2 * y + 1) / 2 = y by omega]
  unfold eb
  by_cases h : u % 2 = 1
  · rw [if_pos ⟨h, by omega⟩, if_pos h]
  · rw [if_neg (fun k => h k.1), if_neg h]

theorem chi_comm : ∀ n u x : Nat, chi n u x = chi n x u
  | 0, _, _ => rfl
  | n + 1, u, x => by
    show (if u % 2 = 1 ∧ x % 2 = 1 then (-1 : Int) else 1) * chi n (u / 2) (x / 2) = (if x % 2 = 1 ∧ u % 2 = 1 then (-1 : Int) else 1) * chi n (x / 2) (u / 2)
    rw [chi_comm n (u / 2) (x / 2)]
    by_cases h : u % 2 = 1 ∧ x % 2 = 1
    · rw [if_pos h, if_pos ⟨h.2, h.1⟩]
    · rw [if_neg h, if_neg (fun k => h ⟨k.2, k.1⟩)]

theorem chi_sq : ∀ n u x : Nat, chi n u x * chi n u x = 1
  | 0, _, _ => rfl
  | n + 1, u, x => by
    show (if u % 2 = 1 ∧ x % 2 = 1 then (-1 : Int) else 1) * chi n (u / 2) (x / 2) * ((if u % 2 = 1 ∧ x % 2 = 1 then (-1 : Int) else 1) * chi n (u / 2) (x / 2)) = 1
    have ih := chi_sq n (u / 2) (x / 2)
    generalize chi n (u / 2) (x / 2) = c at *
    split <;> grind

/-! ### how many bits are set -/

def on : Nat → Nat → Nat
  | 0, _ => 0
  | n + 1, x => x % 2 + on n (x / 2)

def sg (k : Nat) : Int := if k % 2 = 0 then 1 else -1

theorem sg_add (a b : Nat) : sg (a + b) = sg a * sg b := by
  unfold sg
  by_cases ha : a % 2 = 0 <;> by_cases hb : b % 2 = 0
  · rw [if_pos ha, if_pos hb, if_pos (by omega)]; rfl
  · rw [if_pos ha, if_neg hb, if_neg (by omega)]; rfl
  · rw [if_neg ha, if_pos hb, if_neg (by omega)]; rfl
  · rw [if_neg ha, if_neg hb, if_pos (by omega)]; rfl

theorem and_low (u x : Nat) : (u &&& x) % 2 = (if u % 2 = 1 ∧ x % 2 = 1 then 1 else 0) := by
  have h := Nat.and_mod_two_pow (a := u) (b := x) (n := 1)
  rw [Nat.pow_one] at h
  rw [h]
  rcases Nat.mod_two_eq_zero_or_one u with hu | hu <;> rcases Nat.mod_two_eq_zero_or_one x with hx | hx <;> rw [hu, hx] <;> decide

theorem and_half (u x : Nat) : (u &&& x) / 2 = (u / 2) &&& (x / 2) := by
  have h := Nat.and_div_two_pow (a := u) (b := x) (n := 1)
  rwa [Nat.pow_one] at h

theorem chi_on : ∀ n u x : Nat, chi n u x = sg (on n (u &&& x))
  | 0, _, _ => rfl
  | n + 1, u, x => by
    show (if u % 2 = 1 ∧ x % 2 = 1 then (-1 : Int) else 1) * chi n (u / 2) (x / 2) = sg ((u &&& x) % 2 + on n ((u &&& x) / 2))
    rw [chi_on n (u / 2) (x / 2), sg_add, and_half, and_low]
    split <;> rfl

theorem on_le : ∀ n x : Nat, on n x ≤ n
  | 0, _ => Nat.le_refl _
  | n + 1, x => by
    have := on_le n (x / 2)
    show x % 2 + on n (x / 2) ≤ n + 1
    omega

/-! ### waves -/

def wv (n : Nat) (g : Nat → Int) (u : Nat) : Int := s2 n (fun x => g x * chi n u x)

theorem wv_even (n : Nat) (g : Nat → Int) (v : Nat) : wv (n + 1) g (2 * v) = wv n (fun y => g (2 * y)) v + wv n (fun y => g (2 * y + 1)) v := by
  show s2 n (fun y => g (2 * y) * chi (n + 1) (2 * v) (2 * y)) + s2 n (fun y => g (2 * y + 1) * chi (n + 1) (2 * v) (2 * y + 1)) = _
  simp only [chi_even, chi_odd, eb_even, Int.one_mul, show 2 * v / 2 = v by omega]
  rfl

theorem wv_odd (n : Nat) (g : Nat → Int) (v : Nat) : wv (n + 1) g (2 * v + 1) = wv n (fun y => g (2 * y)) v - wv n (fun y => g (2 * y + 1)) v := by
  show s2 n (fun y => g (2 * y) * chi (n + 1) (2 * v + 1) (2 * y)) + s2 n (fun y => g (2 * y + 1) * chi (n + 1) (2 * v + 1) (2 * y + 1)) = _
  simp only [chi_even, chi_odd, eb_odd, show (2 * v + 1) / 2 = v by omega]
  have e : (fun y => g (2 * y + 1) * (-1 * chi n v y)) = (fun y => (-1 : Int) * (g (2 * y + 1) * chi n v y)) := by
    funext y
    grind
  rw [e, s2_mul]
  show wv n (fun y => g (2 * y)) v + -1 * wv n (fun y => g (2 * y + 1)) v = _
  omega

theorem sq_two (a b : Int) : (a + b) * (a + b) + (a - b) * (a - b) = 2 * (a * a) + 2 * (b * b) := by grind

/-- PARSEVAL. -/
theorem parseval : ∀ (n : Nat) (g : Nat → Int), s2 n (fun u => wv n g u * wv n g u) = 2 ^ n * s2 n (fun x => g x * g x)
  | 0, g => by
    show g 0 * 1 * (g 0 * 1) = 2 ^ 0 * (g 0 * g 0)
    simp
  | n + 1, g => by
    show s2 n (fun v => wv (n + 1) g (2 * v) * wv (n + 1) g (2 * v)) + s2 n (fun v => wv (n + 1) g (2 * v + 1) * wv (n + 1) g (2 * v + 1)) = _
    simp only [wv_even, wv_odd]
    rw [← s2_add]
    simp only [sq_two]
    rw [s2_add, s2_mul, s2_mul, parseval n, parseval n]
    show _ = 2 ^ (n + 1) * (s2 n (fun y => g (2 * y) * g (2 * y)) + s2 n (fun y => g (2 * y + 1) * g (2 * y + 1)))
    rw [Int.pow_succ, Int.mul_add, Int.mul_comm (2 ^ n) 2, Int.mul_assoc, Int.mul_assoc]

/-- The way back. -/
theorem waves_back : ∀ (n : Nat) (g : Nat → Int) (x : Nat), x < 2 ^ n → s2 n (fun u => wv n g u * chi n u x) = 2 ^ n * g x
  | 0, g, x, hx => by
    obtain rfl : x = 0 := by
      rw [Nat.pow_zero] at hx; omega
    show g 0 * 1 * 1 = 2 ^ 0 * g 0
    simp
  | n + 1, g, x, hx => by
    have hp : 2 ^ (n + 1) = 2 * 2 ^ n := by rw [Nat.pow_succ, Nat.mul_comm]
    have hx2 : x / 2 < 2 ^ n := by omega
    show s2 n (fun v => wv (n + 1) g (2 * v) * chi (n + 1) (2 * v) x) + s2 n (fun v => wv (n + 1) g (2 * v + 1) * chi (n + 1) (2 * v + 1) x) = _
    have e1 : ∀ v, chi (n + 1) (2 * v) x = chi n v (x / 2) := fun v => by rw [chi_comm, chi_even, chi_comm]
    have e2 : ∀ v, chi (n + 1) (2 * v + 1) x = eb x * chi n v (x / 2) := fun v => by rw [chi_comm, chi_odd, chi_comm n (x / 2)]
    simp only [wv_even, wv_odd, e1, e2]
    rw [← s2_add]
    have ha := waves_back n (fun y => g (2 * y)) (x / 2) hx2
    have hb := waves_back n (fun y => g (2 * y + 1)) (x / 2) hx2
    rcases Nat.mod_two_eq_zero_or_one x with h | h
    · have ex : x = 2 * (x / 2) := by omega
      have ee : eb x = 1 := by unfold eb; rw [if_neg (by omega)]
      have : (fun v => (wv n (fun y => g (2 * y)) v + wv n (fun y => g (2 * y + 1)) v) * chi n v (x / 2) + (wv n (fun y => g (2 * y)) v - wv n (fun y => g (2 * y + 1)) v) * (eb x * chi n v (x / 2))) = (fun v => 2 * (wv n (fun y => g (2 * y)) v * chi n v (x / 2))) := by
        funext v
        rw [ee]
        generalize wv n (fun y => g (2 * y)) v = a
        generalize wv n (fun y => g (2 * y + 1)) v = b
        generalize chi n v (x / 2) = c
        grind
      rw [this, s2_mul, ha, ← ex, Int.pow_succ, Int.mul_comm (2 ^ n) 2, Int.mul_assoc]
    · have ex : x = 2 * (x / 2) + 1 := by omega
      have ee : eb x = -1 := by unfold eb; rw [if_pos h]
      have : (fun v => (wv n (fun y => g (2 * y)) v + wv n (fun y => g (2 * y + 1)) v) * chi n v (x / 2) + (wv n (fun y => g (2 * y)) v - wv n (fun y => g (2 * y + 1)) v) * (eb x * chi n v (x / 2))) = (fun v => 2 * (wv n (fun y => g (2 * y + 1)) v * chi n v (x / 2))) := by
        funext v
        rw [ee]
        generalize wv n (fun y => g (2 * y)) v = a
        generalize wv n (fun y => g (2 * y + 1)) v = b
        generalize chi n v (x / 2) = c
        grind
      rw [this, s2_mul, hb, ← ex, Int.pow_succ, Int.mul_comm (2 ^ n) 2, Int.mul_assoc]

/-! ### below: the numbers that have no bit that u has not -/

def bl : Nat → Nat → (Nat → Int) → Int
  | 0, _, g => g 0
  | n + 1, u, g => if u % 2 = 1 then bl n (u / 2) (fun y => g (2 * y)) + bl n (u / 2) (fun y => g (2 * y + 1)) else bl n (u / 2) (fun y => g (2 * y))

theorem bl_even (n v : Nat) (g : Nat → Int) : bl (n + 1) (2 * v) g = bl n v (fun y => g (2 * y)) := by
  show (if 2 * v % 2 = 1 then _ else _) = _
  rw [if_neg (by omega), show 2 * v / 2 = v by omega]

theorem bl_odd (n v : Nat) (g : Nat → Int) : bl (n + 1) (2 * v + 1) g = bl n v (fun y => g (2 * y)) + bl n v (fun y => g (2 * y + 1)) := by
  show (if (2 * v + 1) % 2 = 1 then _ else _) = _
  rw [if_pos (by omega), show (2 * v + 1) / 2 = v by omega]

theorem bl_add : ∀ (n u : Nat) (f g : Nat → Int), bl n u (fun x => f x + g x) = bl n u f + bl n u g
  | 0, _, f, g => rfl
  | n + 1, u, f, g => by
    rcases Nat.mod_two_eq_zero_or_one u with h | h
    · have e : u = 2 * (u / 2) := by omega
      rw [e, bl_even, bl_even, bl_even, bl_add n]
    · have e : u = 2 * (u / 2) + 1 := by omega
      rw [e, bl_odd, bl_odd, bl_odd, bl_add n, bl_add n]; omega

theorem bl_mul (c : Int) : ∀ (n u : Nat) (f : Nat → Int), bl n u (fun x => c * f x) = c * bl n u f
  | 0, _, f => rfl
  | n + 1, u, f => by
    rcases Nat.mod_two_eq_zero_or_one u with h | h
    · have e : u = 2 * (u / 2) := by omega
      rw [e, bl_even, bl_even, bl_mul c n]
    · have e : u = 2 * (u / 2) + 1 := by omega
      rw [e, bl_odd, bl_odd, bl_mul c n, bl_mul c n, Int.mul_add]

theorem bl_const (c : Int) : ∀ n u : Nat, bl n u (fun _ => c) = 2 ^ on n u * c
  | 0, _ => by show c = 2 ^ 0 * c; simp
  | n + 1, u => by
    rcases Nat.mod_two_eq_zero_or_one u with h | h
    · have e : u = 2 * (u / 2) := by omega
      have eo : on (n + 1) u = on n (u / 2) := by show u % 2 + on n (u / 2) = _; omega
      rw [eo]
      conv => lhs; rw [e]
      rw [bl_even, bl_const c n]
    · have e : u = 2 * (u / 2) + 1 := by omega
      have eo : on (n + 1) u = on n (u / 2) + 1 := by show u % 2 + on n (u / 2) = _; omega
      rw [eo]
      conv => lhs; rw [e]
      rw [bl_odd, bl_const c n, Int.pow_succ, Int.mul_comm (2 ^ _) 2, Int.mul_assoc]; omega

theorem bl_congr : ∀ {n u : Nat} {f g : Nat → Int}, (∀ x, x < 2 ^ n → (2 : Int) ∣ f x - g x) → (2 : Int) ∣ bl n u f - bl n u g
  | 0, _, f, g, h => h 0 (by decide)
  | n + 1, u, f, g, h => by
    have hp : 2 ^ (n + 1) = 2 * 2 ^ n := by rw [Nat.pow_succ, Nat.mul_comm]
    have h0 := bl_congr (n := n) (u := u / 2) (fun x hx => h (2 * x) (by omega))
    have h1 := bl_congr (n := n) (u := u / 2) (fun x hx => h (2 * x + 1) (by omega))
    rcases Nat.mod_two_eq_zero_or_one u with hu | hu
    · have e : u = 2 * (u / 2) := by omega
      rw [e, bl_even, bl_even]
      exact h0
    · have e : u = 2 * (u / 2) + 1 := by omega
      rw [e, bl_odd, bl_odd]
      omega

/-- Twice below: it comes again. -/
theorem bl_twice : ∀ (n x : Nat) (f : Nat → Int), x < 2 ^ n → (2 : Int) ∣ bl n x (fun u => bl n u f) - f x
  | 0, x, f, hx => by
    obtain rfl : x = 0 := by
      rw [Nat.pow_zero] at hx; omega
    show (2 : Int) ∣ f 0 - f 0
    simp
  | n + 1, x, f, hx => by
    have hp : 2 ^ (n + 1) = 2 * 2 ^ n := by rw [Nat.pow_succ, Nat.mul_comm]
    have h0 := bl_twice n (x / 2) (fun y => f (2 * y)) (by omega)
    have h1 := bl_twice n (x / 2) (fun y => f (2 * y + 1)) (by omega)
    rcases Nat.mod_two_eq_zero_or_one x with hu | hu
    · have e : x = 2 * (x / 2) := by omega
      rw [e, bl_even]
      simp only [bl_even]
      exact h0
    · have e : x = 2 * (x / 2) + 1 := by omega
      rw [e, bl_odd]
      simp only [bl_even, bl_odd]
      rw [bl_add]
      generalize bl n (x / 2) (fun v => bl n v (fun y => f (2 * y))) = a at *
      generalize bl n (x / 2) (fun v => bl n v (fun y => f (2 * y + 1))) = b at *
      generalize f (2 * (x / 2) + 1) = c at *
      omega

/-! ### the bits that are not set -/

def cm : Nat → Nat → Nat
  | 0, _ => 0
  | n + 1, u => (1 - u % 2) + 2 * cm n (u / 2)

theorem cm_even (n v : Nat) : cm (n + 1) (2 * v) = 2 * cm n v + 1 := by
  show (1 - 2 * v % 2) + 2 * cm n (2 * v / 2) = _
  rw [show 2 * v / 2 = v by omega]; omega

theorem cm_odd (n v : Nat) : cm (n + 1) (2 * v + 1) = 2 * cm n v := by
  show (1 - (2 * v + 1) % 2) + 2 * cm n ((2 * v + 1) / 2) = _
  rw [show (2 * v + 1) / 2 = v by omega]; omega

theorem on_even (n v : Nat) : on (n + 1) (2 * v) = on n v := by
  show 2 * v % 2 + on n (2 * v / 2) = _
  rw [show 2 * v / 2 = v by omega]; omega

theorem on_odd (n v : Nat) : on (n + 1) (2 * v + 1) = on n v + 1 := by
  show (2 * v + 1) % 2 + on n ((2 * v + 1) / 2) = _
  rw [show (2 * v + 1) / 2 = v by omega]; omega

theorem on_cm : ∀ n u : Nat, on n (cm n u) + on n u = n
  | 0, _ => rfl
  | n + 1, u => by
    have ih := on_cm n (u / 2)
    rcases Nat.mod_two_eq_zero_or_one u with h | h
    · have e : u = 2 * (u / 2) := by omega
      rw [e, cm_even, on_odd, on_even]; omega
    · have e : u = 2 * (u / 2) + 1 := by omega
      rw [e, cm_odd, on_even, on_odd]; omega

/-- Sums below, by waves below the other bits. -/
theorem bl_wave : ∀ (n u : Nat) (g : Nat → Int), 2 ^ on n (cm n u) * bl n u g = bl n (cm n u) (wv n g)
  | 0, _, g => by
    show 2 ^ 0 * g 0 = g 0 * 1
    simp
  | n + 1, u, g => by
    have ha := bl_wave n (u / 2) (fun y => g (2 * y))
    have hb := bl_wave n (u / 2) (fun y => g (2 * y + 1))
    rcases Nat.mod_two_eq_zero_or_one u with h | h
    · have e : u = 2 * (u / 2) := by omega
      rw [e, cm_even, on_odd, bl_odd, bl_even]
      simp only [wv_even, wv_odd]
      rw [← bl_add]
      have : (fun v => wv n (fun y => g (2 * y)) v + wv n (fun y => g (2 * y + 1)) v + (wv n (fun y => g (2 * y)) v - wv n (fun y => g (2 * y + 1)) v)) = (fun v => 2 * wv n (fun y => g (2 * y)) v) := by
        funext v
        omega
      rw [this, bl_mul, show bl n (cm n (u / 2)) (fun v => wv n (fun y => g (2 * y)) v) = bl n (cm n (u / 2)) (wv n (fun y => g (2 * y))) from rfl, ← ha, Int.pow_succ, Int.mul_comm (2 ^ _) 2, Int.mul_assoc]
    · have e : u = 2 * (u / 2) + 1 := by omega
      rw [e, cm_odd, on_even, bl_even, bl_odd]
      simp only [wv_even]
      rw [bl_add, Int.mul_add, ha, hb]

end Go.Proofs.Ytpnjpkmlfbcnjaa.Num41
