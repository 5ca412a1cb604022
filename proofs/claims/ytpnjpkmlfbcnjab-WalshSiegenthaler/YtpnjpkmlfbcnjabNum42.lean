/-
  Plain arithmetic: truths as waves: Siegenthaler, Xiao and Massey, Rothaus.
-/
import Derived.Test.YtpnjpkmlfbcnjabNum41
namespace Go.Proofs.Ytpnjpkmlfbcnjab.Num42
set_option linter.unusedVariables false
open Go.Proofs.Ytpnjpkmlfbcnjab.Num41

/-! ### the numbers that have given values at some bits -/

/-- The sum over the x that are v at the bits of S. -/
def cb : Nat → Nat → Nat → (Nat → Int) → Int
  | 0, _, _, g => g 0
  | n + 1, S, v, g => if S % 2 = 1 then (if v % 2 = 1 then cb n (S / 2) (v / 2) (fun y => g (2 * y + 1)) else cb n (S / 2) (v / 2) (fun y => g (2 * y)))
      else cb n (S / 2) (v / 2) (fun y => g (2 * y)) + cb n (S / 2) (v / 2) (fun y => g (2 * y + 1))

theorem cb_free (n S v : Nat) (g : Nat → Int) : cb (n + 1) (2 * S) v g = cb n S (v / 2) (fun y => g (2 * y)) + cb n S (v / 2) (fun y => g (2 * y + 1)) := by
  show (if 2 * S % 2 = 1 then _ else _) = _
  rw [if_neg (by omega), show 2 * S / 2 = S by omega]

theorem cb_zero (n S v : Nat) (g : Nat → Int) : cb (n + 1) (2 * S + 1) (2 * v) g = cb n S v (fun y => g (2 * y)) := by
  show (if (2 * S + 1) % 2 = 1 then (if 2 * v % 2 = 1 then _ else _) else _) = _
  rw [if_pos (by omega), if_neg (by omega), show (2 * S + 1) / 2 = S by omega, show 2 * v / 2 = v by omega]

theorem cb_one (n S v : Nat) (g : Nat → Int) : cb (n + 1) (2 * S + 1) (2 * v + 1) g = cb n S v (fun y => g (2 * y + 1)) := by
  show (if (2 * S + 1) % 2 = 1 then (if (2 * v + 1) % 2 = 1 then _ else _) else _) = _
  rw [if_pos (by omega), if_pos (by omega), show (2 * S + 1) / 2 = S by omega, show (2 * v + 1) / 2 = v by omega]

/-- v has no bit that S has not. -/
def sb : Nat → Nat → Nat → Prop
  | 0, _, _ => True
  | n + 1, v, S => v % 2 ≤ S % 2 ∧ sb n (v / 2) (S / 2)

theorem sb_two {n v S : Nat} {a b : Nat} (ha : a < 2) (hb : b < 2) : sb (n + 1) (2 * v + a) (2 * S + b) ↔ a ≤ b ∧ sb n v S := by
  show (2 * v + a) % 2 ≤ (2 * S + b) % 2 ∧ sb n ((2 * v + a) / 2) ((2 * S + b) / 2) ↔ _
  rw [show (2 * v + a) % 2 = a by omega, show (2 * S + b) % 2 = b by omega, show (2 * v + a) / 2 = v by omega, show (2 * S + b) / 2 = S by omega]

theorem sb_and : ∀ {n v S : Nat}, v < 2 ^ n → (sb n v S ↔ v &&& S = v)
  | 0, v, S, hv => by
    obtain rfl : v = 0 := by
      rw [Nat.pow_zero] at hv; omega
    exact ⟨fun _ => Nat.zero_and S, fun _ => trivial⟩
  | n + 1, v, S, hv => by
    have hp : 2 ^ (n + 1) = 2 * 2 ^ n := by rw [Nat.pow_succ, Nat.mul_comm]
    have ih := sb_and (n := n) (v := v / 2) (S := S / 2) (by omega)
    have hl := and_low v S
    have hh := and_half v S
    show (v % 2 ≤ S % 2 ∧ sb n (v / 2) (S / 2)) ↔ _
    rw [ih, ← hh]
    constructor
    · rintro ⟨h1, h2⟩
      have e : (v &&& S) % 2 = v % 2 := by
        rw [hl]
        by_cases hv1 : v % 2 = 1
        · rw [if_pos ⟨hv1, by omega⟩, hv1]
        · rw [if_neg (fun k => hv1 k.1)]; omega
      omega
    · intro h
      rw [h] at hl hh ⊢
      refine ⟨?_, rfl⟩
      by_cases hv1 : v % 2 = 1
      · by_cases hS : S % 2 = 1
        · omega
        · rw [if_neg (fun k => hS k.2)] at hl; omega
      · omega

/-- The sum by a loop over all x. -/
theorem cb_s2 : ∀ {n S v : Nat} (g : Nat → Int), sb n v S → v < 2 ^ n → cb n S v g = s2 n (fun x => if x &&& S = v then g x else 0)
  | 0, S, v, g, _, hv => by
    obtain rfl : v = 0 := by
      rw [Nat.pow_zero] at hv; omega
    show g 0 = if 0 &&& S = 0 then g 0 else 0
    rw [if_pos (Nat.zero_and S)]
  | n + 1, S, v, g, hs, hv => by
    have hp : 2 ^ (n + 1) = 2 * 2 ^ n := by rw [Nat.pow_succ, Nat.mul_comm]
    have hs2 := hs.2
    have hs1 := hs.1
    have hv2 : v / 2 < 2 ^ n := by omega
    have key : ∀ x, (x &&& S = v) ↔ ((x &&& S) % 2 = v % 2 ∧ (x / 2) &&& (S / 2) = v / 2) := fun x => by
      rw [← and_half]
      constructor
      · intro h; rw [h]; exact ⟨rfl, rfl⟩
      · rintro ⟨h1, h2⟩; omega
    show cb (n + 1) S v g = s2 n (fun y => if 2 * y &&& S = v then g (2 * y) else 0) + s2 n (fun y => if 2 * y + 1 &&& S = v then g (2 * y + 1) else 0)
    have k0 : ∀ y, (2 * y &&& S = v) ↔ (v % 2 = 0 ∧ y &&& (S / 2) = v / 2) := fun y => by
      rw [key, and_low, if_neg (by omega), show 2 * y / 2 = y by omega]
      constructor
      · rintro ⟨h1, h2⟩; exact ⟨h1.symm, h2⟩
      · rintro ⟨h1, h2⟩; exact ⟨h1.symm, h2⟩
    have k1 : ∀ y, (2 * y + 1 &&& S = v) ↔ (v % 2 = S % 2 ∧ y &&& (S / 2) = v / 2) := fun y => by
      rw [key, and_low, show (2 * y + 1) / 2 = y by omega]
      rcases Nat.mod_two_eq_zero_or_one S with hS | hS
      · rw [if_neg (by omega), hS]
        constructor
        · rintro ⟨h1, h2⟩; exact ⟨h1.symm, h2⟩
        · rintro ⟨h1, h2⟩; exact ⟨h1.symm, h2⟩
      · rw [if_pos ⟨by omega, hS⟩, hS]
        constructor
        · rintro ⟨h1, h2⟩; exact ⟨h1.symm, h2⟩
        · rintro ⟨h1, h2⟩; exact ⟨h1.symm, h2⟩
    have z : s2 n (fun _ => (0 : Int)) = 0 := by rw [s2_const]; simp
    rcases Nat.mod_two_eq_zero_or_one S with hS | hS
    · have hv0 : v % 2 = 0 := by omega
      have e : S = 2 * (S / 2) := by omega
      have e0 : (fun y => if 2 * y &&& S = v then g (2 * y) else 0) = (fun y => if y &&& (S / 2) = v / 2 then g (2 * y) else 0) := by
        funext y
        by_cases h : y &&& (S / 2) = v / 2
        · rw [if_pos h, if_pos ((k0 y).2 ⟨hv0, h⟩)]
        · rw [if_neg h, if_neg (fun k => h ((k0 y).1 k).2)]
      have e1 : (fun y => if 2 * y + 1 &&& S = v then g (2 * y + 1) else 0) = (fun y => if y &&& (S / 2) = v / 2 then g (2 * y + 1) else 0) := by
        funext y
        by_cases h : y &&& (S / 2) = v / 2
        · rw [if_pos h, if_pos ((k1 y).2 ⟨by omega, h⟩)]
        · rw [if_neg h, if_neg (fun k => h ((k1 y).1 k).2)]
      rw [e0, e1, ← cb_s2 (fun y => g (2 * y)) hs2 hv2, ← cb_s2 (fun y => g (2 * y + 1)) hs2 hv2]
      conv => lhs; rw [e]
      rw [cb_free]
    · have e : S = 2 * (S / 2) + 1 := by omega
      rcases Nat.mod_two_eq_zero_or_one v with hv0 | hv0
      · have ev : v = 2 * (v / 2) := by omega
        have e0 : (fun y => if 2 * y &&& S = v then g (2 * y) else 0) = (fun y => if y &&& (S / 2) = v / 2 then g (2 * y) else 0) := by
          funext y
          by_cases h : y &&& (S / 2) = v / 2
          · rw [if_pos h, if_pos ((k0 y).2 ⟨hv0, h⟩)]
          · rw [if_neg h, if_neg (fun k => h ((k0 y).1 k).2)]
        have e1 : (fun y => if 2 * y + 1 &&& S = v then g (2 * y + 1) else 0) = (fun _ => (0 : Int)) := by
          funext y
          rw [if_neg (fun k => by have := ((k1 y).1 k).1; omega)]
        rw [e0, e1, z, Int.add_zero, ← cb_s2 (fun y => g (2 * y)) hs2 hv2]
        conv => lhs; rw [e, ev]
        rw [cb_zero]
      · have ev : v = 2 * (v / 2) + 1 := by omega
        have e0 : (fun y => if 2 * y &&& S = v then g (2 * y) else 0) = (fun _ => (0 : Int)) := by
          funext y
          rw [if_neg (fun k => by have := ((k0 y).1 k).1; omega)]
        have e1 : (fun y => if 2 * y + 1 &&& S = v then g (2 * y + 1) else 0) = (fun y => if y &&& (S / 2) = v / 2 then g (2 * y + 1) else 0) := by
          funext y
          by_cases h : y &&& (S / 2) = v / 2
          · rw [if_pos h, if_pos ((k1 y).2 ⟨by omega, h⟩)]
          · rw [if_neg h, if_neg (fun k => h ((k1 y).1 k).2)]
        rw [e0, e1, z, Int.zero_add, ← cb_s2 (fun y => g (2 * y + 1)) hs2 hv2]
        conv => lhs; rw [e, ev]
        rw [cb_one]

/-- One bit more. -/
theorem cb_split : ∀ (n S v : Nat) (g : Nat → Int), S < 2 ^ n → v < 2 ^ n → sb n v S → on n S < n →
    ∃ S' v', on n S' = on n S + 1 ∧ S' < 2 ^ n ∧ v' < 2 ^ n ∧ sb n v S' ∧ sb n v' S' ∧ cb n S v g = cb n S' v g + cb n S' v' g
  | 0, S, v, g, _, _, _, h => absurd h (by show ¬ 0 < 0; omega)
  | n + 1, S, v, g, hS, hv, hs, h => by
    have hp : 2 ^ (n + 1) = 2 * 2 ^ n := by rw [Nat.pow_succ, Nat.mul_comm]
    have hs2 := hs.2
    have hs1 := hs.1
    rcases Nat.mod_two_eq_zero_or_one S with h0 | h0
    · have hv0 : v % 2 = 0 := by omega
      obtain ⟨T, rfl⟩ : ∃ T, S = 2 * T := ⟨S / 2, by omega⟩
      obtain ⟨w, rfl⟩ : ∃ w, v = 2 * w := ⟨v / 2, by omega⟩
      have hsw : sb n w T := by rwa [show 2 * w / 2 = w by omega, show 2 * T / 2 = T by omega] at hs2
      refine ⟨2 * T + 1, 2 * w + 1, by rw [on_odd, on_even], by omega, by omega, (sb_two (a := 0) (b := 1) (by omega) (by omega)).2 ⟨by omega, hsw⟩, (sb_two (a := 1) (b := 1) (by omega) (by omega)).2 ⟨by omega, hsw⟩, ?_⟩
      rw [cb_free, cb_zero, cb_one, show 2 * w / 2 = w by omega]
    · obtain ⟨T, rfl⟩ : ∃ T, S = 2 * T + 1 := ⟨S / 2, by omega⟩
      have hT : on n T < n := by rw [on_odd] at h; omega
      rcases Nat.mod_two_eq_zero_or_one v with hv0 | hv0
      · obtain ⟨w, rfl⟩ : ∃ w, v = 2 * w := ⟨v / 2, by omega⟩
        have hsw : sb n w T := by rwa [show 2 * w / 2 = w by omega, show (2 * T + 1) / 2 = T by omega] at hs2
        obtain ⟨S', v', g1, g2, g3, g4, g5, g6⟩ := cb_split n T w (fun y => g (2 * y)) (by omega) (by omega) hsw hT
        refine ⟨2 * S' + 1, 2 * v', by rw [on_odd, on_odd, g1], by omega, by omega, (sb_two (a := 0) (b := 1) (by omega) (by omega)).2 ⟨by omega, g4⟩, (sb_two (a := 0) (b := 1) (by omega) (by omega)).2 ⟨by omega, g5⟩, ?_⟩
        rw [cb_zero, cb_zero, cb_zero, g6]
      · obtain ⟨w, rfl⟩ : ∃ w, v = 2 * w + 1 := ⟨v / 2, by omega⟩
        have hsw : sb n w T := by rwa [show (2 * w + 1) / 2 = w by omega, show (2 * T + 1) / 2 = T by omega] at hs2
        obtain ⟨S', v', g1, g2, g3, g4, g5, g6⟩ := cb_split n T w (fun y => g (2 * y + 1)) (by omega) (by omega) hsw hT
        refine ⟨2 * S' + 1, 2 * v' + 1, by rw [on_odd, on_odd, g1], by omega, by omega, (sb_two (a := 1) (b := 1) (by omega) (by omega)).2 ⟨by omega, g4⟩, (sb_two (a := 1) (b := 1) (by omega) (by omega)).2 ⟨by omega, g5⟩, ?_⟩
        rw [cb_one, cb_one, cb_one, g6]

/-- Any k of the variables tell nothing. -/
def Im (n : Nat) (g : Nat → Int) (k : Nat) : Prop := ∀ S v, S < 2 ^ n → v < 2 ^ n → sb n v S → on n S = k → cb n S v g * 2 ^ k = s2 n g

theorem im_down {n k : Nat} {g : Nat → Int} (hk : k + 1 ≤ n) (h : Im n g (k + 1)) : Im n g k := by
  intro S v hS hv hs ho
  obtain ⟨S', v', g1, g2, g3, g4, g5, g6⟩ := cb_split n S v g hS hv hs (by omega)
  have hv1 : v < 2 ^ n := hv
  have h1 := h S' v g2 hv g4 (by omega)
  have h2 := h S' v' g2 g3 g5 (by omega)
  rw [Int.pow_succ] at h1 h2
  rw [g6]
  generalize cb n S' v g = a at *
  generalize cb n S' v' g = b at *
  generalize (2 : Int) ^ k = c at *
  generalize s2 n g = d at *
  have e1 : a * (c * 2) = 2 * (a * c) := by rw [← Int.mul_assoc]; omega
  have e2 : b * (c * 2) = 2 * (b * c) := by rw [← Int.mul_assoc]; omega
  rw [Int.add_mul]
  omega

theorem im_le {n k : Nat} {g : Nat → Int} (hk : k ≤ n) (h : Im n g k) : ∀ d, d ≤ k → Im n g (k - d)
  | 0, _ => h
  | d + 1, hd => by
    have ih := im_le hk h d (by omega)
    have e : k - d = k - (d + 1) + 1 := by omega
    rw [e] at ih
    exact im_down (by omega) ih

/-- Below u: all other bits are 0. -/
theorem bl_cb : ∀ (n u : Nat) (g : Nat → Int), bl n u g = cb n (cm n u) 0 g
  | 0, _, _ => rfl
  | n + 1, u, g => by
    have ha := bl_cb n (u / 2) (fun y => g (2 * y))
    have hb := bl_cb n (u / 2) (fun y => g (2 * y + 1))
    rcases Nat.mod_two_eq_zero_or_one u with h | h
    · have e : u = 2 * (u / 2) := by omega
      rw [e, bl_even, cm_even, ha]
      exact (cb_zero n _ 0 g).symm
    · have e : u = 2 * (u / 2) + 1 := by omega
      rw [e, bl_odd, cm_odd, ha, hb]
      exact (cb_free n _ 0 g).symm

theorem cm_lt : ∀ n u : Nat, cm n u < 2 ^ n
  | 0, _ => by show 0 < 2 ^ 0; decide
  | n + 1, u => by
    have := cm_lt n (u / 2)
    have hp : 2 ^ (n + 1) = 2 * 2 ^ n := by rw [Nat.pow_succ, Nat.mul_comm]
    show (1 - u % 2) + 2 * cm n (u / 2) < 2 ^ (n + 1)
    omega

theorem sb_zero : ∀ n S : Nat, sb n 0 S
  | 0, _ => trivial
  | n + 1, S => ⟨by omega, sb_zero n (S / 2)⟩

/-- SIEGENTHALER. -/
theorem siegenthaler {n k u : Nat} {g : Nat → Int} (hk : k ≤ n) (h : Im n g k) (hu : n < on n u + k) : (2 : Int) ∣ bl n u g := by
  have ho := on_cm n u
  rw [bl_cb]
  obtain ⟨S', v', g1, g2, g3, g4, g5, g6⟩ := cb_split n (cm n u) 0 g (cm_lt n u) (Nat.pow_pos (by omega)) (sb_zero n _) (by omega)
  have hI := im_le hk h (k - (on n (cm n u) + 1)) (by omega)
  rw [show k - (k - (on n (cm n u) + 1)) = on n (cm n u) + 1 by omega] at hI
  have h1 := hI S' 0 g2 (Nat.pow_pos (by omega)) g4 g1
  have h2 := hI S' v' g2 g3 g5 g1
  rw [g6]
  have hc : (2 : Int) ^ (on n (cm n u) + 1) ≠ 0 := Int.ne_of_gt (Int.pow_pos (by omega))
  have e : cb n S' 0 g = cb n S' v' g := Int.eq_of_mul_eq_mul_right hc (h1.trans h2.symm)
  rw [e]
  exact ⟨cb n S' v' g, by omega⟩

/-! ### constants and sums of single bits -/

theorem const_of : ∀ (n : Nat) (h : Nat → Int), (∀ u, u < 2 ^ n → 1 ≤ on n u → (2 : Int) ∣ bl n u h) → ∀ y, y < 2 ^ n → (2 : Int) ∣ h y - h 0
  | 0, h, _, y, hy => by
    obtain rfl : y = 0 := by
      rw [Nat.pow_zero] at hy; omega
    simp
  | n + 1, h, H, y, hy => by
    have hp : 2 ^ (n + 1) = 2 * 2 ^ n := by rw [Nat.pow_succ, Nat.mul_comm]
    have hp0 : 0 < 2 ^ n := Nat.pow_pos (by omega)
    have h0 : ∀ y, y < 2 ^ n → (2 : Int) ∣ h (2 * y) - h (2 * 0) := const_of n (fun y => h (2 * y)) (fun u hu ho => by
      have := H (2 * u) (by omega) (by rw [on_even]; exact ho)
      rwa [bl_even] at this)
    have hall : ∀ u, u < 2 ^ n → (2 : Int) ∣ bl n u (fun y => h (2 * y)) + bl n u (fun y => h (2 * y + 1)) := fun u hu => by
      have := H (2 * u + 1) (by omega) (by rw [on_odd]; omega)
      rwa [bl_odd] at this
    have h1 : ∀ y, y < 2 ^ n → (2 : Int) ∣ (h (2 * y) + h (2 * y + 1)) := fun y hy => by
      have t := bl_twice n y (fun y => h (2 * y) + h (2 * y + 1)) hy
      have t2 := bl_congr (n := n) (u := y) (f := fun u => bl n u (fun y => h (2 * y) + h (2 * y + 1))) (g := fun _ => 0) (fun u hu => by
        rw [bl_add]
        have := hall u hu
        omega)
      rw [bl_const, Int.mul_zero] at t2
      show (2 : Int) ∣ h (2 * y) + h (2 * y + 1)
      generalize bl n y (fun u => bl n u (fun y => h (2 * y) + h (2 * y + 1))) = a at *
      have t3 : (2 : Int) ∣ a - (h (2 * y) + h (2 * y + 1)) := t
      omega
    rcases Nat.mod_two_eq_zero_or_one y with e | e
    · obtain ⟨z, rfl⟩ : ∃ z, y = 2 * z := ⟨y / 2, by omega⟩
      exact h0 z (by omega)
    · obtain ⟨z, rfl⟩ : ∃ z, y = 2 * z + 1 := ⟨y / 2, by omega⟩
      have a1 := h0 z (by omega)
      have a2 := h1 z (by omega)
      rw [Nat.mul_zero] at a1
      generalize h (2 * z) = a at *
      generalize h (2 * z + 1) = b at *
      generalize h 0 = c at *
      omega

/-- The sign of a bit. -/
def sn (b : Int) : Int := 1 - 2 * b

/-- What has a degree of one at most has one great wave. -/
theorem affine : ∀ (n : Nat) (f : Nat → Int), (∀ x, x < 2 ^ n → f x = 0 ∨ f x = 1) → (∀ u, u < 2 ^ n → 2 ≤ on n u → (2 : Int) ∣ bl n u f) → ∃ w, w < 2 ^ n ∧ ∀ x, x < 2 ^ n → sn (f x) = sn (f 0) * chi n w x
  | 0, f, hf, _ => ⟨0, by decide, fun x hx => by
      obtain rfl : x = 0 := by
        rw [Nat.pow_zero] at hx; omega
      show sn (f 0) = sn (f 0) * 1
      omega⟩
  | n + 1, f, hf, H => by
    have hp : 2 ^ (n + 1) = 2 * 2 ^ n := by rw [Nat.pow_succ, Nat.mul_comm]
    have hp0 : 0 < 2 ^ n := Nat.pow_pos (by omega)
    obtain ⟨w, hw, hW⟩ := affine n (fun y => f (2 * y)) (fun x hx => hf (2 * x) (by omega)) (fun u hu ho => by
      have := H (2 * u) (by omega) (by rw [on_even]; exact ho)
      rwa [bl_even] at this)
    have hc := const_of n (fun y => f (2 * y) + f (2 * y + 1)) (fun u hu ho => by
      have := H (2 * u + 1) (by omega) (by rw [on_odd]; omega)
      rw [bl_odd] at this
      rw [bl_add]
      exact this)
    have z0 := hf 0 (by omega)
    have z1 := hf 1 (by omega)
    have hW' : ∀ y, y < 2 ^ n → sn (f (2 * y)) = sn (f 0) * chi n w y := hW
    have hc' : ∀ y, y < 2 ^ n → (2 : Int) ∣ f (2 * y) + f (2 * y + 1) - (f 0 + f 1) := hc
    refine ⟨2 * w + (if f 0 = f 1 then 0 else 1), by split <;> omega, fun x hx => ?_⟩
    rcases Nat.mod_two_eq_zero_or_one x with e | e
    · obtain ⟨y, rfl⟩ : ∃ y, x = 2 * y := ⟨x / 2, by omega⟩
      rw [chi_even, hW' y (by omega)]
      congr 2
      split <;> omega
    · obtain ⟨y, rfl⟩ : ∃ y, x = 2 * y + 1 := ⟨x / 2, by omega⟩
      have hy := hW' y (by omega)
      have hyc := hc' y (by omega)
      have y0 := hf (2 * y) (by omega)
      have y1 := hf (2 * y + 1) (by omega)
      rw [chi_odd]
      by_cases h01 : f 0 = f 1
      · simp only [if_pos h01, Nat.add_zero]
        rw [eb_even, Int.one_mul, show 2 * w / 2 = w by omega, ← hy]
        unfold sn
        omega
      · rw [if_neg h01, eb_odd, show (2 * w + 1) / 2 = w by omega]
        have : sn (f (2 * y + 1)) = -(sn (f 0) * chi n w y) := by
          rw [← hy]
          unfold sn
          omega
        rw [this]
        generalize sn (f 0) = a
        generalize chi n w y = b
        grind

/-- .. its wave there. -/
theorem affine_wave {n : Nat} {g : Nat → Int} {w : Nat} {c : Int} (h : ∀ x, x < 2 ^ n → g x = c * chi n w x) : wv n g w = 2 ^ n * c := by
  unfold wv
  rw [s2_congr (g := fun _ => c) (fun x hx => by
    rw [h x hx]
    have := chi_sq n w x
    generalize chi n w x = d at *
    rw [Int.mul_assoc, this, Int.mul_one]), s2_const]

/-! ### Rothaus -/

theorem even_of_sq : ∀ (n : Nat) (x : Int), x * x = 2 ^ n → n % 2 = 0
  | 0, _, _ => rfl
  | 1, x, h => by
    exfalso
    rw [Int.pow_succ, Int.pow_zero, Int.one_mul] at h
    have h1 : x < 2 := by
      rcases Int.lt_or_le x 2 with k | k
      · exact k
      · have := Int.mul_le_mul k k (by omega) (by omega); omega
    have h2 : -2 < x := by
      rcases Int.lt_or_le (-2) x with k | k
      · exact k
      · have := Int.mul_le_mul (a := 2) (b := 2) (c := -x) (d := -x) (by omega) (by omega) (by omega) (by omega)
        rw [Int.neg_mul_neg] at this; omega
    rcases (show x = -1 ∨ x = 0 ∨ x = 1 by omega) with rfl | rfl | rfl <;> omega
  | n + 2, x, h => by
    have hx : x % 2 = 0 := by
      rcases (show x % 2 = 0 ∨ x % 2 = 1 by omega) with k | k
      · exact k
      · exfalso
        have e : x = 2 * (x / 2) + 1 := by omega
        generalize x / 2 = y at *
        subst e
        rw [Int.pow_succ] at h
        generalize (2 : Int) ^ (n + 1) = z at *
        have e2 : (2 * y + 1) * (2 * y + 1) = 2 * (2 * (y * y) + 2 * y) + 1 := by grind
        omega
    have e : x = 2 * (x / 2) := by omega
    generalize x / 2 = y at *
    subst e
    have h2 : y * y = 2 ^ n := by
      rw [Int.pow_succ, Int.pow_succ] at h
      generalize (2 : Int) ^ n = z at *
      have e2 : 2 * y * (2 * y) = 4 * (y * y) := by grind
      omega
    have := even_of_sq n y h2
    omega

/-- All waves as high. -/
def Bent (n : Nat) (g : Nat → Int) : Prop := ∀ u, u < 2 ^ n → wv n g u = wv n g 0 ∨ wv n g u = -wv n g 0

theorem bent_high {n : Nat} {g : Nat → Int} (h : Bent n g) (hg : ∀ x, x < 2 ^ n → g x * g x = 1) : wv n g 0 * wv n g 0 = 2 ^ n := by
  have hp := parseval n g
  rw [s2_congr (g := fun _ => wv n g 0 * wv n g 0) (fun u hu => by
    rcases h u hu with e | e
    · rw [e]
    · rw [e, Int.neg_mul_neg]), s2_const, s2_congr (g := fun _ => (1 : Int)) hg, s2_const] at hp
  have hc : (2 : Int) ^ n ≠ 0 := Int.ne_of_gt (Int.pow_pos (by omega))
  have := Int.eq_of_mul_eq_mul_left hc hp
  rw [this, Int.mul_one]

/-- ROTHAUS: of an odd number of variables they are not. -/
theorem bent_even {n : Nat} {g : Nat → Int} (h : Bent n g) (hg : ∀ x, x < 2 ^ n → g x * g x = 1) : n % 2 = 0 := even_of_sq n _ (bent_high h hg)

theorem bl_on0 : ∀ (n c : Nat) (F : Nat → Int), on n c = 0 → bl n c F = F 0
  | 0, _, _, _ => rfl
  | n + 1, c, F, h => by
    rcases Nat.mod_two_eq_zero_or_one c with e | e
    · obtain ⟨d, rfl⟩ : ∃ d, c = 2 * d := ⟨c / 2, by omega⟩
      rw [on_even] at h
      rw [bl_even, bl_on0 n d _ h]
    · obtain ⟨d, rfl⟩ : ∃ d, c = 2 * d + 1 := ⟨c / 2, by omega⟩
      rw [on_odd] at h
      omega

theorem bl_on1 : ∀ (n c : Nat), on n c = 1 → ∃ w, w < 2 ^ n ∧ ∀ F : Nat → Int, bl n c F = F 0 + F w
  | 0, _, h => absurd h (by show ¬ 0 = 1; omega)
  | n + 1, c, h => by
    have hp : 2 ^ (n + 1) = 2 * 2 ^ n := by rw [Nat.pow_succ, Nat.mul_comm]
    have hp0 : 0 < 2 ^ n := Nat.pow_pos (by omega)
    rcases Nat.mod_two_eq_zero_or_one c with e | e
    · obtain ⟨d, rfl⟩ : ∃ d, c = 2 * d := ⟨c / 2, by omega⟩
      rw [on_even] at h
      obtain ⟨w, hw, H⟩ := bl_on1 n d h
      exact ⟨2 * w, by omega, fun F => by rw [bl_even, H]⟩
    · obtain ⟨d, rfl⟩ : ∃ d, c = 2 * d + 1 := ⟨c / 2, by omega⟩
      rw [on_odd] at h
      refine ⟨1, by omega, fun F => ?_⟩
      rw [bl_odd, bl_on0 n d _ (by omega), bl_on0 n d _ (by omega)]

theorem bl_sn (n u : Nat) (f : Nat → Int) : bl n u (fun x => sn (f x)) = 2 ^ on n u - 2 * bl n u f := by
  have e : (fun x => sn (f x)) = (fun x => 1 + (-2) * f x) := by
    funext x
    unfold sn
    omega
  rw [e, bl_add, bl_const, bl_mul, Int.mul_one]
  omega

theorem four_of {x : Int} (h : x * x = 16) : x = 4 ∨ x = -4 := by
  have h1 : x < 5 := by
    rcases Int.lt_or_le x 5 with k | k
    · exact k
    · have := Int.mul_le_mul k k (by omega) (by omega); omega
  have h2 : -5 < x := by
    rcases Int.lt_or_le (-5) x with k | k
    · exact k
    · have := Int.mul_le_mul (a := 5) (b := 5) (c := -x) (d := -x) (by omega) (by omega) (by omega) (by omega)
      rw [Int.neg_mul_neg] at this; omega
  rcases (show x = -4 ∨ x = -3 ∨ x = -2 ∨ x = -1 ∨ x = 0 ∨ x = 1 ∨ x = 2 ∨ x = 3 ∨ x = 4 by omega) with rfl | rfl | rfl | rfl | rfl | rfl | rfl | rfl | rfl <;> omega

theorem sn_sq {f : Nat → Int} {x : Nat} (h : f x = 0 ∨ f x = 1) : sn (f x) * sn (f x) = 1 := by
  rcases h with e | e <;> rw [e] <;> decide

/-- ROTHAUS: of four variables: the degree is two. -/
theorem rothaus4 {f : Nat → Int} (hf : ∀ x, x < 2 ^ 4 → f x = 0 ∨ f x = 1) (hb : Bent 4 (fun x => sn (f x))) :
    (∀ u, u < 2 ^ 4 → 3 ≤ on 4 u → (2 : Int) ∣ bl 4 u f) ∧ ∃ u, u < 2 ^ 4 ∧ 2 ≤ on 4 u ∧ ¬ (2 : Int) ∣ bl 4 u f := by
  have hh := bent_high hb (fun x hx => sn_sq (hf x hx))
  have h0 := four_of (x := wv 4 (fun x => sn (f x)) 0) (by rw [hh]; decide)
  have hw : ∀ u, u < 2 ^ 4 → wv 4 (fun x => sn (f x)) u = 4 ∨ wv 4 (fun x => sn (f x)) u = -4 := fun u hu => by
    rcases hb u hu with e | e <;> rw [e] <;> omega
  constructor
  · intro u hu ho
    have hb1 := bl_wave 4 u (fun x => sn (f x))
    have hs := bl_sn 4 u f
    have hc := on_cm 4 u
    have hle := on_le 4 u
    rcases (show on 4 u = 3 ∨ on 4 u = 4 by omega) with e | e
    · obtain ⟨w, hw1, hw2⟩ := bl_on1 4 (cm 4 u) (by omega)
      rw [hw2, show on 4 (cm 4 u) = 1 by omega] at hb1
      rw [e] at hs
      rw [hs] at hb1
      have a := hw w hw1
      have e1 : (2 : Int) ^ 1 = 2 := by decide
      have e3 : (2 : Int) ^ 3 = 8 := by decide
      rw [e1, e3] at hb1
      generalize bl 4 u f = z at *
      generalize wv 4 (fun x => sn (f x)) 0 = p at *
      generalize wv 4 (fun x => sn (f x)) w = q at *
      omega
    · rw [bl_on0 4 (cm 4 u) (wv 4 (fun x => sn (f x))) (by omega), show on 4 (cm 4 u) = 0 by omega] at hb1
      rw [e] at hs
      rw [hs] at hb1
      have e1 : (2 : Int) ^ 0 = 1 := by decide
      have e3 : (2 : Int) ^ 4 = 16 := by decide
      rw [e1, e3] at hb1
      generalize bl 4 u f = z at *
      generalize wv 4 (fun x => sn (f x)) 0 = p at *
      omega
  · rcases Classical.em (∃ u, u < 2 ^ 4 ∧ 2 ≤ on 4 u ∧ ¬ (2 : Int) ∣ bl 4 u f) with h | h
    · exact h
    · exfalso
      obtain ⟨w, hw1, hw2⟩ := affine 4 f hf (fun u hu ho => by
        rcases Classical.em ((2 : Int) ∣ bl 4 u f) with k | k
        · exact k
        · exact absurd ⟨u, hu, ho, k⟩ h)
      have h1 := affine_wave (g := fun x => sn (f x)) hw2
      have h2 := hw w hw1
      rw [h1] at h2
      have e3 : (2 : Int) ^ 4 = 16 := by decide
      rw [e3] at h2
      omega

end Go.Proofs.Ytpnjpkmlfbcnjab.Num42
