/-
  Plain arithmetic: truths as waves: Xiao and Massey.
-/
import Derived.Test.YtpnjpkmlfbcnjabNum42
namespace Go.Proofs.Ytpnjpkmlfbcnjab.Num43
set_option linter.unusedVariables false
open Go.Proofs.Ytpnjpkmlfbcnjab.Num41 Go.Proofs.Ytpnjpkmlfbcnjab.Num42

theorem bl_same : ∀ {n u : Nat} {F G : Nat → Int}, (∀ v, v < 2 ^ n → sb n v u → F v = G v) → bl n u F = bl n u G
  | 0, _, F, G, h => h 0 (by decide) trivial
  | n + 1, u, F, G, h => by
    have hp : 2 ^ (n + 1) = 2 * 2 ^ n := by rw [Nat.pow_succ, Nat.mul_comm]
    rcases Nat.mod_two_eq_zero_or_one u with e | e
    · obtain ⟨t, rfl⟩ : ∃ t, u = 2 * t := ⟨u / 2, by omega⟩
      rw [bl_even, bl_even]
      exact bl_same (fun v hv hs => h (2 * v) (by omega) ((sb_two (a := 0) (b := 0) (by omega) (by omega)).2 ⟨by omega, hs⟩))
    · obtain ⟨t, rfl⟩ : ∃ t, u = 2 * t + 1 := ⟨u / 2, by omega⟩
      rw [bl_odd, bl_odd, bl_same (fun v hv hs => h (2 * v) (by omega) ((sb_two (a := 0) (b := 1) (by omega) (by omega)).2 ⟨by omega, hs⟩)),
        bl_same (fun v hv hs => h (2 * v + 1) (by omega) ((sb_two (a := 1) (b := 1) (by omega) (by omega)).2 ⟨by omega, hs⟩))]

theorem sb_on : ∀ {n v u : Nat}, sb n v u → on n v ≤ on n u
  | 0, _, _, _ => Nat.le_refl _
  | n + 1, v, u, h => by
    have := sb_on h.2
    have h1 := h.1
    show v % 2 + on n (v / 2) ≤ u % 2 + on n (u / 2)
    omega

theorem on_pos : ∀ {n v : Nat}, v < 2 ^ n → v ≠ 0 → 1 ≤ on n v
  | 0, v, h, h0 => by
    rw [Nat.pow_zero] at h; omega
  | n + 1, v, h, h0 => by
    have hp : 2 ^ (n + 1) = 2 * 2 ^ n := by rw [Nat.pow_succ, Nat.mul_comm]
    show 1 ≤ v % 2 + on n (v / 2)
    by_cases e : v / 2 = 0
    · omega
    · have := on_pos (n := n) (v := v / 2) (by omega) e
      omega

theorem chi_zero : ∀ n x : Nat, chi n 0 x = 1
  | 0, _ => rfl
  | n + 1, x => by
    show (if 0 % 2 = 1 ∧ x % 2 = 1 then (-1 : Int) else 1) * chi n (0 / 2) (x / 2) = 1
    rw [if_neg (by omega), show 0 / 2 = 0 from rfl, chi_zero n, Int.one_mul]

theorem wv_zero (n : Nat) (g : Nat → Int) : wv n g 0 = s2 n g := by
  unfold wv
  refine s2_congr (fun x _ => ?_)
  rw [chi_zero, Int.mul_one]

/-- Sums at given values, by waves below. -/
theorem cb_wave : ∀ (n S v : Nat) (g : Nat → Int), sb n v S → 2 ^ on n S * cb n S v g = bl n S (fun u => wv n g u * chi n u v)
  | 0, _, _, g, _ => by
    show 2 ^ 0 * g 0 = g 0 * 1 * 1
    simp
  | n + 1, S, v, g, hs => by
    have hs1 := hs.1
    have hs2 := hs.2
    rcases Nat.mod_two_eq_zero_or_one S with e | e
    · obtain ⟨T, rfl⟩ : ∃ T, S = 2 * T := ⟨S / 2, by omega⟩
      obtain ⟨w, rfl⟩ : ∃ w, v = 2 * w := ⟨v / 2, by omega⟩
      have hsw : sb n w T := by rwa [show 2 * w / 2 = w by omega, show 2 * T / 2 = T by omega] at hs2
      rw [on_even, cb_free, bl_even, show 2 * w / 2 = w by omega, Int.mul_add, cb_wave n T w _ hsw, cb_wave n T w _ hsw, ← bl_add]
      refine bl_same (fun y _ _ => ?_)
      rw [wv_even, chi_even, show 2 * y / 2 = y by omega, Int.add_mul]
    · obtain ⟨T, rfl⟩ : ∃ T, S = 2 * T + 1 := ⟨S / 2, by omega⟩
      rcases Nat.mod_two_eq_zero_or_one v with e2 | e2
      · obtain ⟨w, rfl⟩ : ∃ w, v = 2 * w := ⟨v / 2, by omega⟩
        have hsw : sb n w T := by rwa [show 2 * w / 2 = w by omega, show (2 * T + 1) / 2 = T by omega] at hs2
        rw [on_odd, cb_zero, bl_odd, Int.pow_succ, Int.mul_comm (2 ^ _) 2, Int.mul_assoc, cb_wave n T w _ hsw, ← bl_add, ← bl_mul]
        refine bl_same (fun y _ _ => ?_)
        rw [wv_even, wv_odd, chi_even, chi_even, show 2 * y / 2 = y by omega, show (2 * y + 1) / 2 = y by omega]
        generalize wv n (fun y => g (2 * y)) y = a
        generalize wv n (fun y => g (2 * y + 1)) y = b
        generalize chi n y w = c
        grind
      · obtain ⟨w, rfl⟩ : ∃ w, v = 2 * w + 1 := ⟨v / 2, by omega⟩
        have hsw : sb n w T := by rwa [show (2 * w + 1) / 2 = w by omega, show (2 * T + 1) / 2 = T by omega] at hs2
        rw [on_odd, cb_one, bl_odd, Int.pow_succ, Int.mul_comm (2 ^ _) 2, Int.mul_assoc, cb_wave n T w _ hsw, ← bl_add, ← bl_mul]
        refine bl_same (fun y _ _ => ?_)
        rw [wv_even, wv_odd, chi_odd, chi_odd, eb_even, eb_odd, show 2 * y / 2 = y by omega, show (2 * y + 1) / 2 = y by omega]
        generalize wv n (fun y => g (2 * y)) y = a
        generalize wv n (fun y => g (2 * y + 1)) y = b
        generalize chi n y w = c
        grind

theorem bl_only : ∀ (n S : Nat) (F : Nat → Int), (∀ u, u < 2 ^ n → sb n u S → u ≠ 0 → F u = 0) → bl n S F = F 0
  | 0, _, _, _ => rfl
  | n + 1, S, F, h => by
    have hp : 2 ^ (n + 1) = 2 * 2 ^ n := by rw [Nat.pow_succ, Nat.mul_comm]
    rcases Nat.mod_two_eq_zero_or_one S with e | e
    · obtain ⟨T, rfl⟩ : ∃ T, S = 2 * T := ⟨S / 2, by omega⟩
      rw [bl_even]
      exact bl_only n T (fun y => F (2 * y)) (fun u hu hs h0 => h (2 * u) (by omega) ((sb_two (a := 0) (b := 0) (by omega) (by omega)).2 ⟨by omega, hs⟩) (by omega))
    · obtain ⟨T, rfl⟩ : ∃ T, S = 2 * T + 1 := ⟨S / 2, by omega⟩
      have h1 := bl_only n T (fun y => F (2 * y)) (fun u hu hs h0 => h (2 * u) (by omega) ((sb_two (a := 0) (b := 1) (by omega) (by omega)).2 ⟨by omega, hs⟩) (by omega))
      have h2 : bl n T (fun y => F (2 * y + 1)) = bl n T (fun _ => 0) := bl_same (fun v hv hs => h (2 * v + 1) (by omega) ((sb_two (a := 1) (b := 1) (by omega) (by omega)).2 ⟨by omega, hs⟩) (by omega))
      rw [bl_odd, h1, h2, bl_const, Int.mul_zero, Int.add_zero]

/-- A wave, by sums at the values of its bits. -/
theorem wv_cb : ∀ (n u : Nat) (g : Nat → Int), wv n g u = bl n u (fun v => chi n u v * cb n u v g)
  | 0, _, g => by
    show g 0 * 1 = 1 * g 0
    omega
  | n + 1, u, g => by
    have ha := wv_cb n (u / 2) (fun y => g (2 * y))
    have hb := wv_cb n (u / 2) (fun y => g (2 * y + 1))
    rcases Nat.mod_two_eq_zero_or_one u with e | e
    · obtain ⟨t, rfl⟩ : ∃ t, u = 2 * t := ⟨u / 2, by omega⟩
      rw [show 2 * t / 2 = t by omega] at ha hb
      rw [wv_even, ha, hb, bl_even, ← bl_add]
      refine bl_same (fun w _ _ => ?_)
      rw [chi_even, cb_free, show 2 * t / 2 = t by omega, show 2 * w / 2 = w by omega, Int.mul_add]
    · obtain ⟨t, rfl⟩ : ∃ t, u = 2 * t + 1 := ⟨u / 2, by omega⟩
      rw [show (2 * t + 1) / 2 = t by omega] at ha hb
      have hn : bl n t (fun w => chi (n + 1) (2 * t + 1) (2 * w + 1) * cb (n + 1) (2 * t + 1) (2 * w + 1) g) = (-1) * bl n t (fun w => chi n t w * cb n t w (fun y => g (2 * y + 1))) := by
        rw [← bl_mul]
        refine bl_same (fun w _ _ => ?_)
        rw [chi_odd, cb_one, eb_odd, show (2 * t + 1) / 2 = t by omega, Int.mul_assoc]
      have hz : bl n t (fun w => chi (n + 1) (2 * t + 1) (2 * w) * cb (n + 1) (2 * t + 1) (2 * w) g) = bl n t (fun w => chi n t w * cb n t w (fun y => g (2 * y))) := by
        refine bl_same (fun w _ _ => ?_)
        rw [chi_even, cb_zero, show (2 * t + 1) / 2 = t by omega]
      rw [wv_odd, ha, hb, bl_odd, hz, hn]
      omega

theorem chi_below : ∀ n u : Nat, 1 ≤ on n u → bl n u (fun v => chi n u v) = 0
  | 0, _, h => absurd h (by show ¬ 1 ≤ 0; omega)
  | n + 1, u, h => by
    rcases Nat.mod_two_eq_zero_or_one u with e | e
    · obtain ⟨t, rfl⟩ : ∃ t, u = 2 * t := ⟨u / 2, by omega⟩
      rw [on_even] at h
      rw [bl_even]
      simp only [chi_even, show 2 * t / 2 = t by omega]
      exact chi_below n t h
    · obtain ⟨t, rfl⟩ : ∃ t, u = 2 * t + 1 := ⟨u / 2, by omega⟩
      rw [bl_odd]
      simp only [chi_even, chi_odd, eb_odd, show (2 * t + 1) / 2 = t by omega]
      rw [bl_mul]
      show bl n t (chi n t) + -1 * bl n t (chi n t) = 0
      omega

/-- XIAO, MASSEY: so many variables tell nothing, just if no wave of as many bits or fewer, but that of none, is there. -/
theorem xiao {n k : Nat} {g : Nat → Int} (hk : k ≤ n) : Im n g k ↔ ∀ u, u < 2 ^ n → 1 ≤ on n u → on n u ≤ k → wv n g u = 0 := by
  constructor
  · intro h u hu h1 h2
    have hI := im_le hk h (k - on n u) (by omega)
    rw [show k - (k - on n u) = on n u by omega] at hI
    have hc : (2 : Int) ^ on n u ≠ 0 := Int.ne_of_gt (Int.pow_pos (by omega))
    refine Int.eq_of_mul_eq_mul_left hc ?_
    rw [Int.mul_zero, wv_cb, ← bl_mul]
    have : bl n u (fun v => 2 ^ on n u * (chi n u v * cb n u v g)) = bl n u (fun v => s2 n g * chi n u v) := bl_same (fun v hv hs => by
      have := hI u v hu hv hs rfl
      generalize chi n u v = c at *
      generalize cb n u v g = b at *
      generalize (2 : Int) ^ on n u = a at *
      rw [← this]
      grind)
    rw [this, bl_mul, chi_below n u h1, Int.mul_zero]
  · intro h S v hS hv hs ho
    have hw := cb_wave n S v g hs
    rw [ho] at hw
    rw [Int.mul_comm, hw, bl_only n S _ (fun u hu hsu h0 => by
      rw [h u hu (on_pos hu h0) (by have := sb_on hsu; omega), Int.zero_mul]), chi_zero, Int.mul_one, wv_zero]

end Go.Proofs.Ytpnjpkmlfbcnjab.Num43
