/-
  Plain arithmetic, without the model: the least rest for many, step by step, as package crt reckons it.
-/
import Derived.Test.YtoohnfcikapmlaaNum14
namespace Go.Proofs.Ytoohnfcikapmlaa.Num27
set_option linter.unusedVariables false
open Go.Proofs.Ytoohnfcikapmlaa.Num Go.Proofs.Ytoohnfcikapmlaa.Num2 Go.Proofs.Ytoohnfcikapmlaa.Num8 Go.Proofs.Ytoohnfcikapmlaa.Num14

/-- The rests with natural moduli. -/
def nats (l : List (Int × Int)) : List (Int × Nat) := l.map (fun r => (r.1, r.2.toNat))

theorem nats_length (l : List (Int × Int)) : (nats l).length = l.length := by simp [nats]

theorem nats_get {l : List (Int × Int)} {j : Nat} (h : j < l.length) : (nats l).getD j (0, 1) = ((l.getD j (0, 0)).1, (l.getD j (0, 0)).2.toNat) := by
  simp [nats, List.getD, h]

theorem nats_out {l : List (Int × Int)} {j : Nat} (h : ¬ j < l.length) : (nats l).getD j (0, 1) = (0, 1) := by
  simp [nats, List.getD, h]

/-- A rest within the limits. -/
def OkR (r : Int × Int) : Prop := 1 ≤ r.2 ∧ r.2 ≤ 1048576 ∧ -2147483648 ≤ r.1 ∧ r.1 ≤ 2147483648

/-- All within the limits, and their least common multiple, too. -/
structure InR (l : List (Int × Int)) : Prop where
  each : ∀ j, j < l.length → OkR (l.getD j (0, 0))
  all : lc (nats l) l.length ≤ 2147483648

theorem pos_of {l : List (Int × Int)} (h : ∀ j, j < l.length → OkR (l.getD j (0, 0))) (j : Nat) : 1 ≤ ((nats l).getD j (0, 1)).2 := by
  by_cases hj : j < l.length
  · rw [nats_get hj]
    have := (h j hj).1
    show 1 ≤ (l.getD j (0, 0)).2.toNat
    omega
  · rw [nats_out hj]; exact Nat.le_refl _

theorem InR.pos {l : List (Int × Int)} (h : InR l) (j : Nat) : 1 ≤ ((nats l).getD j (0, 1)).2 := pos_of h.each j

theorem InR.lc_le {l : List (Int × Int)} (h : InR l) {k : Nat} (hk : k ≤ l.length) : lc (nats l) k ≤ 2147483648 :=
  Nat.le_trans (Nat.le_of_dvd (lc_pos h.pos _) (lc_mono h.pos hk)) h.all

/-- One step: the multiple of the first k + 1 moduli. -/
theorem lc_next {l : List (Int × Int)} {k : Nat} (hk : k < l.length) {a : Int} {n : Nat} (hx : l.getD k (0, 0) = (a, (n : Int))) : lc (nats l) (k + 1) = Nat.lcm (lc (nats l) k) n := by
  show Nat.lcm _ _ = _
  rw [nats_get hk, hx]
  simp

theorem get_nats {l : List (Int × Int)} {k : Nat} (hk : k < l.length) {a : Int} {n : Nat} (hx : l.getD k (0, 0) = (a, (n : Int))) : (nats l).getD k (0, 1) = (a, n) := by
  rw [nats_get hk, hx]; simp

/-- The joined rest. -/
theorem join_ok {A b x g : Int} {M n : Nat} (hM : 1 ≤ M) (hn : 1 ≤ n) (hA0 : 0 ≤ A) (hA1 : A < (M : Int)) (hg : g = ((Nat.gcd M n : Nat) : Int)) (hx : (n : Int) ∣ x * (M : Int) - g) (hd : g ∣ b - A) :
    let C := A + ((b - A) / g * x) % ((n : Int) / g) * (M : Int)
    (n : Int) / g * (M : Int) = ((Nat.lcm M n : Nat) : Int) ∧ Fits C (A, M) ∧ Fits C (b, n) ∧ 0 ≤ C ∧ C < ((Nat.lcm M n : Nat) : Int) := by
  intro C
  have hg1 : 1 ≤ Nat.gcd M n := Nat.gcd_pos_of_pos_left _ hM
  have gp : 0 < g := by omega
  have gn : g ∣ (n : Int) := by rw [hg]; exact Int.ofNat_dvd.2 (Nat.gcd_dvd_right _ _)
  have gM : g ∣ (M : Int) := by rw [hg]; exact Int.ofNat_dvd.2 (Nat.gcd_dvd_left _ _)
  obtain ⟨n', hn'⟩ := gn
  obtain ⟨M', hM'⟩ := gM
  obtain ⟨d, hdd⟩ := hd
  obtain ⟨s, hs⟩ := hx
  have e1 : (n : Int) / g = n' := by rw [hn']; exact Int.mul_ediv_cancel_left _ (by omega)
  have e2 : (b - A) / g = d := by rw [hdd]; exact Int.mul_ediv_cancel_left _ (by omega)
  have hl : n' * (M : Int) = ((Nat.lcm M n : Nat) : Int) := by
    have h1 := Nat.gcd_mul_lcm M n
    have h2 : g * ((Nat.lcm M n : Nat) : Int) = (M : Int) * (n : Int) := by rw [hg, ← Int.natCast_mul, h1, Int.natCast_mul]
    have h3 : g * (n' * (M : Int)) = g * ((Nat.lcm M n : Nat) : Int) := by
      rw [h2, ← Int.mul_assoc, ← hn', Int.mul_comm]
    exact Int.eq_of_mul_eq_mul_left (by omega) h3
  have np : 0 < n' := by
    rcases Int.lt_or_le 0 n' with h | h
    · exact h
    · have := Int.mul_nonneg (show 0 ≤ g by omega) (show 0 ≤ -n' by omega)
      rw [Int.mul_neg] at this
      omega
  have hC : C = A + (d * x) % n' * (M : Int) := by show A + _ = _; rw [e1, e2]
  have r0 := Int.emod_nonneg (d * x) (show n' ≠ 0 by omega)
  have r1 := Int.emod_lt_of_pos (d * x) np
  have rd := Int.emod_add_mul_ediv (d * x) n'
  refine ⟨by rw [e1]; exact hl, ?_, ?_, ?_, ?_⟩
  · refine ⟨(d * x) % n', ?_⟩
    show C - A = _
    rw [hC]
    rw [Int.mul_comm (M : Int)]; omega
  · refine ⟨d * s - (d * x / n') * M', ?_⟩
    show C - b = _
    generalize d * x / n' = q at *
    generalize (d * x) % n' = r at *
    have hr : r = d * x - n' * q := by omega
    rw [hC, hr]
    have hb : b = A + g * d := by omega
    rw [hb]
    have h5 : x * (M : Int) = g + (n : Int) * s := by omega
    have h6 : (d * x - n' * q) * (M : Int) = d * (x * (M : Int)) - n' * q * (M : Int) := by rw [Int.sub_mul, Int.mul_assoc]
    rw [h6, h5, Int.mul_add, Int.mul_sub]
    have h7 : n' * q * (M : Int) = (n : Int) * (q * M') := by
      rw [hM', hn']; ac_rfl
    have h8 : d * g = g * d := Int.mul_comm _ _
    have h9 : d * ((n : Int) * s) = (n : Int) * (d * s) := by ac_rfl
    rw [h7, h8, h9]
    show _ = (n : Int) * (d * s) - (n : Int) * (q * M')
    omega
  · rw [hC]
    have := Int.mul_nonneg r0 (show 0 ≤ (M : Int) by omega)
    omega
  · rw [hC, ← hl]
    have h1 : (d * x) % n' * (M : Int) ≤ (n' - 1) * (M : Int) := Int.mul_le_mul_of_nonneg_right (by omega) (by omega)
    rw [Int.sub_mul] at h1
    omega

/-- Bounds for what is reckoned on the way. -/
theorem join_bd {A b x g : Int} {M n : Nat} (hM : 1 ≤ M) (hn : 1 ≤ n) (hn2 : n ≤ 1048576) (hA0 : 0 ≤ A) (hA1 : A < (M : Int)) (hl : Nat.lcm M n ≤ 2147483648) (hg : g = ((Nat.gcd M n : Nat) : Int)) (hb1 : -2147483648 ≤ b) (hb2 : b ≤ 2147483648) (hx0 : 0 ≤ x) (hx1 : x < (n : Int) / g) :
    M ≤ 2147483648 ∧ 1 ≤ g ∧ g ≤ (n : Int) ∧ 1 ≤ (n : Int) / g ∧ (n : Int) / g ≤ 1048576 ∧ -9007199254740992 ≤ (b - A) / g * x ∧ (b - A) / g * x ≤ 9007199254740992 ∧ -4294967296 ≤ (b - A) / g ∧ (b - A) / g ≤ 4294967296 := by
  have hg1 : 1 ≤ Nat.gcd M n := Nat.gcd_pos_of_pos_left _ hM
  have hg2 : Nat.gcd M n ≤ n := Nat.le_of_dvd hn (Nat.gcd_dvd_right _ _)
  have hMl : M ≤ Nat.lcm M n := Nat.le_of_dvd (Nat.lcm_pos hM hn) (Nat.dvd_lcm_left _ _)
  have q1 : 1 ≤ (n : Int) / g := by omega
  have q2 : (n : Int) / g ≤ n := Int.ediv_le_self _ (by omega)
  have w1 : -4294967296 ≤ (b - A) / g := by
    rw [Int.le_ediv_iff_mul_le (by omega)]
    have : -4294967296 * g ≤ -4294967296 * 1 := by omega
    omega
  have w2 : (b - A) / g ≤ 4294967296 := by
    have h3 : (b - A) / g < 4294967297 := by
      rw [Int.ediv_lt_iff_lt_mul (by omega)]
      omega
    omega
  have hxl : x ≤ 1048576 := by omega
  have u1 : (b - A) / g * x ≤ 4294967296 * x := Int.mul_le_mul_of_nonneg_right w2 hx0
  have u2 : -4294967296 * x ≤ (b - A) / g * x := Int.mul_le_mul_of_nonneg_right w1 hx0
  refine ⟨by omega, by omega, by omega, q1, by omega, by omega, by omega, w1, w2⟩

end Go.Proofs.Ytoohnfcikapmlaa.Num27
