/-
  Plain arithmetic, without the model: numbers that fit many rests.
-/
import Derived.Test.YtoohnfcikapmlaaFoldA
namespace Go.Proofs.Ytoohnfcikapmlaa.Num14
set_option linter.unusedVariables false
open Go.Proofs.Ytoohnfcikapmlaa.Num Go.Proofs.Ytoohnfcikapmlaa.Num2 Go.Proofs.Ytoohnfcikapmlaa.Num8

/-- What divides a common multiple is made of what divides both. -/
theorem dvd_lcm_gcd {a b d : Nat} (ha : 1 ≤ a) (hd : 1 ≤ d) (h : d ∣ Nat.lcm a b) : d ∣ Nat.lcm (Nat.gcd a d) (Nat.gcd b d) := by
  have hx : 1 ≤ Nat.gcd a d := Nat.gcd_pos_of_pos_left _ ha
  have hg : Nat.gcd (Nat.gcd a d) (Nat.gcd b d) = Nat.gcd (Nat.gcd a b) d := by
    apply Nat.dvd_antisymm
    · refine Nat.dvd_gcd (Nat.dvd_gcd ?_ ?_) ?_
      · exact Nat.dvd_trans (Nat.gcd_dvd_left _ _) (Nat.gcd_dvd_left _ _)
      · exact Nat.dvd_trans (Nat.gcd_dvd_right _ _) (Nat.gcd_dvd_left _ _)
      · exact Nat.dvd_trans (Nat.gcd_dvd_left _ _) (Nat.gcd_dvd_right _ _)
    · refine Nat.dvd_gcd (Nat.dvd_gcd ?_ ?_) (Nat.dvd_gcd ?_ ?_)
      · exact Nat.dvd_trans (Nat.gcd_dvd_left _ _) (Nat.gcd_dvd_left _ _)
      · exact Nat.gcd_dvd_right _ _
      · exact Nat.dvd_trans (Nat.gcd_dvd_left _ _) (Nat.gcd_dvd_right _ _)
      · exact Nat.gcd_dvd_right _ _
  have hG : 1 ≤ Nat.gcd (Nat.gcd a b) d := Nat.gcd_pos_of_pos_right _ hd
  have e := Nat.gcd_mul_lcm (Nat.gcd a d) (Nat.gcd b d)
  rw [hg] at e
  have hD : Nat.gcd (Nat.gcd a b) d * d ∣ Nat.gcd a d * Nat.gcd b d := by
    rw [show Nat.gcd a d * Nat.gcd b d = Nat.gcd (a * Nat.gcd b d) (d * Nat.gcd b d) from (Nat.gcd_mul_right _ _ _).symm]
    have c1 : Nat.gcd (Nat.gcd a b) d ∣ a := Nat.dvd_trans (Nat.gcd_dvd_left _ _) (Nat.gcd_dvd_left _ _)
    have c2 : Nat.gcd (Nat.gcd a b) d ∣ b := Nat.dvd_trans (Nat.gcd_dvd_left _ _) (Nat.gcd_dvd_right _ _)
    have c3 : Nat.gcd (Nat.gcd a b) d ∣ d := Nat.gcd_dvd_right _ _
    have c4 : Nat.gcd (Nat.gcd a b) d ∣ Nat.gcd a b := Nat.gcd_dvd_left _ _
    refine Nat.dvd_gcd ?_ ?_
    · rw [show a * Nat.gcd b d = Nat.gcd (a * b) (a * d) from (Nat.gcd_mul_left _ _ _).symm]
      refine Nat.dvd_gcd ?_ ?_
      · have := Nat.gcd_mul_lcm a b
        rw [← this]
        exact Nat.mul_dvd_mul c4 h
      · exact Nat.mul_dvd_mul c1 (Nat.dvd_refl d)
    · rw [show d * Nat.gcd b d = Nat.gcd (d * b) (d * d) from (Nat.gcd_mul_left _ _ _).symm]
      refine Nat.dvd_gcd ?_ ?_
      · rw [Nat.mul_comm]; exact Nat.mul_dvd_mul (Nat.dvd_refl d) c2
      · exact Nat.mul_dvd_mul c3 (Nat.dvd_refl d)
  rw [← e] at hD
  exact Nat.dvd_of_mul_dvd_mul_left hG hD

/-- A rest, and whether a number fits it. -/
def Fits (x : Int) (r : Int × Nat) : Prop := (r.2 : Int) ∣ x - r.1

theorem fits_move {x y : Int} {r : Int × Nat} (h : Fits x r) : Fits y r ↔ (r.2 : Int) ∣ y - x := by
  unfold Fits at *
  constructor
  · intro h2
    have := Int.dvd_sub h2 h
    rwa [show y - r.1 - (x - r.1) = y - x by omega] at this
  · intro h2
    have := Int.dvd_add h2 h
    rwa [show y - x + (x - r.1) = y - r.1 by omega] at this

theorem int_lcm_dvd {a b : Nat} {z : Int} : ((Nat.lcm a b : Nat) : Int) ∣ z ↔ (a : Int) ∣ z ∧ (b : Int) ∣ z := by
  rw [Int.ofNat_dvd_left, Int.ofNat_dvd_left, Int.ofNat_dvd_left, Nat.lcm_dvd_iff]

/-- Two rests: when there is a number that fits both. -/
theorem two_fit {a b : Int} {m n : Nat} : (∃ x, Fits x (a, m) ∧ Fits x (b, n)) ↔ ((Nat.gcd m n : Nat) : Int) ∣ b - a := by
  constructor
  · rintro ⟨x, h1, h2⟩
    have d1 : ((Nat.gcd m n : Nat) : Int) ∣ (m : Int) := Int.ofNat_dvd.2 (Nat.gcd_dvd_left _ _)
    have d2 : ((Nat.gcd m n : Nat) : Int) ∣ (n : Int) := Int.ofNat_dvd.2 (Nat.gcd_dvd_right _ _)
    have := Int.dvd_sub (Int.dvd_trans d1 h1) (Int.dvd_trans d2 h2)
    rwa [show x - a - (x - b) = b - a by omega] at this
  · rintro ⟨c, hc⟩
    obtain ⟨u, v, huv⟩ := bez m n
    refine ⟨a + u * (m : Int) * c, ⟨u * c, ?_⟩, ⟨-(v * c), ?_⟩⟩
    · show a + u * (m : Int) * c - a = (m : Int) * (u * c)
      rw [show a + u * (m : Int) * c - a = u * (m : Int) * c by omega]
      ac_rfl
    · show a + u * (m : Int) * c - b = (n : Int) * -(v * c)
      have e : u * (m : Int) * c + v * (n : Int) * c = b - a := by rw [← Int.add_mul, huv, ← hc]
      have e2 : (n : Int) * -(v * c) = -(v * (n : Int) * c) := by rw [Int.mul_neg]; congr 1; ac_rfl
      rw [e2]; omega

/-- Two rests that some number fits are one. -/
theorem two_one {a b c : Int} {m n : Nat} (h1 : Fits c (a, m)) (h2 : Fits c (b, n)) (x : Int) : (Fits x (a, m) ∧ Fits x (b, n)) ↔ Fits x (c, Nat.lcm m n) := by
  rw [fits_move h1, fits_move h2]
  exact int_lcm_dvd.symm

theorem fits_mod {x : Int} {r : Int × Nat} (q : Int) (hq : (r.2 : Int) ∣ q - r.1) : Fits x (q, r.2) ↔ Fits x r := by
  have h : Fits q r := hq
  rw [fits_move h]; rfl

/-- The rest that stands for the first k ones of a list. -/
structure Sol (l : List (Int × Nat)) (k : Nat) (A : Int) (M : Nat) : Prop where
  pos : 1 ≤ M
  lo : 0 ≤ A
  hi : A < (M : Int)
  all : ∀ x, (∀ j, j < k → Fits x (l.getD j (0, 1))) ↔ Fits x (A, M)

theorem Sol.start (l : List (Int × Nat)) : Sol l 0 0 1 := ⟨by omega, by omega, by omega, fun x => ⟨fun _ => ⟨x, by simp⟩, fun _ j hj => by omega⟩⟩

theorem Sol.self {l : List (Int × Nat)} {k M : Nat} {A : Int} (h : Sol l k A M) : ∀ j, j < k → Fits A (l.getD j (0, 1)) :=
  (h.all A).2 ⟨0, by simp⟩

theorem Sol.next {l : List (Int × Nat)} {k M : Nat} {A C : Int} (h : Sol l k A M) (hn : 1 ≤ (l.getD k (0, 1)).2) (h1 : Fits C (A, M)) (h2 : Fits C (l.getD k (0, 1))) (hlo : 0 ≤ C) (hhi : C < ((Nat.lcm M (l.getD k (0, 1)).2 : Nat) : Int)) :
    Sol l (k + 1) C (Nat.lcm M (l.getD k (0, 1)).2) := by
  refine ⟨Nat.lcm_pos h.pos hn, hlo, hhi, fun x => ?_⟩
  have e := two_one h1 (b := (l.getD k (0, 1)).1) (n := (l.getD k (0, 1)).2) h2 x
  rw [← e, ← h.all x]
  constructor
  · intro ha
    exact ⟨fun j hj => ha j (by omega), ha k (by omega)⟩
  · rintro ⟨ha, hb⟩ j hj
    by_cases ej : j = k
    · subst ej; exact hb
    · exact ha j (by omega)

/-- There is a next one just if the new rest can be fitted. -/
theorem Sol.can {l : List (Int × Nat)} {k M : Nat} {A : Int} (h : Sol l k A M) : (∃ x, ∀ j, j < k + 1 → Fits x (l.getD j (0, 1))) ↔ ((Nat.gcd M (l.getD k (0, 1)).2 : Nat) : Int) ∣ (l.getD k (0, 1)).1 - A := by
  rw [← two_fit]
  constructor
  · rintro ⟨x, hx⟩
    exact ⟨x, (h.all x).1 (fun j hj => hx j (by omega)), hx k (by omega)⟩
  · rintro ⟨x, h1, h2⟩
    refine ⟨x, fun j hj => ?_⟩
    by_cases ej : j = k
    · subst ej; exact h2
    · exact (h.all x).2 h1 j (by omega)

/-- The common multiple of the first k moduli. -/
def lc (l : List (Int × Nat)) : Nat → Nat
  | 0 => 1
  | k + 1 => Nat.lcm (lc l k) (l.getD k (0, 1)).2

theorem lc_pos {l : List (Int × Nat)} (h : ∀ j, 1 ≤ (l.getD j (0, 1)).2) : ∀ k, 1 ≤ lc l k
  | 0 => Nat.le_refl _
  | k + 1 => Nat.lcm_pos (lc_pos h k) (h k)

theorem lc_mono {l : List (Int × Nat)} (h : ∀ j, 1 ≤ (l.getD j (0, 1)).2) : ∀ {i k : Nat}, i ≤ k → lc l i ∣ lc l k := by
  intro i k hik
  induction hik with
  | refl => exact Nat.dvd_refl _
  | step _ ih => exact Nat.dvd_trans ih (Nat.dvd_lcm_left _ _)

theorem lc_dvd {l : List (Int × Nat)} {k j : Nat} (hj : j < k) : (l.getD j (0, 1)).2 ∣ lc l k := by
  induction k with
  | zero => omega
  | succ k ih =>
    by_cases e : j = k
    · subst e; exact Nat.dvd_lcm_right _ _
    · exact Nat.dvd_trans (ih (by omega)) (Nat.dvd_lcm_left _ _)

theorem lc_least {l : List (Int × Nat)} {k z : Nat} (h : ∀ j, j < k → (l.getD j (0, 1)).2 ∣ z) : lc l k ∣ z := by
  induction k with
  | zero => exact Nat.one_dvd z
  | succ k ih => exact Nat.lcm_dvd (ih (fun j hj => h j (by omega))) (h k (by omega))

/-- What divides the common multiple and z is made of what divides each modulus and z. -/
theorem lc_gcd {l : List (Int × Nat)} (hp : ∀ j, 1 ≤ (l.getD j (0, 1)).2) {n : Nat} (hn : 1 ≤ n) {z : Int} : ∀ {k : Nat}, (∀ j, j < k → ((Nat.gcd (l.getD j (0, 1)).2 n : Nat) : Int) ∣ z) → ((Nat.gcd (lc l k) n : Nat) : Int) ∣ z := by
  intro k
  induction k with
  | zero => intro _; simp [lc]
  | succ k ih =>
    intro h
    have h1 := ih (fun j hj => h j (by omega))
    have h2 := h k (by omega)
    have hd : Nat.gcd (lc l (k + 1)) n ∣ Nat.lcm (Nat.gcd (lc l k) n) (Nat.gcd (l.getD k (0, 1)).2 n) := by
      have hD : 1 ≤ Nat.gcd (lc l (k + 1)) n := Nat.gcd_pos_of_pos_right _ hn
      have h3 := dvd_lcm_gcd (a := lc l k) (b := (l.getD k (0, 1)).2) (lc_pos hp k) hD (Nat.gcd_dvd_left _ _)
      refine Nat.dvd_trans h3 (Nat.lcm_dvd ?_ ?_)
      · exact Nat.dvd_trans (Nat.dvd_gcd (Nat.gcd_dvd_left _ _) (Nat.dvd_trans (Nat.gcd_dvd_right _ _) (Nat.gcd_dvd_right _ _))) (Nat.dvd_lcm_left _ _)
      · exact Nat.dvd_trans (Nat.dvd_gcd (Nat.gcd_dvd_left _ _) (Nat.dvd_trans (Nat.gcd_dvd_right _ _) (Nat.gcd_dvd_right _ _))) (Nat.dvd_lcm_right _ _)
    exact Int.dvd_trans (Int.ofNat_dvd.2 hd) (int_lcm_dvd.2 ⟨h1, h2⟩)

/-- Each two can be fitted. -/
def Pairs (l : List (Int × Nat)) (k : Nat) : Prop := ∀ i j, i < k → j < k → ((Nat.gcd (l.getD i (0, 1)).2 (l.getD j (0, 1)).2 : Nat) : Int) ∣ (l.getD i (0, 1)).1 - (l.getD j (0, 1)).1

theorem pairs_of {l : List (Int × Nat)} {k : Nat} (h : ∃ x, ∀ j, j < k → Fits x (l.getD j (0, 1))) : Pairs l k := by
  obtain ⟨x, hx⟩ := h
  intro i j hi hj
  have := (two_fit (a := (l.getD j (0, 1)).1) (b := (l.getD i (0, 1)).1) (m := (l.getD j (0, 1)).2) (n := (l.getD i (0, 1)).2)).1 ⟨x, hx j hj, hx i hi⟩
  rwa [Nat.gcd_comm] at this

/-- Each two that can be fitted: all can be. -/
theorem Sol.pairs {l : List (Int × Nat)} (hp : ∀ j, 1 ≤ (l.getD j (0, 1)).2) {k : Nat} {A : Int} (h : Sol l k A (lc l k)) (hP : Pairs l (k + 1)) : ((Nat.gcd (lc l k) (l.getD k (0, 1)).2 : Nat) : Int) ∣ (l.getD k (0, 1)).1 - A := by
  refine lc_gcd hp (hp k) (fun j hj => ?_)
  have h1 : ((Nat.gcd (l.getD j (0, 1)).2 (l.getD k (0, 1)).2 : Nat) : Int) ∣ A - (l.getD j (0, 1)).1 := Int.dvd_trans (Int.ofNat_dvd.2 (Nat.gcd_dvd_left _ _)) (h.self j hj)
  have h2 := hP j k (by omega) (by omega)
  have := Int.dvd_add h1 h2
  have h3 := (Int.dvd_neg).2 this
  rwa [show -(A - (l.getD j (0, 1)).1 + ((l.getD j (0, 1)).1 - (l.getD k (0, 1)).1)) = (l.getD k (0, 1)).1 - A by omega] at h3

/-- The rest is the only one. -/
theorem Sol.uniq {l l' : List (Int × Nat)} {k k' M M' : Nat} {A A' : Int} (h : Sol l k A M) (h' : Sol l' k' A' M') (e : ∀ x, (∀ j, j < k → Fits x (l.getD j (0, 1))) ↔ (∀ j, j < k' → Fits x (l'.getD j (0, 1)))) : A = A' ∧ M = M' := by
  have he : ∀ x, Fits x (A, M) ↔ Fits x (A', M') := fun x => by rw [← h.all, ← h'.all]; exact e x
  have h1 : Fits A (A', M') := (he A).1 ⟨0, by simp⟩
  have hM : M = M' := by
    have d1 : (M' : Int) ∣ (M : Int) := by
      have h2 : Fits (A + (M : Int)) (A', M') := (he _).1 ⟨1, by simp; omega⟩
      have := Int.dvd_sub h2 h1
      rwa [show A + (M : Int) - (A', M').1 - (A - (A', M').1) = (M : Int) by omega] at this
    have d2 : (M : Int) ∣ (M' : Int) := by
      have h3 : Fits A' (A, M) := (he A').2 ⟨0, by simp⟩
      have h2 : Fits (A' + (M' : Int)) (A, M) := (he _).2 ⟨1, by simp; omega⟩
      have := Int.dvd_sub h2 h3
      rwa [show A' + (M' : Int) - (A, M).1 - (A' - (A, M).1) = (M' : Int) by omega] at this
    exact Nat.dvd_antisymm (Int.ofNat_dvd.1 d2) (Int.ofNat_dvd.1 d1)
  subst hM
  refine ⟨?_, rfl⟩
  obtain ⟨c, hc⟩ := h1
  have hc' : A - A' = (M : Int) * c := hc
  have l1 := h.lo
  have l2 := h.hi
  have l3 := h'.lo
  have l4 := h'.hi
  have : c = 0 := by
    rcases Int.lt_trichotomy c 0 with h0 | h0 | h0
    · have : (M : Int) * c ≤ (M : Int) * (-1) := Int.mul_le_mul_of_nonneg_left (by omega) (by omega)
      omega
    · exact h0
    · have : (M : Int) * 1 ≤ (M : Int) * c := Int.mul_le_mul_of_nonneg_left (by omega) (by omega)
      omega
  subst this
  omega

end Go.Proofs.Ytoohnfcikapmlaa.Num14
