/-
  Plain arithmetic: identities of polynomials by their values; degrees and first numbers by a prime. (Ahead of Hasse.)
-/
import Derived.Test.YtpnmepobdnclkaaFoldB
namespace Go.Proofs.Ytpnmepobdnclkaa.Num45
set_option linter.unusedVariables false
open Go.Proofs.Ytpnmepobdnclkaa.Num Go.Proofs.Ytpnmepobdnclkaa.Num7 Go.Proofs.Ytpnmepobdnclkaa.Num16 Go.Proofs.Ytpnmepobdnclkaa.Num17 Go.Proofs.Ytpnmepobdnclkaa.Num34 Go.Proofs.Ytpnmepobdnclkaa.Num35

/-! ### lists that have one value everywhere -/

theorem big_dvd {c x : Int} (h : x ∣ c) (hx : c < x) (hx2 : -c < x) : c = 0 := by
  obtain ⟨k, hk⟩ := h
  rcases Int.lt_trichotomy k 0 with h1 | h1 | h1
  · have hx0 : 0 < x := by omega
    have : x * k ≤ x * (-1) := Int.mul_le_mul_of_nonneg_left (by omega) (by omega)
    omega
  · rw [h1, Int.mul_zero] at hk; exact hk
  · have hx0 : 0 < x := by omega
    have : x * 1 ≤ x * k := Int.mul_le_mul_of_nonneg_left (by omega) (by omega)
    omega

theorem zero_of_values : ∀ (d : List Int) (N : Int), (∀ x, N ≤ x → ev d x = 0) → ∀ i, co d i = 0
  | [], _, _, i => by simp [co]
  | c :: E, N, h, i => by
    have hc : c = 0 := by
      have h1 := h (N.natAbs + c.natAbs + 1) (by omega)
      have h2 : c + ((N.natAbs + c.natAbs + 1 : Nat) : Int) * ev E ((N.natAbs + c.natAbs + 1 : Nat) : Int) = 0 := h1
      refine big_dvd (x := ((N.natAbs + c.natAbs + 1 : Nat) : Int)) ⟨-ev E ((N.natAbs + c.natAbs + 1 : Nat) : Int), ?_⟩ (by omega) (by omega)
      rw [Int.mul_neg]; omega
    have hE : ∀ x, (N.natAbs : Int) + 1 ≤ x → ev E x = 0 := fun x hx => by
      have h1 : c + x * ev E x = 0 := h x (by omega)
      rw [hc, Int.zero_add] at h1
      rcases Int.mul_eq_zero.1 h1 with e | e
      · omega
      · exact e
    match i with
    | 0 => simpa [co] using hc
    | i + 1 =>
      have := zero_of_values E _ hE i
      simpa [co] using this

theorem eqv_of_ev {a b : List Int} (h : ∀ x, ev a x = ev b x) : Eqv a b := fun i => by
  have := zero_of_values (padd a (pneg b)) 0 (fun x _ => by rw [ev_padd, ev_pneg, h x]; omega) i
  rw [co_padd, co_pneg] at this
  omega

/-- An identity. -/
theorem q_of {p : Nat} {a b : List Int} (h : ∀ x, ev a x = ev b x) : Q p a b := Eqv.q (eqv_of_ev h)

/-- An identity out of one. -/
theorem q_of1 {p : Nat} {a b k u v : List Int} (hu : Q p u v) (h : ∀ x, ev a x - ev b x = ev k x * (ev u x - ev v x)) : Q p a b := by
  have e : Eqv (padd a (pneg b)) (pmul k (padd u (pneg v))) := eqv_of_ev (fun x => by
    rw [ev_padd, ev_pneg, ev_pmul, ev_padd, ev_pneg]
    have := h x
    rw [show ev u x + -ev v x = ev u x - ev v x by omega, ← this]; omega)
  have hz : Q p (padd u (pneg v)) [] := fun i => by
    rw [co_padd, co_pneg]
    have := hu i
    rw [show co u i + -co v i - co [] i = co u i - co v i by simp [co]; omega]
    exact this
  have h2 : Q p (padd a (pneg b)) [] := (Eqv.q e).trans (((Q.refl p k).pmul hz).trans (Eqv.q (pmul_nil k)))
  intro i
  have h3 := h2 i
  rw [co_padd, co_pneg] at h3
  rwa [show co a i + -co b i - co [] i = co a i - co b i by simp [co]; omega] at h3

/-! ### a degree at most, and the number there -/

/-- No number behind the place d; c there. -/
def Tp (p : Nat) (a : List Int) (d : Nat) (c : Int) : Prop := (∀ i, d < i → (p : Int) ∣ co a i) ∧ (p : Int) ∣ co a d - c

theorem Tp.q {p : Nat} {a b : List Int} {d : Nat} {c : Int} (h : Tp p a d c) (k : Q p a b) : Tp p b d c :=
  ⟨fun i hi => dvd_back (cong_sy (k i)) (h.1 i hi), cong_tr (cong_sy (k d)) h.2⟩

theorem Tp.c {p : Nat} {a : List Int} {d : Nat} {c c' : Int} (h : Tp p a d c) (k : (p : Int) ∣ c - c') : Tp p a d c' := ⟨h.1, cong_tr h.2 k⟩

theorem Tp.up {p : Nat} {a : List Int} {d e : Nat} {c : Int} (h : Tp p a d c) (k : d < e) : Tp p a e 0 :=
  ⟨fun i hi => h.1 i (by omega), by rw [Int.sub_zero]; exact h.1 e k⟩

theorem Tp.add {p : Nat} {a b : List Int} {d : Nat} {c c' : Int} (h : Tp p a d c) (k : Tp p b d c') : Tp p (padd a b) d (c + c') :=
  ⟨fun i hi => by rw [co_padd]; exact Int.dvd_add (h.1 i hi) (k.1 i hi), by rw [co_padd]; exact cong_add h.2 k.2⟩

theorem Tp.scale {p : Nat} {a : List Int} {d : Nat} {c : Int} (h : Tp p a d c) (z : Int) : Tp p (psc z a) d (z * c) :=
  ⟨fun i hi => by rw [co_psc]; exact Int.dvd_trans (h.1 i hi) (Int.dvd_mul_left _ _), by rw [co_psc]; exact cong_mul (by simp) h.2⟩

theorem Tp.neg {p : Nat} {a : List Int} {d : Nat} {c : Int} (h : Tp p a d c) : Tp p (pneg a) d (-c) := by
  have := h.scale (-1)
  rw [show (-1 : Int) * c = -c by omega] at this
  exact this

theorem Tp.nm {p : Nat} (hp : 1 ≤ p) {a : List Int} {d : Nat} {c : Int} (h : Tp p a d c) : Tp p (nm p a) d c := h.q (nm_q hp a).symm

theorem Tp.len {p : Nat} (hp : 1 ≤ p) {a : List Int} {d : Nat} {c : Int} (h : Tp p a d c) : (Go.Proofs.Ytpnmepobdnclkaa.Num17.nm p a).length ≤ d + 1 :=
  (nm_cn hp a).len_le hp (fun i hi => (h.nm hp).1 i (by omega))

theorem Tp.mul {p : Nat} (hp : 1 ≤ p) {a b : List Int} {d e : Nat} {c c' : Int} (h : Tp p a d c) (k : Tp p b e c') : Tp p (pmul a b) (d + e) (c * c') := by
  have hq : Q p (pmul (Go.Proofs.Ytpnmepobdnclkaa.Num17.nm p a) (Go.Proofs.Ytpnmepobdnclkaa.Num17.nm p b)) (pmul a b) := (nm_q hp a).pmul (nm_q hp b)
  have la := h.len hp
  have lb := k.len hp
  refine Tp.q ⟨fun i hi => ?_, ?_⟩ hq
  · have : co (pmul (Go.Proofs.Ytpnmepobdnclkaa.Num17.nm p a) (Go.Proofs.Ytpnmepobdnclkaa.Num17.nm p b)) i = 0 := mul_over (by omega)
    rw [this]; simp
  · rw [co_top la lb]
    exact cong_mul (h.nm hp).2 (k.nm hp).2

/-- The degree, where the number there is not 0. -/
theorem Tp.deg {p : Nat} (hp : 1 ≤ p) {a : List Int} {d : Nat} {c : Int} (h : Tp p a d c) (hc : ¬ (p : Int) ∣ c) : (Go.Proofs.Ytpnmepobdnclkaa.Num17.nm p a).length = d + 1 := by
  have l1 := h.len hp
  have l2 : d < (Go.Proofs.Ytpnmepobdnclkaa.Num17.nm p a).length := len_gt (p := p) (fun hd => hc (dvd_back (cong_sy (h.nm hp).2) hd))
  omega

theorem tp_of {p : Nat} (hp : 1 ≤ p) (a : List Int) {d : Nat} (h : (Go.Proofs.Ytpnmepobdnclkaa.Num17.nm p a).length ≤ d + 1) : Tp p a d (co a d) :=
  ⟨fun i hi => by
    have h1 := nm_q hp a i
    rw [co_over (by omega)] at h1
    exact dvd_back (cong_sy h1) (by simp), by simp⟩

end Go.Proofs.Ytpnmepobdnclkaa.Num45
