/-
  Plain arithmetic, without the model: polynomials by a prime: quotients are to be had; what divides both is made of both; binomial numbers.
-/
import Derived.Test.YtjpmkcijkcnfiaaNum17
import Derived.Test.YtjpmkcijkcnfiaaNum20
import Derived.Test.YtjpmkcijkcnfiaaNum2
namespace Go.Proofs.Ytjpmkcijkcnfiaa.Num21
set_option linter.unusedVariables false
open Go.Proofs.Ytjpmkcijkcnfiaa.Num Go.Proofs.Ytjpmkcijkcnfiaa.Num7 Go.Proofs.Ytjpmkcijkcnfiaa.Num16 Go.Proofs.Ytjpmkcijkcnfiaa.Num17

/-- Zeros ahead: times x so often. -/
def shn : Nat → List Int → List Int
  | 0, l => l
  | n + 1, l => 0 :: shn n l

theorem co_shn (l : List Int) : ∀ n i, co (shn n l) i = if i < n then 0 else co l (i - n)
  | 0, i => by simp [shn]
  | n + 1, 0 => by simp [shn, co_zero]
  | n + 1, i + 1 => by
    simp only [shn, co_succ]
    rw [co_shn l n i]
    by_cases h : i < n
    · rw [if_pos h, if_pos (by omega)]
    · rw [if_neg h, if_neg (by omega)]; congr 1; omega

theorem shn_length (l : List Int) : ∀ n, (shn n l).length = n + l.length
  | 0 => by simp [shn]
  | n + 1 => by simp [shn, shn_length l n]; omega

theorem pmul_shn (l b : List Int) : ∀ n, Eqv (pmul (shn n l) b) (shn n (pmul l b))
  | 0 => Eqv.refl _
  | n + 1 => (pmul_sh _ _).trans (sh_eqv (pmul_shn l b n))

/-- What makes 1 of a number that p does not divide. -/
theorem inv_int {p : Nat} (hp : Pr p) {x : Int} (h : ¬ (p : Int) ∣ x) : ∃ y : Int, (p : Int) ∣ x * y - 1 := by
  have hp1 := hp.1
  have hx : ¬ p ∣ (x % (p : Int)).toNat := fun hd => h (by
    have e : ((x % (p : Int)).toNat : Int) = x % (p : Int) := Int.toNat_of_nonneg (Int.emod_nonneg _ (by omega))
    have h1 : (p : Int) ∣ x % (p : Int) := by rw [← e]; exact Int.ofNat_dvd.2 hd
    exact Int.dvd_of_emod_eq_zero (by
      have h2 := Int.emod_eq_zero_of_dvd h1
      rwa [Int.emod_emod] at h2))
  obtain ⟨y, _, hy⟩ := Num2.inv_ex hp hx
  have e : ((x % (p : Int)).toNat : Int) = x % (p : Int) := Int.toNat_of_nonneg (Int.emod_nonneg _ (by omega))
  refine ⟨y, ?_⟩
  have h1 : (p : Int) ∣ (x % (p : Int)) * (y : Int) - 1 := by
    rw [← e]
    have h2 : (((x % (p : Int)).toNat * y : Nat) : Int) % (p : Int) = 1 := by exact_mod_cast hy
    refine ⟨(((x % (p : Int)).toNat * y : Nat) : Int) / (p : Int), ?_⟩
    have := Int.emod_add_mul_ediv (((x % (p : Int)).toNat * y : Nat) : Int) (p : Int)
    rw [Int.natCast_mul] at *
    omega
  have h3 : (p : Int) ∣ x - x % (p : Int) := ⟨x / (p : Int), by have := Int.emod_add_mul_ediv x (p : Int); omega⟩
  exact cong_tr (cong_mul h3 (by simp)) h1

theorem div_ex {p : Nat} (hp : Pr p) {b : List Int} (hb : Cn p b) (nb : b ≠ []) : ∀ (k : Nat) (a : List Int), (nm p a).length ≤ k → ∃ q r, Cn p q ∧ Cn p r ∧ r.length < b.length ∧ Q p a (padd (pmul q b) r) := by
  have hp1 := hp.1
  have lb := pos_of_ne nb
  obtain ⟨y, hy⟩ := inv_int hp (hb.top (by omega) nb)
  intro k
  induction k with
  | zero =>
    intro a ha
    have e : nm p a = [] := List.length_eq_zero_iff.1 (by omega)
    refine ⟨[], [], Cn.nil p, Cn.nil p, lb, ?_⟩
    have := nm_q (p := p) (by omega) a
    rw [e] at this
    exact this.symm
  | succ k ih =>
    intro a ha
    by_cases hl : (nm p a).length < b.length
    · exact ⟨[], nm p a, Cn.nil p, nm_cn (by omega) a, hl, (nm_q (by omega) a).symm⟩
    · -- the highest power is taken away
      obtain ⟨A, hA⟩ : ∃ A, nm p a = A := ⟨_, rfl⟩
      have cA : Cn p A := by rw [← hA]; exact nm_cn (by omega) a
      have qA : Q p A a := by rw [← hA]; exact nm_q (by omega) a
      rw [hA] at ha hl
      obtain ⟨c, hc⟩ : ∃ c, c = co A (A.length - 1) * y := ⟨_, rfl⟩
      obtain ⟨m, hm⟩ : ∃ m, m = A.length - b.length := ⟨_, rfl⟩
      have hlen : (nm p (padd A (pneg (pmul (shn m [c]) b)))).length ≤ k := by
        refine (nm_cn (by omega) _).len_le (by omega) (fun i hi => ?_)
        have h1 := nm_q (p := p) (by omega) (padd A (pneg (pmul (shn m [c]) b))) i
        refine (Int.dvd_add_right (b := -co (padd A (pneg (pmul (shn m [c]) b))) i) ?_).1 (by
          rw [show -co (padd A (pneg (pmul (shn m [c]) b))) i + co (nm p (padd A (pneg (pmul (shn m [c]) b)))) i = co (nm p (padd A (pneg (pmul (shn m [c]) b)))) i - co (padd A (pneg (pmul (shn m [c]) b))) i by omega]
          exact h1)
        apply (Int.dvd_neg).2
        rw [co_padd, co_pneg, (pmul_shn [c] b m) i, co_shn]
        have e1 : ∀ j, co (pmul [c] b) j = c * co b j := fun j => by
          have : co (pmul [c] b) j = co (psc c b) j + co [0] j := co_padd _ _ _
          rw [this, sh_nil j, co_nil, co_psc]; omega
        by_cases hi2 : A.length ≤ i
        · rw [co_over hi2, if_neg (by omega), e1, co_over (l := b) (by omega)]; simp
        · have hi3 : i = A.length - 1 := by omega
          rw [if_neg (by omega), e1, hi3, show A.length - 1 - m = b.length - 1 by omega, hc]
          have e2 : co A (A.length - 1) + -(co A (A.length - 1) * y * co b (b.length - 1)) = -(co A (A.length - 1) * (co b (b.length - 1) * y - 1)) := by
            rw [Int.mul_sub, Int.mul_one, Int.mul_assoc, Int.mul_comm y]; omega
          rw [e2]
          exact (Int.dvd_neg).2 (Int.dvd_mul_of_dvd_right hy)
      obtain ⟨q, r, hq, hr, hrl, h⟩ := ih _ hlen
      refine ⟨nm p (padd (shn m [c]) q), r, nm_cn (by omega) _, hr, hrl, ?_⟩
      refine qA.symm.trans ?_
      have h2 : Q p (pmul (nm p (padd (shn m [c]) q)) b) (padd (pmul (shn m [c]) b) (pmul q b)) :=
        ((nm_q (by omega) _).pmul (Q.refl p b)).trans (Eqv.q (pmul_padd _ _ _))
      intro i
      have h3 := h i
      have h4 := h2 i
      rw [co_padd] at h3 h4
      rw [co_pneg] at h3
      rw [co_padd] at h3
      rw [co_padd]
      have := Int.dvd_sub h3 h4
      rwa [show co A i + -co (pmul (shn m [c]) b) i - (co (pmul q b) i + co r i) - (co (pmul (nm p (padd (shn m [c]) q)) b) i - (co (pmul (shn m [c]) b) i + co (pmul q b) i)) = co A i - (co (pmul (nm p (padd (shn m [c]) q)) b) i + co r i) by omega] at this

/-- What divides both is made of both. -/
theorem bezout {p : Nat} (hp : Pr p) : ∀ (k : Nat) (a b : List Int), Cn p a → Cn p b → b.length ≤ k → ∃ g u v, Q p g (padd (pmul u a) (pmul v b)) ∧ Dv p g a ∧ Dv p g b := by
  have hp1 := hp.1
  intro k
  induction k with
  | zero =>
    intro a b ha hb hl
    have e : b = [] := List.length_eq_zero_iff.1 (by omega)
    subst e
    refine ⟨a, [1], [], ?_, Dv.self p a, Dv.nil p a⟩
    show Q p a (padd (pmul [1] a) [])
    rw [padd_nil]
    exact Eqv.q ((pmul_comm [1] a).trans (pmul_one a)).symm
  | succ k ih =>
    intro a b ha hb hl
    rcases Classical.em (b = []) with e | nb
    · subst e
      refine ⟨a, [1], [], ?_, Dv.self p a, Dv.nil p a⟩
      show Q p a (padd (pmul [1] a) [])
      rw [padd_nil]
      exact Eqv.q ((pmul_comm [1] a).trans (pmul_one a)).symm
    · obtain ⟨q, r, hq, hr, hrl, h⟩ := div_ex hp hb nb _ a (Nat.le_refl _)
      obtain ⟨g, u, v, h1, h2, h3⟩ := ih b r hb hr (by omega)
      obtain ⟨h4, h5⟩ := (dv_step h g).2 ⟨h2, h3⟩
      -- u b + v r = u b + v (a - q b) = v a + (u - v q) b
      refine ⟨g, v, padd u (pneg (pmul v q)), ?_, h4, h5⟩
      intro i
      have e1 := h1 i
      have e2 := ((Q.refl p v).pmul h) i
      rw [(pmul_padd_right v (pmul q b) r) i, co_padd] at e2
      rw [co_padd] at e1 ⊢
      have e3 : co (pmul (padd u (pneg (pmul v q))) b) i = co (pmul u b) i - co (pmul v (pmul q b)) i := by
        rw [(pmul_padd _ _ _) i, co_padd, show co (pmul (pneg (pmul v q)) b) i = _ from (pmul_psc (-1) (pmul v q) b) i, co_psc, (pmul_assoc v q b) i]; omega
      rw [e3]
      have := Int.dvd_sub e1 e2
      rwa [show co g i - (co (pmul u b) i + co (pmul v r) i) - (co (pmul v a) i - (co (pmul v (pmul q b)) i + co (pmul v r) i)) = co g i - (co (pmul v a) i + (co (pmul u b) i - co (pmul v (pmul q b)) i)) by omega] at this

/-- No product of two of a degree from 1 on. -/
def Irr (p : Nat) (f : List Int) : Prop := ∀ a b, Cn p a → Cn p b → 2 ≤ a.length → 2 ≤ b.length → ¬ Q p (pmul a b) f

/-- By such a one each shorter one but none has what makes 1 of it. -/
theorem irr_inv {p : Nat} (hp : Pr p) {f a : List Int} (hf : Cn p f) (hfl : 2 ≤ f.length) (hI : Irr p f) (ha : Cn p a) (na : a ≠ []) (hl : a.length < f.length) : ∃ u v, Q p (padd (pmul u a) (pmul v f)) [1] := by
  have hp1 := hp.1
  obtain ⟨g, u, v, h1, h2, h3⟩ := bezout hp _ a f ha hf (Nat.le_refl _)
  have nf : f ≠ [] := fun e => by rw [e] at hfl; simp at hfl
  obtain ⟨G, hG⟩ : ∃ G, nm p g = G := ⟨_, rfl⟩
  have cG : Cn p G := by rw [← hG]; exact nm_cn (by omega) g
  have qG : Q p G g := by rw [← hG]; exact nm_q (by omega) g
  obtain ⟨c, c1, c2, c3, c4, c5⟩ := (h3.cong qG.symm).len hp cG hf nf
  obtain ⟨d, d1, d2, d3, d4, d5⟩ := (h2.cong qG.symm).len hp cG ha na
  have lc := pos_of_ne c2
  have ld := pos_of_ne d2
  have lG := pos_of_ne c3
  have hG1 : G.length = 1 := by
    rcases Nat.lt_or_ge G.length 2 with h | h
    · omega
    · exact absurd c4 (hI G c cG c1 h (by omega))
  obtain ⟨x, rfl⟩ : ∃ x, G = [x] := by
    match G, hG1 with
    | [x], _ => exact ⟨x, rfl⟩
  have hx : ¬ (p : Int) ∣ x := by
    have := cG.top (by omega) c3
    simpa [co_zero] using this
  obtain ⟨y, hy⟩ := inv_int hp hx
  refine ⟨psc y u, psc y v, ?_⟩
  have h4 := qG.trans h1
  intro i
  have e1 := h4 i
  rw [co_padd] at e1
  rw [co_padd, (pmul_psc y u a) i, (pmul_psc y v f) i, co_psc, co_psc]
  have e2 := cong_mul (show (p : Int) ∣ y - y by simp) e1
  rw [Int.mul_add] at e2
  refine cong_tr (cong_sy e2) ?_
  match i with
  | 0 => rw [co_zero, co_zero, Int.mul_comm]; exact hy
  | i + 1 => rw [co_succ, co_succ, co_nil]; simp

/-! ### binomial numbers -/

def ch : Nat → Nat → Nat
  | _, 0 => 1
  | 0, _ + 1 => 0
  | n + 1, k + 1 => ch n k + ch n (k + 1)

theorem ch_zero (n : Nat) : ch n 0 = 1 := by cases n <;> rfl

theorem ch_over : ∀ {n k : Nat}, n < k → ch n k = 0
  | 0, k + 1, _ => rfl
  | n + 1, k + 1, h => by show ch n k + ch n (k + 1) = 0; rw [ch_over (by omega), ch_over (by omega)]

theorem ch_self : ∀ n, ch n n = 1
  | 0 => rfl
  | n + 1 => by show ch n n + ch n (n + 1) = 1; rw [ch_self n, ch_over (by omega)]

theorem ch_absorb : ∀ n k, (k + 1) * ch (n + 1) (k + 1) = (n + 1) * ch n k
  | 0, 0 => rfl
  | 0, k + 1 => by
    show (k + 1 + 1) * (0 + 0) = (0 + 1) * 0
    omega
  | n + 1, 0 => by
    have ih : ch (n + 1) 1 = n + 1 := by
      have := ch_absorb n 0
      rw [ch_zero] at this
      simpa using this
    rw [ch_zero]
    show (0 + 1) * (ch (n + 1) 0 + ch (n + 1) 1) = (n + 1 + 1) * 1
    rw [ch_zero, ih]; omega
  | n + 1, k + 1 => by
    have ih1 := ch_absorb n k
    have ih2 := ch_absorb n (k + 1)
    show (k + 1 + 1) * (ch (n + 1) (k + 1) + ch (n + 1) (k + 1 + 1)) = (n + 1 + 1) * ch (n + 1) (k + 1)
    have e : ch (n + 1) (k + 1) = ch n k + ch n (k + 1) := rfl
    have e1 : (k + 1 + 1) * (ch (n + 1) (k + 1) + ch (n + 1) (k + 1 + 1)) = (k + 1) * ch (n + 1) (k + 1) + ch (n + 1) (k + 1) + (k + 1 + 1) * ch (n + 1) (k + 1 + 1) := by
      rw [Nat.mul_add, Nat.succ_mul (k + 1)]
    have e2 : (n + 1 + 1) * ch (n + 1) (k + 1) = (n + 1) * ch n k + (n + 1) * ch n (k + 1) + ch (n + 1) (k + 1) := by
      rw [Nat.succ_mul, e, Nat.mul_add]
    rw [e1, e2, ih1, ih2]; omega

theorem ch_dvd {p k : Nat} (hp : Pr p) (h0 : 1 ≤ k) (h1 : k < p) : p ∣ ch p k := by
  obtain ⟨j, rfl⟩ : ∃ j, k = j + 1 := ⟨k - 1, by omega⟩
  have hp1 := hp.1
  have := ch_absorb (p - 1) j
  rw [show p - 1 + 1 = p by omega] at this
  rcases hp.dvd_mul (show p ∣ (j + 1) * ch p (j + 1) from ⟨ch (p - 1) j, this⟩) with h | h
  · have := Nat.le_of_dvd (by omega) h; omega
  · exact h

end Go.Proofs.Ytjpmkcijkcnfiaa.Num21
