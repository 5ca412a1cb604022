/-
  Plain arithmetic, without the model: polynomials by a prime: their one form, products and quotients, what divides them, their values.
-/
import Derived.Test.YtjpmkcijkcnfiaaNum16
namespace Go.Proofs.Ytjpmkcijkcnfiaa.Num17
set_option linter.unusedVariables false
open Go.Proofs.Ytjpmkcijkcnfiaa.Num Go.Proofs.Ytjpmkcijkcnfiaa.Num7 Go.Proofs.Ytjpmkcijkcnfiaa.Num16

theorem cong_mul {n a b c d : Int} (h1 : n ∣ a - b) (h2 : n ∣ c - d) : n ∣ a * c - b * d := by
  have e : a * c - b * d = (a - b) * c + b * (c - d) := by rw [Int.sub_mul, Int.mul_sub]; omega
  rw [e]
  exact Int.dvd_add (Int.dvd_mul_of_dvd_left h1) (Int.dvd_mul_of_dvd_right h2)

theorem cong_add {n a b c d : Int} (h1 : n ∣ a - b) (h2 : n ∣ c - d) : n ∣ (a + c) - (b + d) := by
  have := Int.dvd_add h1 h2
  rwa [show a - b + (c - d) = a + c - (b + d) by omega] at this

theorem cong_tr {n a b c : Int} (h1 : n ∣ a - b) (h2 : n ∣ b - c) : n ∣ a - c := by
  have := Int.dvd_add h1 h2
  rwa [show a - b + (b - c) = a - c by omega] at this

theorem cong_sy {n a b : Int} (h : n ∣ a - b) : n ∣ b - a := by
  have := (Int.dvd_neg).2 h
  rwa [show -(a - b) = b - a by omega] at this

/-- The same by p, at all places. -/
def Q (p : Nat) (a b : List Int) : Prop := ∀ i, (p : Int) ∣ co a i - co b i

theorem Q.refl (p : Nat) (a : List Int) : Q p a a := fun i => by simp
theorem Q.symm {p : Nat} {a b : List Int} (h : Q p a b) : Q p b a := fun i => cong_sy (h i)
theorem Q.trans {p : Nat} {a b c : List Int} (h : Q p a b) (k : Q p b c) : Q p a c := fun i => cong_tr (h i) (k i)
theorem Eqv.q {p : Nat} {a b : List Int} (h : Eqv a b) : Q p a b := fun i => by rw [h i]; simp

theorem Q.padd {p : Nat} {a a' b b' : List Int} (h : Q p a a') (k : Q p b b') : Q p (padd a b) (padd a' b') := fun i => by
  rw [co_padd, co_padd]; exact cong_add (h i) (k i)

theorem Q.psc {p : Nat} {a a' : List Int} {k k' : Int} (hk : (p : Int) ∣ k - k') (h : Q p a a') : Q p (psc k a) (psc k' a') := fun i => by
  rw [co_psc, co_psc]; exact cong_mul hk (h i)

theorem sm_cong {n : Int} {f g : Nat → Int} : ∀ {k : Nat}, (∀ i, i ≤ k → n ∣ f i - g i) → n ∣ sm f k - sm g k
  | 0, h => h 0 (Nat.le_refl _)
  | k + 1, h => cong_add (sm_cong (fun i hi => h i (by omega))) (h (k + 1) (Nat.le_refl _))

theorem Q.pmul {p : Nat} {a a' b b' : List Int} (h : Q p a a') (k : Q p b b') : Q p (pmul a b) (pmul a' b') := fun i => by
  rw [co_pmul, co_pmul]
  exact sm_cong (fun j _ => cong_mul (h j) (k (i - j)))

/-! ### the one form -/

/-- Numbers from 0 to p - 1, the last one of which is not 0. -/
def Cn (p : Nat) (l : List Int) : Prop := (∀ x ∈ l, 0 ≤ x ∧ x < (p : Int)) ∧ (l ≠ [] → co l (l.length - 1) ≠ 0)

theorem Cn.nil (p : Nat) : Cn p [] := ⟨by simp, fun h => absurd rfl h⟩

theorem Cn.bd {p : Nat} {l : List Int} (hp : 1 ≤ p) (h : Cn p l) (i : Nat) : 0 ≤ co l i ∧ co l i < (p : Int) := by
  by_cases hi : i < l.length
  · exact h.1 _ (co_mem hi)
  · rw [co_over (by omega)]; omega

theorem small_of {p : Nat} {x y : Int} (h : (p : Int) ∣ x - y) (hx : 0 ≤ x ∧ x < (p : Int)) (hy : 0 ≤ y ∧ y < (p : Int)) : x = y := by
  obtain ⟨c, hc⟩ := h
  have : c = 0 := by
    rcases Int.lt_trichotomy c 0 with h0 | h0 | h0
    · have : (p : Int) * c ≤ (p : Int) * (-1) := Int.mul_le_mul_of_nonneg_left (by omega) (by omega)
      omega
    · exact h0
    · have : (p : Int) * 1 ≤ (p : Int) * c := Int.mul_le_mul_of_nonneg_left (by omega) (by omega)
      omega
  subst this
  omega

theorem Cn.len_le {p : Nat} {c : List Int} (hp : 1 ≤ p) (hc : Cn p c) {k : Nat} (h : ∀ i, k ≤ i → (p : Int) ∣ co c i) : c.length ≤ k := by
  rcases Nat.lt_or_ge k c.length with hk | hk
  · exfalso
    have h1 := h (c.length - 1) (by omega)
    have h2 := hc.bd hp (c.length - 1)
    have h3 : co c (c.length - 1) = 0 := small_of (y := 0) (by simpa using h1) h2 ⟨by omega, by omega⟩
    exact hc.2 (by intro e; subst e; simp at hk) h3
  · exact hk

theorem len_gt {p : Nat} {c : List Int} {i : Nat} (h : ¬ (p : Int) ∣ co c i) : i < c.length := by
  rcases Nat.lt_or_ge i c.length with hk | hk
  · exact hk
  · rw [co_over hk] at h; simp at h

theorem Cn.top {p : Nat} {c : List Int} (hp : 1 ≤ p) (hc : Cn p c) (hne : c ≠ []) : ¬ (p : Int) ∣ co c (c.length - 1) := fun h =>
  hc.2 hne (small_of (y := 0) (by simpa using h) (hc.bd hp _) ⟨by omega, by omega⟩)

theorem Cn.uniq {p : Nat} {a b : List Int} (hp : 1 ≤ p) (ha : Cn p a) (hb : Cn p b) (h : Q p a b) : a = b := by
  have e : ∀ i, co a i = co b i := fun i => small_of (h i) (ha.bd hp i) (hb.bd hp i)
  have hl : a.length = b.length := by
    have h1 : a.length ≤ b.length := ha.len_le hp (fun i hi => by rw [e i, co_over hi]; simp)
    have h2 : b.length ≤ a.length := hb.len_le hp (fun i hi => by rw [← e i, co_over hi]; simp)
    omega
  refine List.ext_getElem hl (fun i h1 h2 => ?_)
  have := e i
  simpa [co, List.getD, h1, h2] using this

/-- Zeros at the end are left out. -/
def tr : List Int → List Int
  | [] => []
  | x :: xs => if x = 0 ∧ tr xs = [] then [] else x :: tr xs

theorem co_tr : ∀ (l : List Int) (i : Nat), co (tr l) i = co l i
  | [], i => rfl
  | x :: xs, i => by
    unfold tr
    by_cases h : x = 0 ∧ tr xs = []
    · rw [if_pos h]
      match i with
      | 0 => rw [co_nil, co_zero]; exact h.1.symm
      | i + 1 => rw [co_nil, co_succ, ← co_tr xs i, h.2, co_nil]
    · rw [if_neg h]
      match i with
      | 0 => rw [co_zero, co_zero]
      | i + 1 => rw [co_succ, co_succ]; exact co_tr xs i

theorem tr_last : ∀ (l : List Int), tr l ≠ [] → co (tr l) ((tr l).length - 1) ≠ 0
  | [], h => absurd rfl h
  | x :: xs, h => by
    unfold tr at h ⊢
    by_cases hx : x = 0 ∧ tr xs = []
    · rw [if_pos hx] at h; exact absurd rfl h
    · rw [if_neg hx] at h ⊢
      cases ht : tr xs with
      | nil =>
        rw [ht] at hx
        simp only [List.length_cons, List.length_nil, Nat.zero_add, Nat.sub_self]
        rw [co_zero]
        intro e; exact hx ⟨e, rfl⟩
      | cons y ys =>
        have ih := tr_last xs (by rw [ht]; simp)
        rw [ht] at ih
        simp only [List.length_cons, Nat.add_sub_cancel] at ih ⊢
        rw [co_succ]; exact ih

theorem tr_mem {x : Int} : ∀ (l : List Int), x ∈ tr l → x ∈ l
  | [], h => h
  | y :: ys, h => by
    unfold tr at h
    by_cases hx : y = 0 ∧ tr ys = []
    · rw [if_pos hx] at h; simp at h
    · rw [if_neg hx] at h
      rcases List.mem_cons.1 h with e | e
      · exact List.mem_cons.2 (.inl e)
      · exact List.mem_cons.2 (.inr (tr_mem ys e))

theorem tr_length : ∀ (l : List Int), (tr l).length ≤ l.length
  | [] => Nat.le_refl _
  | y :: ys => by
    unfold tr
    split
    · simp
    · simp; exact tr_length ys

/-- The one form of a list by p. -/
def nm (p : Nat) (l : List Int) : List Int := tr (l.map (· % (p : Int)))

theorem nm_q {p : Nat} (hp : 1 ≤ p) (l : List Int) : Q p (nm p l) l := fun i => by
  unfold nm
  rw [co_tr]
  have : co (l.map (· % (p : Int))) i = co l i % (p : Int) := by
    simp only [co, List.getD, List.getElem?_map]
    cases l[i]? <;> simp
  rw [this]
  exact ⟨-(co l i / (p : Int)), by rw [Int.emod_def]; rw [Int.mul_neg]; omega⟩

theorem nm_cn {p : Nat} (hp : 1 ≤ p) (l : List Int) : Cn p (nm p l) := by
  refine ⟨fun x hx => ?_, fun h => tr_last _ h⟩
  obtain ⟨y, _, rfl⟩ := List.mem_map.1 (tr_mem _ hx)
  exact ⟨Int.emod_nonneg _ (by omega), Int.emod_lt_of_pos _ (by omega)⟩

theorem nm_length (p : Nat) (l : List Int) : (nm p l).length ≤ l.length := by
  have := tr_length (l.map (· % (p : Int)))
  simpa [nm] using this

theorem nm_eq {p : Nat} (hp : 1 ≤ p) {a b : List Int} (h : Q p a b) : nm p a = nm p b :=
  (nm_cn hp a).uniq hp (nm_cn hp b) ((nm_q hp a).trans (h.trans (nm_q hp b).symm))

theorem nm_self {p : Nat} (hp : 1 ≤ p) {a : List Int} (h : Cn p a) : nm p a = a := (nm_cn hp a).uniq hp h (nm_q hp a)

theorem nm_of {p : Nat} (hp : 1 ≤ p) {a b : List Int} (h : Cn p a) (hq : Q p a b) : nm p b = a := (nm_cn hp b).uniq hp h ((nm_q hp b).trans hq.symm)

/-- Numbers in bounds, zeros left out: the one form. -/
theorem tr_cn {p : Nat} {l : List Int} (h : ∀ x ∈ l, 0 ≤ x ∧ x < (p : Int)) : Cn p (tr l) := ⟨fun x hx => h x (tr_mem _ hx), tr_last l⟩

theorem tr_q (p : Nat) (l : List Int) : Q p (tr l) l := fun i => by rw [co_tr]; simp

/-! ### products -/

theorem top_mul {p : Nat} (hp : Pr p) {a b : List Int} (ha : Cn p a) (hb : Cn p b) (na : a ≠ []) (nb : b ≠ []) : ¬ (p : Int) ∣ co (pmul a b) ((a.length - 1) + (b.length - 1)) := by
  have hp1 := hp.1
  rw [co_top (by omega) (by omega)]
  intro h
  rcases int_dvd_mul hp h with h | h
  · exact ha.top (by omega) na h
  · exact hb.top (by omega) nb h

theorem pos_of_ne {a : List Int} (h : a ≠ []) : 1 ≤ a.length := by
  cases a with
  | nil => exact absurd rfl h
  | cons x a => simp

theorem mul_len {p : Nat} (hp : Pr p) {a b : List Int} (ha : Cn p a) (hb : Cn p b) (na : a ≠ []) (nb : b ≠ []) : (nm p (pmul a b)).length = a.length + b.length - 1 := by
  have hp1 := hp.1
  have hq := nm_q (p := p) (by omega) (pmul a b)
  have la := pos_of_ne na
  have lb := pos_of_ne nb
  have h1 : (a.length - 1) + (b.length - 1) < (nm p (pmul a b)).length := len_gt (p := p) (fun h => top_mul hp ha hb na nb (by
    have := Int.dvd_sub h (hq ((a.length - 1) + (b.length - 1)))
    rwa [show ∀ x y : Int, x - (x - y) = y from fun x y => by omega] at this))
  have h2 := nm_length p (pmul a b)
  rw [pmul_length a b nb na] at h2
  omega

/-- Quotient and rest are the only ones. -/
theorem div_uniq {p : Nat} (hp : Pr p) {b q r q' r' : List Int} (hb : Cn p b) (nb : b ≠ []) (hq : Cn p q) (hr : Cn p r) (hq' : Cn p q') (hr' : Cn p r') (l1 : r.length < b.length) (l2 : r'.length < b.length)
    (h : Q p (padd (pmul q b) r) (padd (pmul q' b) r')) : q = q' ∧ r = r' := by
  have hp1 := hp.1
  obtain ⟨s, hs⟩ : ∃ s, nm p (padd q (pneg q')) = s := ⟨_, rfl⟩
  have cs : Cn p s := by rw [← hs]; exact nm_cn (by omega) _
  have qs : Q p s (padd q (pneg q')) := by rw [← hs]; exact nm_q (by omega) _
  have key : ∀ i, (p : Int) ∣ co (pmul s b) i - (co r' i - co r i) := fun i => by
    have e1 := (qs.pmul (Q.refl p b)) i
    have e2 : co (pmul (padd q (pneg q')) b) i = co (pmul q b) i - co (pmul q' b) i := by
      rw [(pmul_padd q (pneg q') b) i, co_padd, show co (pmul (pneg q') b) i = _ from (pmul_psc (-1) q' b) i, co_psc]; omega
    rw [e2] at e1
    have e3 := h i
    rw [co_padd, co_padd] at e3
    have := Int.dvd_add e1 e3
    rwa [show co (pmul s b) i - (co (pmul q b) i - co (pmul q' b) i) + (co (pmul q b) i + co r i - (co (pmul q' b) i + co r' i)) = co (pmul s b) i - (co r' i - co r i) by omega] at this
  have s0 : s = [] := by
    rcases Classical.em (s = []) with e | ns
    · exact e
    · exfalso
      have lb := pos_of_ne nb
      have k := key ((s.length - 1) + (b.length - 1))
      rw [co_over (l := r) (by omega), co_over (l := r') (by omega)] at k
      exact top_mul hp cs hb ns nb (by simpa using k)
  subst s0
  have e1 : Q p q q' := fun i => by
    have := qs i
    rw [co_nil, co_padd, co_pneg] at this
    have h2 := cong_sy this
    rwa [show co q i + -co q' i - 0 = co q i - co q' i by omega] at h2
  have e2 : Q p r r' := fun i => by
    have := key i
    have h0 : co (pmul [] b) i = 0 := co_nil i
    rw [h0] at this
    have h2 := this
    rwa [show (0 : Int) - (co r' i - co r i) = co r i - co r' i by omega] at h2
  exact ⟨hq.uniq (by omega) hq' e1, hr.uniq (by omega) hr' e2⟩

/-! ### what divides -/

def Dv (p : Nat) (d a : List Int) : Prop := ∃ c, Q p (pmul d c) a

theorem Dv.q {p : Nat} {d a a' : List Int} (h : Dv p d a) (k : Q p a a') : Dv p d a' := by
  obtain ⟨c, hc⟩ := h; exact ⟨c, hc.trans k⟩

theorem Dv.add {p : Nat} {d a b : List Int} (h : Dv p d a) (k : Dv p d b) : Dv p d (padd a b) := by
  obtain ⟨c, hc⟩ := h
  obtain ⟨e, he⟩ := k
  exact ⟨padd c e, (Eqv.q (pmul_padd_right d c e)).trans (hc.padd he)⟩

theorem Dv.mul {p : Nat} {d a : List Int} (h : Dv p d a) (q : List Int) : Dv p d (pmul q a) := by
  obtain ⟨c, hc⟩ := h
  refine ⟨pmul c q, (Eqv.q (pmul_assoc d c q)).symm.trans ((hc.pmul (Q.refl p q)).trans (Eqv.q (pmul_comm a q)))⟩

theorem Dv.nil (p : Nat) (d : List Int) : Dv p d [] := ⟨[], Eqv.q (pmul_nil d)⟩

theorem Dv.self (p : Nat) (d : List Int) : Dv p d d := ⟨[1], Eqv.q (pmul_one d)⟩

theorem Dv.trans {p : Nat} {d a b : List Int} (h : Dv p d a) (k : Dv p a b) : Dv p d b := by
  obtain ⟨c, hc⟩ := k
  exact ((h.mul c).q (Eqv.q (pmul_comm c a))).q hc

theorem Dv.cong {p : Nat} {d d' a : List Int} (h : Dv p d a) (k : Q p d d') : Dv p d' a := by
  obtain ⟨c, hc⟩ := h
  exact ⟨c, (k.symm.pmul (Q.refl p c)).trans hc⟩

theorem pmul_one_left (a : List Int) : Eqv (pmul [-1] a) (pneg a) := fun i => by
  have : co (pmul [-1] a) i = co (psc (-1) a) i + co [0] i := co_padd _ _ _
  rw [this, sh_nil i, co_nil]; show _ = co (psc (-1) a) i; omega

theorem Dv.neg {p : Nat} {d a : List Int} (h : Dv p d a) : Dv p d (pneg a) := (h.mul [-1]).q (Eqv.q (pmul_one_left a))

/-- A step of Euclid's: the same divide both. -/
theorem dv_step {p : Nat} {a b q r : List Int} (h : Q p a (padd (pmul q b) r)) (d : List Int) : (Dv p d a ∧ Dv p d b) ↔ (Dv p d b ∧ Dv p d r) := by
  constructor
  · rintro ⟨h1, h2⟩
    refine ⟨h2, ?_⟩
    have h3 := h1.add (h2.mul q).neg
    refine h3.q (fun i => ?_)
    have := h i
    rw [co_padd] at this
    rw [co_padd, co_pneg]
    rwa [show co a i + -co (pmul q b) i - co r i = co a i - (co (pmul q b) i + co r i) by omega]
  · rintro ⟨h1, h2⟩
    exact ⟨((h1.mul q).add h2).q h.symm, h1⟩

/-- It divides just if nothing is left. -/
theorem dv_iff {p : Nat} (hp : Pr p) {a b q r : List Int} (hb : Cn p b) (nb : b ≠ []) (hq : Cn p q) (hr : Cn p r) (l1 : r.length < b.length) (h : Q p a (padd (pmul q b) r)) : Dv p b a ↔ r = [] := by
  have hp1 := hp.1
  constructor
  · rintro ⟨c, hc⟩
    have h2 : Q p (padd (pmul q b) r) (padd (pmul (nm p c) b) []) := by
      refine h.symm.trans (hc.symm.trans ?_)
      rw [padd_nil]
      exact (Eqv.q (pmul_comm b c)).trans ((nm_q (by omega) c).symm.pmul (Q.refl p b))
    exact (div_uniq hp hb nb hq hr (nm_cn (by omega) c) (Cn.nil p) l1 (pos_of_ne nb) h2).2
  · intro e
    subst e
    rw [padd_nil] at h
    exact ⟨q, (Eqv.q (pmul_comm b q)).trans h.symm⟩

theorem Dv.len {p : Nat} (hp : Pr p) {a b : List Int} (ha : Cn p a) (hb : Cn p b) (nb : b ≠ []) (h : Dv p a b) : ∃ c, Cn p c ∧ c ≠ [] ∧ a ≠ [] ∧ Q p (pmul a c) b ∧ b.length = a.length + c.length - 1 := by
  have hp1 := hp.1
  obtain ⟨c, hc⟩ := h
  have hc2 : Q p (pmul a (nm p c)) b := ((Q.refl p a).pmul (nm_q (by omega) c)).trans hc
  have cc := nm_cn (p := p) (by omega) c
  have ne : ∀ {x : List Int}, Q p x b → Q p x [] → False := fun {x} h1 h2 => by
    have h3 := h1.symm.trans h2
    exact nb (hb.uniq (by omega) (Cn.nil p) h3)
  have na : a ≠ [] := fun e => ne hc2 (by rw [e]; exact Q.refl p _)
  have nc : nm p c ≠ [] := fun e => ne hc2 (by rw [e]; exact Eqv.q (pmul_nil a))
  refine ⟨nm p c, cc, nc, na, hc2, ?_⟩
  rw [← mul_len hp ha cc na nc, nm_of (by omega) hb hc2.symm]

/-- Two that divide each other, both with the last number 1, are the same. -/
theorem dv_anti {p : Nat} (hp : Pr p) {a b : List Int} (ha : Cn p a) (hb : Cn p b) (na : a ≠ []) (nb : b ≠ []) (ta : co a (a.length - 1) = 1) (tb : co b (b.length - 1) = 1) (h : Dv p a b) (k : Dv p b a) : a = b := by
  have hp1 := hp.1
  obtain ⟨c, c1, c2, _, c4, c5⟩ := h.len hp ha hb nb
  obtain ⟨e, e1, e2, _, e4, e5⟩ := k.len hp hb ha na
  have lc := pos_of_ne c2
  have le := pos_of_ne e2
  have la := pos_of_ne na
  have lb := pos_of_ne nb
  have hc1 : c.length = 1 := by omega
  obtain ⟨x, rfl⟩ : ∃ x, c = [x] := by
    match c, hc1 with
    | [x], _ => exact ⟨x, rfl⟩
  have hx := c1.1 x (by simp)
  have ht := c4 (b.length - 1)
  rw [show b.length - 1 = (a.length - 1) + 0 by omega, co_top (by omega) (by simp), co_zero, ta] at ht
  rw [show (a.length - 1) + 0 = b.length - 1 by omega, tb, Int.one_mul] at ht
  have hx1 : x = 1 := small_of ht ⟨hx.1, hx.2⟩ ⟨by omega, by omega⟩
  subst hx1
  exact ha.uniq (by omega) hb ((Eqv.q (pmul_one a)).symm.trans c4)

/-! ### values -/

theorem ev_dvd {n : Int} (x : Int) : ∀ {a : List Int}, (∀ i, n ∣ co a i) → n ∣ ev a x
  | [], _ => by simp [ev]
  | c :: a, h => by
    have h0 := h 0
    rw [co_zero] at h0
    exact Int.dvd_add h0 (Int.dvd_mul_of_dvd_right (ev_dvd x (fun i => by have := h (i + 1); rwa [co_succ] at this)))

theorem ev_pneg (x : Int) (a : List Int) : ev (pneg a) x = -ev a x := by
  unfold pneg; rw [ev_psc]; omega

theorem Q.ev {p : Nat} {a b : List Int} (h : Q p a b) (x : Int) : (p : Int) ∣ ev a x - ev b x := by
  have h1 : (p : Int) ∣ Num7.ev (Num16.padd a (pneg b)) x := ev_dvd x (fun i => by
    rw [co_padd, co_pneg]; have := h i; rwa [show co a i + -co b i = co a i - co b i by omega])
  rw [ev_padd, ev_pneg] at h1
  rwa [show Num7.ev a x + -Num7.ev b x = Num7.ev a x - Num7.ev b x by omega] at h1

theorem ev_cong {n x y : Int} (h : n ∣ x - y) : ∀ a : List Int, n ∣ ev a x - ev a y
  | [] => by simp [Num7.ev]
  | c :: a => cong_add (by simp) (cong_mul h (ev_cong h a))

/-- Two that are the same at as many places as they have numbers are the same. -/
theorem same_of_values {p : Nat} (hp : Pr p) {a b : List Int} (ha : Cn p a) (hb : Cn p b) {S : List Int} (la : a.length ≤ S.length) (lb : b.length ≤ S.length) (hS : S.Pairwise (fun x y => ¬ (p : Int) ∣ x - y)) (h : ∀ x ∈ S, (p : Int) ∣ ev a x - ev b x) : a = b := by
  have hp1 := hp.1
  have h1 := roots hp S (padd a (pneg b)) (by rw [padd_length]; simp [pneg, psc]; omega) hS (fun x hx => by
    rw [ev_padd, ev_pneg]; have := h x hx; rwa [show ev a x + -ev b x = ev a x - ev b x by omega])
  refine ha.uniq (by omega) hb (fun i => ?_)
  have h2 : (p : Int) ∣ co (padd a (pneg b)) i := by
    by_cases hi : i < (padd a (pneg b)).length
    · exact h1 _ (co_mem hi)
    · rw [co_over (by omega)]; simp
  rw [co_padd, co_pneg] at h2
  rwa [show co a i + -co b i = co a i - co b i by omega] at h2

/-- No more roots than the degree. -/
theorem few_roots {p : Nat} (hp : Pr p) {a : List Int} (ha : Cn p a) (na : a ≠ []) {S : List Int} (hS : S.Pairwise (fun x y => ¬ (p : Int) ∣ x - y)) (h : ∀ x ∈ S, (p : Int) ∣ ev a x) : S.length ≤ a.length - 1 := by
  have hp1 := hp.1
  rcases Nat.lt_or_ge (a.length - 1) S.length with hl | hl
  · exfalso
    have la := pos_of_ne na
    have h1 := roots hp S a (by omega) hS h
    exact ha.top (by omega) na (h1 _ (co_mem (by omega)))
  · exact hl

/-- Divided by x less r, what is left is the value at r. -/
theorem factor (r : Int) : ∀ a : List Int, Eqv a (padd (pmul (qt r a) [-r, 1]) [ev a r])
  | [] => fun i => by
    show co [] i = co (padd [] [0]) i
    rw [co_padd, co_nil, sh_nil i, co_nil]; rfl
  | [c] => fun i => by
    show co [c] i = co (padd [] [c + r * 0]) i
    rw [co_padd, co_nil, Int.mul_zero, Int.add_zero]; omega
  | c :: d :: cs => by
    have ih := factor r (d :: cs)
    intro i
    obtain ⟨E, hE⟩ : ∃ E, ev (d :: cs) r = E := ⟨_, rfl⟩
    have e1 : co (pmul (qt r (c :: d :: cs)) [-r, 1]) i = co (psc E [-r, 1]) i + co (0 :: pmul (qt r (d :: cs)) [-r, 1]) i := by
      rw [← hE]; exact co_padd _ _ _
    have e2 : ev (c :: d :: cs) r = c + r * E := by rw [← hE]; rfl
    rw [co_padd, e1, e2, co_psc]
    rw [hE] at ih
    match i with
    | 0 =>
      simp only [co_zero]
      rw [Int.mul_neg, Int.mul_comm E r]; omega
    | i + 1 =>
      simp only [co_succ, co_nil]
      rw [ih i, co_padd]
      match i with
      | 0 => simp only [co_zero]; omega
      | i + 1 => simp only [co_succ, co_nil]; omega

/-- The value, one number more at a time. -/
theorem ev_take (x : Int) (l : List Int) (k : Nat) (h : k < l.length) : ev (l.take (k + 1)) x = ev (l.take k) x + co l k * x ^ k := by
  induction l generalizing k with
  | nil => simp at h
  | cons c l ih =>
    match k with
    | 0 => simp [ev, co_zero]
    | k + 1 =>
      have := ih k (by simpa using h)
      simp only [List.take_succ_cons, ev, co_succ] at *
      rw [this, Int.mul_add, Int.pow_succ]
      have e : x * (co l k * x ^ k) = co l k * (x ^ k * x) := by rw [Int.mul_left_comm, Int.mul_comm x]
      rw [e]; omega

end Go.Proofs.Ytjpmkcijkcnfiaa.Num17
