/-
  Plain arithmetic, without the model: Frobenius's map; the field of what polynomials leave, divided by one that is no product; its elements as numbers.
-/
import Derived.Test.YtjpmkcijkcnfiaaNum21
namespace Go.Proofs.Ytjpmkcijkcnfiaa.Num22
set_option linter.unusedVariables false
open Go.Proofs.Ytjpmkcijkcnfiaa.Num Go.Proofs.Ytjpmkcijkcnfiaa.Num16 Go.Proofs.Ytjpmkcijkcnfiaa.Num17 Go.Proofs.Ytjpmkcijkcnfiaa.Num20 Go.Proofs.Ytjpmkcijkcnfiaa.Num21

/-! ### sums in a field -/

def nsm {A : Type} (F : Fd A) : Nat → A → A
  | 0, _ => F.zero
  | m + 1, x => F.add (nsm F m x) x

theorem nsm_add {A : Type} (F : Fd A) (x : A) (m : Nat) : ∀ n, nsm F (m + n) x = F.add (nsm F m x) (nsm F n x)
  | 0 => (add_zero F _).symm
  | n + 1 => by
    show F.add (nsm F (m + n) x) x = F.add (nsm F m x) (F.add (nsm F n x) x)
    rw [nsm_add F x m n, F.add_assoc]

theorem nsm_one {A : Type} (F : Fd A) (x : A) : nsm F 1 x = x := F.zero_add x

theorem nsm_zero {A : Type} (F : Fd A) : ∀ m, nsm F m F.zero = F.zero
  | 0 => rfl
  | m + 1 => by show F.add (nsm F m F.zero) F.zero = _; rw [nsm_zero F m, F.zero_add]

theorem mul_nsm {A : Type} (F : Fd A) (a x : A) : ∀ m, F.mul a (nsm F m x) = nsm F m (F.mul a x)
  | 0 => mul_zero F a
  | m + 1 => by
    show F.mul a (F.add (nsm F m x) x) = F.add (nsm F m (F.mul a x)) (F.mul a x)
    rw [F.mul_add, mul_nsm F a x m]

theorem nsm_dvd {A : Type} (F : Fd A) {p : Nat} (hp : ∀ x, nsm F p x = F.zero) {m : Nat} (h : p ∣ m) (x : A) : nsm F m x = F.zero := by
  obtain ⟨k, rfl⟩ := h
  induction k with
  | zero => rfl
  | succ k ih => rw [Nat.mul_succ, nsm_add, ih, hp, F.zero_add]

def sg {A : Type} (F : Fd A) (f : Nat → A) : Nat → A
  | 0 => f 0
  | n + 1 => F.add (sg F f n) (f (n + 1))

theorem sg_congr {A : Type} (F : Fd A) {f g : Nat → A} : ∀ {n : Nat}, (∀ k, k ≤ n → f k = g k) → sg F f n = sg F g n
  | 0, h => h 0 (Nat.le_refl _)
  | n + 1, h => by simp only [sg]; rw [sg_congr F (fun k hk => h k (by omega)), h (n + 1) (Nat.le_refl _)]

theorem sg_front {A : Type} (F : Fd A) (f : Nat → A) : ∀ n, sg F f (n + 1) = F.add (f 0) (sg F (fun k => f (k + 1)) n)
  | 0 => rfl
  | n + 1 => by
    show F.add (sg F f (n + 1)) (f (n + 2)) = F.add (f 0) (F.add (sg F (fun k => f (k + 1)) n) (f (n + 2)))
    rw [sg_front F f n, F.add_assoc]

theorem sg_add {A : Type} (F : Fd A) (f g : Nat → A) : ∀ n, sg F (fun k => F.add (f k) (g k)) n = F.add (sg F f n) (sg F g n)
  | 0 => rfl
  | n + 1 => by
    simp only [sg]
    rw [sg_add F f g n, F.add_assoc, F.add_assoc, add_left_comm F (sg F g n)]

theorem sg_mul {A : Type} (F : Fd A) (c : A) (f : Nat → A) : ∀ n, F.mul c (sg F f n) = sg F (fun k => F.mul c (f k)) n
  | 0 => rfl
  | n + 1 => by simp only [sg]; rw [F.mul_add, sg_mul F c f n]

theorem sg_zero {A : Type} (F : Fd A) {f : Nat → A} : ∀ {n : Nat}, (∀ k, k ≤ n → f k = F.zero) → sg F f n = F.zero
  | 0, h => h 0 (Nat.le_refl _)
  | n + 1, h => by simp only [sg]; rw [sg_zero F (fun k hk => h k (by omega)), h (n + 1) (Nat.le_refl _), F.zero_add]

theorem binomial {A : Type} (F : Fd A) (a b : A) : ∀ n, pw F (F.add a b) n = sg F (fun k => nsm F (ch n k) (F.mul (pw F a k) (pw F b (n - k)))) n
  | 0 => by simp only [sg, pw, ch_zero]; rw [F.one_mul, nsm_one]; rfl
  | n + 1 => by
    show F.mul (pw F (F.add a b) n) (F.add a b) = _
    rw [binomial F a b n, F.mul_add, F.mul_comm _ a, F.mul_comm _ b, sg_mul, sg_mul, sg_front]
    have e1 : sg F (fun k => F.mul a (nsm F (ch n k) (F.mul (pw F a k) (pw F b (n - k))))) n = sg F (fun k => nsm F (ch n k) (F.mul (pw F a (k + 1)) (pw F b (n + 1 - (k + 1))))) n :=
      sg_congr F (fun k hk => by
        rw [mul_nsm, ← F.mul_assoc, F.mul_comm a, show F.mul (pw F a k) a = pw F a (k + 1) from rfl, show n + 1 - (k + 1) = n - k by omega])
    have e2 : sg F (fun k => F.mul b (nsm F (ch n k) (F.mul (pw F a k) (pw F b (n - k))))) n = sg F (fun k => nsm F (ch n k) (F.mul (pw F a k) (pw F b (n + 1 - k)))) n :=
      sg_congr F (fun k hk => by
        rw [mul_nsm, mul_left_comm, F.mul_comm b, show F.mul (pw F b (n - k)) b = pw F b (n - k + 1) from rfl, show n - k + 1 = n + 1 - k by omega])
    have e3 : sg F (fun k => nsm F (ch n k) (F.mul (pw F a k) (pw F b (n + 1 - k)))) n = sg F (fun k => nsm F (ch n k) (F.mul (pw F a k) (pw F b (n + 1 - k)))) (n + 1) := by
      simp only [sg]
      rw [ch_over (show n < n + 1 by omega)]
      exact (add_zero F _).symm
    have e4 : sg F (fun k => nsm F (ch (n + 1) (k + 1)) (F.mul (pw F a (k + 1)) (pw F b (n + 1 - (k + 1))))) n =
        F.add (sg F (fun k => nsm F (ch n k) (F.mul (pw F a (k + 1)) (pw F b (n + 1 - (k + 1))))) n) (sg F (fun k => nsm F (ch n (k + 1)) (F.mul (pw F a (k + 1)) (pw F b (n + 1 - (k + 1))))) n) := by
      rw [← sg_add]
      exact sg_congr F (fun k hk => by rw [← nsm_add]; rfl)
    rw [e1, e2, e3, e4, sg_front F _ n, ch_zero, ch_zero, add_left_comm]

/-- Frobenius. -/
theorem frob {A : Type} (F : Fd A) {p : Nat} (hp : Pr p) (hc : ∀ x, nsm F p x = F.zero) (a b : A) : pw F (F.add a b) p = F.add (pw F a p) (pw F b p) := by
  have hp1 := hp.1
  obtain ⟨k, rfl⟩ : ∃ k, p = k + 2 := ⟨p - 2, by omega⟩
  rw [binomial]
  show F.add (sg F _ (k + 1)) _ = _
  rw [sg_front, sg_zero F (fun j hj => nsm_dvd F hc (ch_dvd hp (by omega) (by omega)) _), add_zero, ch_zero, nsm_one, Nat.sub_zero]
  show F.add _ (nsm F (ch (k + 2) (k + 2)) (F.mul (pw F a (k + 2)) (pw F b (k + 2 - (k + 2))))) = _
  rw [ch_self, nsm_one, Nat.sub_self]
  show F.add (F.mul F.one (pw F b (k + 2))) (F.mul (pw F a (k + 2)) F.one) = _
  rw [F.one_mul, mul_one, F.add_comm]

/-! ### the field -/

/-- An element: shorter than f, in its one form. -/
abbrev El (p : Nat) (f : List Int) : Type := { l : List Int // Cn p l ∧ l.length < f.length }

/-- c is what a times b leaves, divided by f. -/
def MulR (p : Nat) (f a b c : List Int) : Prop := Cn p c ∧ c.length < f.length ∧ Dv p f (padd (pmul a b) (pneg c))

/-- The same by f and p. -/
def Qf (p : Nat) (f a b : List Int) : Prop := Dv p f (padd a (pneg b))

theorem qf_of {p : Nat} {f a b : List Int} (h : Q p a b) : Qf p f a b := (Dv.nil p f).q (fun i => by
  rw [co_nil, co_padd, co_pneg]; have := cong_sy (h i); rwa [show (0 : Int) - (co a i + -co b i) = co b i - co a i by omega])

theorem Qf.symm {p : Nat} {f a b : List Int} (h : Qf p f a b) : Qf p f b a := h.neg.q (fun i => by
  rw [co_pneg, co_padd, co_padd, co_pneg, co_pneg]; rw [show -(co a i + -co b i) - (co b i + -co a i) = 0 by omega]; simp)

theorem Qf.trans {p : Nat} {f a b c : List Int} (h : Qf p f a b) (k : Qf p f b c) : Qf p f a c := (h.add k).q (fun i => by
  simp only [co_pneg, co_padd]; rw [show co a i + -co b i + (co b i + -co c i) - (co a i + -co c i) = 0 by omega]; simp)

theorem Qf.padd {p : Nat} {f a a' b b' : List Int} (h : Qf p f a a') (k : Qf p f b b') : Qf p f (padd a b) (padd a' b') := (Dv.add h k).q (fun i => by
  simp only [co_pneg, co_padd]; rw [show co a i + -co a' i + (co b i + -co b' i) - (co a i + co b i + -(co a' i + co b' i)) = 0 by omega]; simp)

theorem Qf.mul_left {p : Nat} {f a a' : List Int} (b : List Int) (h : Qf p f a a') : Qf p f (pmul b a) (pmul b a') := (Dv.mul h b).q (fun i => by
  rw [(pmul_padd_right b a (pneg a')) i, co_padd, co_padd, co_pneg, (pmul_comm b (pneg a')) i, show co (pmul (pneg a') b) i = _ from (pmul_psc (-1) a' b) i, co_psc, (pmul_comm a' b) i]
  rw [show ∀ x y : Int, x + -1 * y - (x + -y) = 0 from fun x y => by omega]; simp)

theorem Qf.pmul {p : Nat} {f a a' b b' : List Int} (h : Qf p f a a') (k : Qf p f b b') : Qf p f (pmul a b) (pmul a' b') := by
  have h1 : Qf p f (Num16.pmul b a) (Num16.pmul b a') := h.mul_left b
  have h2 : Qf p f (Num16.pmul a' b) (Num16.pmul a' b') := k.mul_left a'
  exact (qf_of (Eqv.q (pmul_comm a b))).trans (h1.trans ((qf_of (Eqv.q (pmul_comm b a'))).trans h2))

/-- Two elements that are the same by f are the same. -/
theorem Qf.eq {p : Nat} (hp : Pr p) {f a b : List Int} (hf : Cn p f) (ha : Cn p a) (hb : Cn p b) (la : a.length < f.length) (lb : b.length < f.length) (h : Qf p f a b) : a = b := by
  have hp1 := hp.1
  obtain ⟨d, hd⟩ : ∃ d, nm p (Num16.padd a (pneg b)) = d := ⟨_, rfl⟩
  have cd : Cn p d := by rw [← hd]; exact nm_cn (by omega) _
  have qd : Q p d (Num16.padd a (pneg b)) := by rw [← hd]; exact nm_q (by omega) _
  have ld : d.length < f.length := by
    rw [← hd]
    refine Nat.lt_of_le_of_lt (nm_length _ _) ?_
    rw [padd_length]; simp [pneg, psc]; omega
  have d0 : d = [] := by
    rcases Classical.em (d = []) with e | nd
    · exact e
    · obtain ⟨c, c1, c2, c3, c4, c5⟩ := (Dv.q h qd.symm).len hp hf cd nd
      have := pos_of_ne c2
      omega
  subst d0
  refine ha.uniq (by omega) hb (fun i => ?_)
  have := qd i
  rw [co_nil, co_padd, co_pneg] at this
  have h2 := cong_sy this
  rwa [show co a i + -co b i - 0 = co a i - co b i by omega] at h2

theorem MulR.uniq {p : Nat} (hp : Pr p) {f a b c c' : List Int} (hf : Cn p f) (h : MulR p f a b c) (h' : MulR p f a b c') : c = c' := by
  have h1 : Qf p f (pmul a b) c := h.2.2
  have h2 : Qf p f (pmul a b) c' := h'.2.2
  exact (h1.symm.trans h2).eq hp hf h.1 h'.1 h.2.1 h'.2.1

theorem mulR_ex {p : Nat} (hp : Pr p) {f : List Int} (hf : Cn p f) (nf : f ≠ []) (a b : List Int) : ∃ c, MulR p f a b c := by
  obtain ⟨q, r, hq, hr, hl, h⟩ := div_ex hp hf nf _ (pmul a b) (Nat.le_refl _)
  refine ⟨r, hr, hl, q, fun i => ?_⟩
  have := h i
  rw [co_padd] at this
  rw [co_padd, co_pneg, (pmul_comm f q) i]
  have h2 := cong_sy this
  rwa [show co (pmul q f) i - (co (pmul a b) i + -co r i) = co (pmul q f) i + co r i - co (pmul a b) i by omega]

theorem add_short {p : Nat} {f a b : List Int} (la : a.length < f.length) (lb : b.length < f.length) : (nm p (padd a b)).length < f.length := by
  refine Nat.lt_of_le_of_lt (nm_length _ _) ?_
  rw [padd_length]; omega

/-- The field. -/
theorem field_ex {p : Nat} (hp : Pr p) {f : List Int} (hf : Cn p f) (hfl : 2 ≤ f.length) (hI : Irr p f) : ∃ F : Fd (El p f), F.zero.1 = [] ∧ F.one.1 = [1] ∧ (∀ a b, (F.add a b).1 = nm p (padd a.1 b.1)) ∧ (∀ a b, MulR p f a.1 b.1 (F.mul a b).1) ∧ ∀ x, nsm F p x = F.zero := by
  have hp1 := hp.1
  have hp2 : 1 ≤ p := by omega
  have nf : f ≠ [] := fun e => by rw [e] at hfl; simp at hfl
  have c1 : Cn p [1] := ⟨fun x hx => by simp at hx; subst hx; omega, fun _ => by simp [co_zero]⟩
  have qf : ∀ {a b : List Int}, Q p a b → Qf p f a b := fun h => qf_of h
  obtain ⟨mul, hmul⟩ : ∃ mul : El p f → El p f → El p f, ∀ a b, MulR p f a.1 b.1 (mul a b).1 :=
    ⟨fun a b => ⟨Classical.choose (mulR_ex hp hf nf a.1 b.1), (Classical.choose_spec (mulR_ex hp hf nf a.1 b.1)).1, (Classical.choose_spec (mulR_ex hp hf nf a.1 b.1)).2.1⟩, fun a b => Classical.choose_spec (mulR_ex hp hf nf a.1 b.1)⟩
  obtain ⟨add, hadd⟩ : ∃ add : El p f → El p f → El p f, ∀ a b, (add a b).1 = nm p (padd a.1 b.1) :=
    ⟨fun a b => ⟨nm p (padd a.1 b.1), nm_cn hp2 _, add_short a.2.2 b.2.2⟩, fun _ _ => rfl⟩
  obtain ⟨neg, hneg⟩ : ∃ neg : El p f → El p f, ∀ a, (neg a).1 = nm p (pneg a.1) :=
    ⟨fun a => ⟨nm p (pneg a.1), nm_cn hp2 _, Nat.lt_of_le_of_lt (nm_length _ _) (by have := a.2.2; simpa [pneg, psc] using this)⟩, fun _ => rfl⟩
  have qm : ∀ a b, Qf p f (mul a b).1 (pmul a.1 b.1) := fun a b => (show Qf p f (pmul a.1 b.1) (mul a b).1 from (hmul a b).2.2).symm
  have qa : ∀ a b, Q p (add a b).1 (padd a.1 b.1) := fun a b => by rw [hadd]; exact nm_q hp2 _
  have qn : ∀ a, Q p (neg a).1 (pneg a.1) := fun a => by rw [hneg]; exact nm_q hp2 _
  have same : ∀ {a b : El p f}, Qf p f a.1 b.1 → a = b := fun {a b} h => Subtype.ext (h.eq hp hf a.2.1 b.2.1 a.2.2 b.2.2)
  have sameQ : ∀ {a b : El p f}, Q p a.1 b.1 → a = b := fun {a b} h => Subtype.ext (a.2.1.uniq hp2 b.2.1 h)
  refine ⟨{ zero := ⟨[], Cn.nil p, by simp; omega⟩, one := ⟨[1], c1, by simp; omega⟩, add := add, mul := mul, neg := neg, add_comm := ?_, add_assoc := ?_, zero_add := ?_, neg_add := ?_, mul_comm := ?_, mul_assoc := ?_, one_mul := ?_, mul_add := ?_, one_ne := ?_, inv_ex := ?_ }, rfl, rfl, hadd, hmul, ?_⟩
  · intro a b
    exact sameQ ((qa a b).trans ((Eqv.q (padd_comm _ _)).trans (qa b a).symm))
  · intro a b c
    exact sameQ ((qa _ _).trans (((qa a b).padd (Q.refl p _)).trans ((Eqv.q (padd_assoc _ _ _)).trans (((Q.refl p _).padd (qa b c).symm).trans (qa _ _).symm))))
  · intro a
    exact sameQ (qa _ _)
  · intro a
    refine sameQ ((qa _ _).trans (((qn a).padd (Q.refl p _)).trans (Eqv.q (fun i => ?_))))
    rw [co_padd, co_pneg, co_nil]; omega
  · intro a b
    exact same ((qm a b).trans ((qf (Eqv.q (pmul_comm _ _))).trans (qm b a).symm))
  · intro a b c
    exact same ((qm _ _).trans (((qm a b).pmul (qf (Q.refl p _))).trans ((qf (Eqv.q (pmul_assoc _ _ _))).trans (((qf (Q.refl p _)).pmul (qm b c).symm).trans (qm _ _).symm))))
  · intro a
    exact same ((qm _ _).trans (qf (Eqv.q ((pmul_comm [1] a.1).trans (pmul_one a.1)))))
  · intro a b c
    refine same ((qm _ _).trans (((qf (Q.refl p _)).pmul (qf (qa b c))).trans ((qf (Eqv.q (pmul_padd_right _ _ _))).trans ?_)))
    exact ((qm a b).symm.padd (qm a c).symm).trans (qf (qa _ _).symm)
  · intro h
    have := congrArg Subtype.val h
    simp at this
  · intro a ha
    have na : a.1 ≠ [] := fun e => ha (Subtype.ext e)
    obtain ⟨u, v, h⟩ := irr_inv hp hf hfl hI a.2.1 na a.2.2
    obtain ⟨q, r, hq, hr, hl, hd⟩ := div_ex hp hf nf _ u (Nat.le_refl _)
    refine ⟨⟨r, hr, hl⟩, same ((qm _ _).trans ?_)⟩
    -- a r = a u - a q f = 1 - v f - a q f
    have dvf : ∀ w, Qf p f (pmul w f) [] := fun w => by
      have h1 : Dv p f (pmul w f) := (Dv.self p f).mul w
      exact h1.q (fun i => by rw [co_padd, co_pneg, co_nil]; rw [show co (pmul w f) i - (co (pmul w f) i + -0) = 0 by omega]; simp)
    have hu : Qf p f u r := by
      have h1 : Qf p f (padd (pmul q f) r) (padd [] r) := (dvf q).padd (qf (Q.refl p r))
      exact (qf hd).trans h1
    have h2 : Qf p f (pmul a.1 r) (pmul u a.1) := ((qf (Q.refl p a.1)).pmul hu.symm).trans (qf (Eqv.q (pmul_comm _ _)))
    have h3 : Qf p f (pmul u a.1) (padd (pmul u a.1) (pmul v f)) := by
      have h4 : Qf p f (padd (pmul u a.1) (pmul v f)) (padd (pmul u a.1) []) := (qf (Q.refl p _)).padd (dvf v)
      rw [padd_nil] at h4
      exact h4.symm
    exact h2.trans (h3.trans (qf h))
  · intro x
    have key : ∀ (F : Fd (El p f)) (hz : F.zero.1 = []) (ha : ∀ a b, (F.add a b).1 = nm p (padd a.1 b.1)) (m : Nat), Q p (nsm F m x).1 (psc (m : Int) x.1) := by
      intro F hz ha m
      induction m with
      | zero => show Q p F.zero.1 _; rw [hz]; exact Eqv.q (zero_psc x.1).symm
      | succ m ih =>
        show Q p (F.add (nsm F m x) x).1 _
        rw [ha]
        refine (nm_q hp2 _).trans ((ih.padd (Q.refl p _)).trans (Eqv.q (fun i => ?_)))
        rw [co_padd, co_psc, co_psc, Int.natCast_succ, Int.add_mul]; omega
    refine sameQ ((key _ rfl hadd p).trans (fun i => ?_))
    show (p : Int) ∣ co (psc (p : Int) x.1) i - co [] i
    rw [co_psc, co_nil, Int.sub_zero]
    exact Int.dvd_mul_right _ _

end Go.Proofs.Ytjpmkcijkcnfiaa.Num22
