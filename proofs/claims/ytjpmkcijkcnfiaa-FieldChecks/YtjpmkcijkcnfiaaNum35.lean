/-
  Polynomials by a prime: what divides both and is greatest, and the one through given points.
-/
import Derived.Test.YtjpmkcijkcnfiaaNum34
namespace Go.Proofs.Ytjpmkcijkcnfiaa.Num35
set_option linter.unusedVariables false
open Go.Proofs.Ytjpmkcijkcnfiaa.Num Go.Proofs.Ytjpmkcijkcnfiaa.Num7 Go.Proofs.Ytjpmkcijkcnfiaa.Num13 Go.Proofs.Ytjpmkcijkcnfiaa.Num16 Go.Proofs.Ytjpmkcijkcnfiaa.Num17 Go.Proofs.Ytjpmkcijkcnfiaa.Num34

/-! ### the greatest that divides both -/

/-- What divides both and is greatest, with the last number 1; none, if both are none. -/
def GcdIs (p : Nat) (a b g : List Int) : Prop := Cn p g ∧ (∀ d, Dv p d g ↔ (Dv p d a ∧ Dv p d b)) ∧ (g ≠ [] → co g (g.length - 1) = 1)

theorem dv_nil {p : Nat} (hp : 1 ≤ p) {a : List Int} (ha : Cn p a) (h : Dv p [] a) : a = [] := by
  obtain ⟨c, hc⟩ := h
  exact (ha.uniq hp (Cn.nil p) (by exact hc.symm))

theorem GcdIs.uniq {p : Nat} (hp : Pr p) {a b g g' : List Int} (h : GcdIs p a b g) (k : GcdIs p a b g') : g = g' := by
  have hp1 := hp.1
  rcases Classical.em (g = []) with e | e
  · subst e
    exact (dv_nil (by omega) k.1 ((k.2.1 []).2 ((h.2.1 []).1 (Dv.self p [])))).symm
  · rcases Classical.em (g' = []) with e2 | e2
    · subst e2
      exact dv_nil (by omega) h.1 ((h.2.1 []).2 ((k.2.1 []).1 (Dv.self p [])))
    · exact dv_anti hp h.1 k.1 e e2 (h.2.2 e) (k.2.2 e2) ((k.2.1 g).2 ((h.2.1 g).1 (Dv.self p g))) ((h.2.1 g').2 ((k.2.1 g').1 (Dv.self p g')))

theorem GcdIs.nil_iff {p : Nat} (hp : 1 ≤ p) {a b g : List Int} (ha : Cn p a) (hb : Cn p b) (h : GcdIs p a b g) : g = [] ↔ (a = [] ∧ b = []) := by
  constructor
  · rintro rfl
    have := (h.2.1 []).1 (Dv.self p [])
    exact ⟨dv_nil hp ha this.1, dv_nil hp hb this.2⟩
  · rintro ⟨rfl, rfl⟩
    exact dv_nil hp h.1 ((h.2.1 []).2 ⟨Dv.nil p [], Dv.nil p []⟩)

/-- On the way: the same divide both. -/
def Gst (p : Nat) (a b a' b' : List Int) : Prop := Cn p a' ∧ Cn p b' ∧ ∀ d, (Dv p d a' ∧ Dv p d b') ↔ (Dv p d a ∧ Dv p d b)

theorem Gst.start {p : Nat} {a b : List Int} (ha : Cn p a) (hb : Cn p b) : Gst p a b a b := ⟨ha, hb, fun _ => Iff.rfl⟩

theorem Gst.step {p : Nat} {a b a' b' q r : List Int} (h : Gst p a b a' b') (hd : DivIs p a' b' q r) : Gst p a b b' r :=
  ⟨h.2.1, hd.2.1, fun d => (dv_step hd.2.2.2 d).symm.trans (h.2.2 d)⟩

theorem pmul_single (k : Int) (a : List Int) : Eqv (pmul [k] a) (psc k a) := fun i => by
  show co (padd (psc k a) (0 :: pmul [] a)) i = _
  rw [co_padd, show (0 :: pmul [] a : List Int) = [0] from rfl, sh_nil i, co_nil]; omega

theorem scale_facts {p : Nat} (hp : Pr p) {a : List Int} (ha : Cn p a) (na : a ≠ []) {c : Int} (hc : (p : Int) ∣ co a (a.length - 1) * c - 1) :
    (nm p (psc c a)).length = a.length ∧ co (nm p (psc c a)) (a.length - 1) = 1 := by
  have hp1 := hp.1
  have la := pos_of_ne na
  have hq := nm_q (p := p) (by omega) (psc c a)
  have hcn := nm_cn (p := p) (by omega) (psc c a)
  have ht := hq (a.length - 1)
  rw [co_psc] at ht
  have h1 : (p : Int) ∣ co (nm p (psc c a)) (a.length - 1) - 1 := cong_tr ht (by rw [Int.mul_comm]; exact hc)
  have e1 : co (nm p (psc c a)) (a.length - 1) = 1 := small_of h1 (hcn.bd (by omega) _) ⟨by omega, by omega⟩
  refine ⟨?_, e1⟩
  have l1 : (nm p (psc c a)).length ≤ a.length := by
    have := nm_length p (psc c a)
    simpa [psc] using this
  have l2 : a.length - 1 < (nm p (psc c a)).length := by
    rcases Nat.lt_or_ge (a.length - 1) (nm p (psc c a)).length with h | h
    · exact h
    · rw [co_over h] at e1; exact absurd e1 (by omega)
  omega

theorem Gst.done {p : Nat} (hp : Pr p) {a b a' : List Int} (h : Gst p a b a' []) (na : a' ≠ []) : GcdIs p a b (nm p (psc (iv p (co a' (a'.length - 1)) : Int) a')) := by
  have hp1 := hp.1
  have hc := iv_ok hp (h.1.top (by omega) na)
  generalize (iv p (co a' (a'.length - 1)) : Int) = c at *
  obtain ⟨e1, e2⟩ := scale_facts hp h.1 na hc
  have hq := nm_q (p := p) (by omega) (psc c a')
  refine ⟨nm_cn (by omega) _, fun d => ?_, fun _ => by rw [e1]; exact e2⟩
  refine Iff.trans ?_ (h.2.2 d)
  constructor
  · intro hd
    refine ⟨?_, Dv.nil p d⟩
    have h2 := hd.mul [co a' (a'.length - 1)]
    refine h2.q ?_
    refine (Eqv.q (pmul_single _ _)).trans ?_
    intro i
    have hi := hq i
    rw [co_psc] at hi ⊢
    obtain ⟨u, hu⟩ := hi
    obtain ⟨v, hv⟩ := hc
    refine ⟨co a' (a'.length - 1) * u + v * co a' i, ?_⟩
    generalize co (nm p (psc c a')) i = x at *
    generalize co a' (a'.length - 1) = y at *
    generalize co a' i = z at *
    grind
  · rintro ⟨hd, _⟩
    exact ((hd.mul [c]).q (Eqv.q (pmul_single _ _))).q hq.symm

theorem Gst.none {p : Nat} {a b : List Int} (h : Gst p a b [] []) : GcdIs p a b [] :=
  ⟨Cn.nil p, fun d => by rw [← h.2.2 d]; exact ⟨fun h => ⟨h, h⟩, fun h => h.1⟩, fun h => absurd rfl h⟩

theorem nm_single {p : Nat} (hp : 1 ≤ p) (c : Int) (a : List Int) : nm p (pmul a [c]) = nm p (psc c a) :=
  nm_eq hp (Eqv.q ((pmul_comm a [c]).trans (pmul_single c a)))

theorem dvd_back {n a b : Int} (h : n ∣ a - b) (k : n ∣ b) : n ∣ a := by
  have := Int.dvd_add h k
  rwa [Int.sub_add_cancel] at this

/-! ### through points -/

/-- Goes through the first n points, with no more numbers than these. -/
def ThrIs (p : Nat) (X Y : Nat → Int) (n : Nat) (a : List Int) : Prop := Cn p a ∧ a.length ≤ n ∧ ∀ j, j < n → (p : Int) ∣ ev a (X j) - Y j

def Dist (p : Nat) (X : Nat → Int) (n : Nat) : Prop := ∀ i j, i < n → j < i → ¬ (p : Int) ∣ X i - X j

theorem ThrIs.uniq {p : Nat} (hp : Pr p) {X Y : Nat → Int} {n : Nat} (hd : Dist p X n) {a b : List Int} (ha : ThrIs p X Y n a) (hb : ThrIs p X Y n b) : a = b := by
  refine same_of_values hp ha.1 hb.1 (S := mk n X) (by rw [mk_length]; exact ha.2.1) (by rw [mk_length]; exact hb.2.1) ?_ ?_
  · rw [List.pairwise_iff_getElem]
    intro i j hi hj hij
    rw [mk_length] at hi hj
    have := hd j i hj hij
    simp only [mk, List.getElem_map, List.getElem_range]
    exact fun h => this (cong_sy h)
  · intro x hx
    obtain ⟨i, hi, rfl⟩ := mk_mem hx
    exact cong_tr (ha.2.2 i hi) (cong_sy (hb.2.2 i hi))

theorem ThrIs.start (p : Nat) (X Y : Nat → Int) : ThrIs p X Y 0 [] := ⟨Cn.nil p, Nat.le_refl _, fun j hj => absurd hj (by omega)⟩

/-- 0 at the first k places and nowhere else. -/
def ZeroIs (p : Nat) (X : Nat → Int) (k : Nat) (z : List Int) : Prop := Cn p z ∧ z.length = k + 1 ∧ (∀ j, j < k → (p : Int) ∣ ev z (X j)) ∧ ∀ x, (∀ j, j < k → ¬ (p : Int) ∣ x - X j) → ¬ (p : Int) ∣ ev z x

theorem cn_one {p : Nat} (hp : 2 ≤ p) : Cn p [1] := by
  refine ⟨fun x hx => ?_, fun _ => by simp [co]⟩
  obtain rfl : x = 1 := by simpa using hx
  exact ⟨by omega, by omega⟩

theorem not_one {p : Nat} (hp : 2 ≤ p) : ¬ (p : Int) ∣ 1 := not_dvd ⟨by omega, by omega⟩ (by omega)

theorem ev_one (x : Int) : ev [1] x = 1 := by simp [ev]

theorem ev_two (a b x : Int) : ev [a, b] x = a + x * b := by simp [ev]

theorem ZeroIs.start {p : Nat} (hp : 2 ≤ p) (X : Nat → Int) : ZeroIs p X 0 [1] :=
  ⟨cn_one hp, rfl, fun j hj => absurd hj (by omega), fun x _ => by rw [ev_one]; exact not_one hp⟩

theorem cn_two {p : Nat} (hp : 2 ≤ p) (x : Int) : Cn p [(rs x p : Int), 1] := by
  refine ⟨fun y hy => ?_, fun _ => by simp [co]⟩
  have := rs_bd (p := p) (by omega) x
  simp only [List.mem_cons, List.not_mem_nil, or_false] at hy
  rcases hy with rfl | rfl
  · exact this
  · exact ⟨by omega, by omega⟩

theorem ev_nm {p : Nat} (hp : 1 ≤ p) (a : List Int) (x : Int) : (p : Int) ∣ ev (nm p a) x - ev a x := (nm_q hp a).ev x

theorem ZeroIs.next {p : Nat} (hp : Pr p) {X : Nat → Int} {k : Nat} {z : List Int} (h : ZeroIs p X k z) : ZeroIs p X (k + 1) (nm p (pmul z [(rs (-X k) p : Int), 1])) := by
  have hp1 := hp.1
  obtain ⟨h1, h2, h3, h4⟩ := h
  have nz : z ≠ [] := fun e => by rw [e] at h2; simp at h2
  have hev : ∀ x, (p : Int) ∣ ev (nm p (pmul z [(rs (-X k) p : Int), 1])) x - ev z x * (x - X k) := fun x => by
    refine cong_tr (ev_nm (by omega) _ x) ?_
    rw [ev_pmul, ev_two]
    obtain ⟨u, hu⟩ := rs_cong (p := p) (by omega) (-X k)
    generalize ev z x = y at *
    generalize (rs (-X k) p : Int) = r at *
    exact ⟨y * u, by grind⟩
  refine ⟨nm_cn (by omega) _, ?_, fun j hj => ?_, fun x hx hd => ?_⟩
  · rw [mul_len hp h1 (cn_two (by omega) _) nz (by simp), h2]; simp
  · have h5 := hev (X j)
    by_cases e : j = k
    · subst e
      rw [Int.sub_self, Int.mul_zero] at h5
      simpa using h5
    · have h6 := Int.dvd_mul_of_dvd_left (c := X j - X k) (h3 j (by omega))
      have := Int.dvd_add h5 h6
      rwa [Int.sub_add_cancel] at this
  · have h5 := hev x
    have h6 : (p : Int) ∣ ev z x * (x - X k) := by
      have := Int.dvd_sub hd h5
      rwa [show ∀ a b : Int, a - (a - b) = b from fun a b => by omega] at this
    rcases int_dvd_mul hp h6 with h7 | h7
    · exact h4 x (fun j hj => hx j (by omega)) h7
    · exact hx k (by omega) h7

theorem ThrIs.next {p : Nat} (hp : Pr p) {X Y : Nat → Int} {k : Nat} {a z : List Int} (h : ThrIs p X Y k a) (hz : ZeroIs p X k z) (hd : ∀ j, j < k → ¬ (p : Int) ∣ X k - X j) {m : Int}
    (hm : m = (rs (Y k - (rs (ev a (X k)) p : Int)) p : Int) * (iv p (rs (ev z (X k)) p : Int) : Int) % (p : Int)) : ThrIs p X Y (k + 1) (nm p (padd a (nm p (psc m z)))) := by
  have hp1 := hp.1
  obtain ⟨a1, a2, a3⟩ := h
  obtain ⟨z1, z2, z3, z4⟩ := hz
  have hev : ∀ x, (p : Int) ∣ ev (nm p (padd a (nm p (psc m z)))) x - (ev a x + m * ev z x) := fun x => by
    refine cong_tr (ev_nm (by omega) _ x) ?_
    rw [ev_padd]
    refine cong_add (by simp) ?_
    have := ev_nm (p := p) (by omega) (psc m z) x
    rwa [ev_psc] at this
  refine ⟨nm_cn (by omega) _, ?_, fun j hj => ?_⟩
  · have l1 := nm_length p (padd a (nm p (psc m z)))
    have l2 := nm_length p (psc m z)
    have l3 : (psc m z).length = z.length := by simp [psc]
    rw [padd_length] at l1
    omega
  · have h5 := hev (X j)
    by_cases e : j = k
    · subst e
      refine cong_tr h5 ?_
      have hz0 : ¬ (p : Int) ∣ ev z (X j) := z4 _ hd
      have hz1 : ¬ (p : Int) ∣ (rs (ev z (X j)) p : Int) := fun h => hz0 (by
        have := Int.dvd_sub h (rs_cong (p := p) (by omega) (ev z (X j)))
        rwa [show ∀ a b : Int, a - (a - b) = b from fun a b => by omega] at this)
      obtain ⟨u1, h1⟩ := iv_ok hp hz1
      obtain ⟨u2, h2⟩ := rs_cong (p := p) (by omega) (ev z (X j))
      obtain ⟨u3, h3⟩ := rs_cong (p := p) (by omega) (Y j - (rs (ev a (X j)) p : Int))
      obtain ⟨u4, h4⟩ := rs_cong (p := p) (by omega) (ev a (X j))
      obtain ⟨u5, h5⟩ := mod_cong (p := p) ((rs (Y j - (rs (ev a (X j)) p : Int)) p : Int) * (iv p (rs (ev z (X j)) p : Int) : Int))
      rw [← hm] at h5
      clear hm hev z4 z3 a3 hd hz0 hz1
      generalize (iv p (rs (ev z (X j)) p : Int) : Int) = v at *
      generalize (rs (Y j - (rs (ev a (X j)) p : Int)) p : Int) = s at *
      generalize (rs (ev z (X j)) p : Int) = rz at *
      generalize (rs (ev a (X j)) p : Int) = ra at *
      generalize ev z (X j) = ez at *
      generalize ev a (X j) = ea at *
      generalize Y j = y at *
      -- m = s v + p u5; s = y - ra + p u3; ra = ea + p u4; rz = ez + p u2; rz v = 1 + p u1
      have e1 : m = s * v + (p : Int) * u5 := by omega
      have e2 : s = y - ra + (p : Int) * u3 := by omega
      have e3 : ra = ea + (p : Int) * u4 := by omega
      have e4 : ez = rz - (p : Int) * u2 := by omega
      have e5 : rz * v = 1 + (p : Int) * u1 := by omega
      refine ⟨u5 * ez + s * u1 - s * v * u2 + u3 - u4, ?_⟩
      have e6 : m * ez = s * (rz * v) - (p : Int) * (s * v * u2) + (p : Int) * (u5 * ez) := by
        rw [e1, Int.add_mul, Int.mul_assoc (p : Int), show s * v * ez = s * (rz * v) - (p : Int) * (s * v * u2) by rw [e4]; clear e1 e2 e3 e4 e5 h1 h2 h3 h4 h5; grind]
      rw [e6, e5]
      clear e6 e5 e1 h1 h2 h3 h4 h5
      grind
    · have h6 := a3 j (by omega)
      have h7 := Int.dvd_mul_of_dvd_right (b := m) (z3 j (by omega))
      refine cong_tr h5 ?_
      have := Int.dvd_add h6 h7
      rwa [show ev a (X j) - Y j + m * ev z (X j) = ev a (X j) + m * ev z (X j) - Y j by omega] at this

/-! ### the document's way through points -/

/-- Through the point i, 0 at the other ones so far. -/
def OneIs (p : Nat) (X : Nat → Int) (i : Nat) (y : Int) (j : Nat) (o : List Int) : Prop :=
  Bd p o ∧ o.length ≤ (if i < j then j else j + 1) ∧ (p : Int) ∣ ev o (X i) - y ∧ ∀ t, t < j → t ≠ i → (p : Int) ∣ ev o (X t)

theorem OneIs.start {p : Nat} (X : Nat → Int) (i : Nat) {y : Int} (hy : 0 ≤ y ∧ y < (p : Int)) : OneIs p X i y 0 [y] := by
  refine ⟨fun x hx => ?_, by rw [if_neg (by omega)]; simp, by simp [ev], fun t ht => absurd ht (by omega)⟩
  obtain rfl : x = y := by simpa using hx
  exact hy

theorem OneIs.skip {p : Nat} {X : Nat → Int} {i : Nat} {y : Int} {o : List Int} (h : OneIs p X i y i o) : OneIs p X i y (i + 1) o := by
  obtain ⟨h1, h2, h3, h4⟩ := h
  refine ⟨h1, ?_, h3, fun t ht hne => h4 t (by omega) hne⟩
  rw [if_neg (by omega)] at h2
  rw [if_pos (by omega)]; exact h2

theorem mul_nm_len {p : Nat} (hp : 1 ≤ p) (a b : List Int) : (nm p (pmul a b)).length ≤ a.length + b.length - 1 :=
  (nm_cn hp _).len_le hp (fun i hi => by
    have h := nm_q hp (pmul a b) i
    rw [mul_over hi] at h
    simpa using h)

theorem OneIs.next {p : Nat} (hp : Pr p) {X : Nat → Int} {i j : Nat} {y : Int} {o : List Int} (h : OneIs p X i y j o) (hne : j ≠ i) (hd : ¬ (p : Int) ∣ X i - X j) {k : Int} (hk : k = (iv p (rs (X i - X j) p : Int) : Int)) :
    OneIs p X i y (j + 1) (nm p (pmul (tr o) (tr [(rs (-X j * k) p : Int), k]))) := by
  have hp1 := hp.1
  obtain ⟨h1, h2, h3, h4⟩ := h
  have hev : ∀ x, (p : Int) ∣ ev (nm p (pmul (tr o) (tr [(rs (-X j * k) p : Int), k]))) x - ev o x * ((x - X j) * k) := fun x => by
    refine cong_tr (ev_nm (by omega) _ x) ?_
    rw [ev_pmul]
    refine cong_mul ((tr_q p o).ev x) (cong_tr ((tr_q p _).ev x) ?_)
    rw [ev_two]
    obtain ⟨u, hu⟩ := rs_cong (p := p) (by omega) (-X j * k)
    generalize (rs (-X j * k) p : Int) = r at *
    exact ⟨u, by grind⟩
  refine ⟨(nm_cn (by omega) _).1, ?_, ?_, fun t ht hti => ?_⟩
  · have l1 := mul_nm_len (p := p) (by omega) (tr o) (tr [(rs (-X j * k) p : Int), k])
    have l2 := tr_length o
    have l3 := tr_length [(rs (-X j * k) p : Int), k]
    have l4 : [(rs (-X j * k) p : Int), k].length = 2 := rfl
    by_cases e : i < j
    · rw [if_pos e] at h2
      rw [if_pos (by omega)]; omega
    · rw [if_neg e] at h2
      rw [if_neg (by omega)]; omega
  · refine cong_tr (hev (X i)) ?_
    have hz1 : ¬ (p : Int) ∣ (rs (X i - X j) p : Int) := fun h => hd (by
      have := Int.dvd_sub h (rs_cong (p := p) (by omega) (X i - X j))
      rwa [show ∀ a b : Int, a - (a - b) = b from fun a b => by omega] at this)
    obtain ⟨u1, e1⟩ := iv_ok hp hz1
    obtain ⟨u2, e2⟩ := rs_cong (p := p) (by omega) (X i - X j)
    obtain ⟨u3, e3⟩ := h3
    rw [← hk] at e1
    clear hev hk h4 hz1 hd
    generalize (rs (X i - X j) p : Int) = r at *
    generalize ev o (X i) = eo at *
    generalize X i - X j = d at *
    have f1 : d = r - (p : Int) * u2 := by omega
    have f2 : r * k = 1 + (p : Int) * u1 := by omega
    have f3 : eo = y + (p : Int) * u3 := by omega
    refine ⟨eo * u1 - eo * u2 * k + u3, ?_⟩
    have f4 : eo * (d * k) = eo * (r * k) - (p : Int) * (eo * u2 * k) := by rw [f1]; clear f1 f2 f3 e1 e2 e3; grind
    rw [f4, f2]
    clear f4 f2 f1 e1 e2 e3
    generalize eo * u2 * k = q at *
    have f5 : eo * (1 + (p : Int) * u1) = eo + (p : Int) * (eo * u1) := by clear f3; grind
    have f6 : (p : Int) * (eo * u1 - q + u3) = (p : Int) * (eo * u1) - (p : Int) * q + (p : Int) * u3 := by rw [Int.mul_add, Int.mul_sub]
    rw [f5, f6]; omega
  · refine dvd_back (hev (X t)) ?_
    by_cases e : t = j
    · subst e
      rw [Int.sub_self, Int.zero_mul, Int.mul_zero]; exact Int.dvd_zero _
    · exact Int.dvd_mul_of_dvd_left (h4 t (by omega) hti)

/-- Through the first i, 0 at the other ones. -/
def SumIs (p : Nat) (X Y : Nat → Int) (n i : Nat) (s : List Int) : Prop :=
  Cn p s ∧ s.length ≤ n ∧ (∀ j, j < i → (p : Int) ∣ ev s (X j) - Y j) ∧ ∀ j, i ≤ j → j < n → (p : Int) ∣ ev s (X j)

theorem SumIs.start (p : Nat) (X Y : Nat → Int) (n : Nat) : SumIs p X Y n 0 [] :=
  ⟨Cn.nil p, by simp, fun j hj => absurd hj (by omega), fun j _ _ => by simp [ev]⟩

theorem SumIs.next {p : Nat} (hp : 1 ≤ p) {X Y : Nat → Int} {n i : Nat} {s o : List Int} (h : SumIs p X Y n i s) (hi : i < n) (ho : OneIs p X i (Y i) n o) : SumIs p X Y n (i + 1) (nm p (padd s (tr o))) := by
  obtain ⟨s1, s2, s3, s4⟩ := h
  obtain ⟨o1, o2, o3, o4⟩ := ho
  have hev : ∀ x, (p : Int) ∣ ev (nm p (padd s (tr o))) x - (ev s x + ev o x) := fun x => by
    refine cong_tr (ev_nm hp _ x) ?_
    rw [ev_padd]
    exact cong_add (by simp) ((tr_q p o).ev x)
  refine ⟨nm_cn hp _, ?_, fun j hj => ?_, fun j hj hjn => ?_⟩
  · have l1 := nm_length p (padd s (tr o))
    have l2 := tr_length o
    rw [padd_length] at l1
    rw [if_pos hi] at o2
    omega
  · refine cong_tr (hev (X j)) ?_
    by_cases e : j = i
    · subst e
      have := Int.dvd_add (s4 j (Nat.le_refl _) hi) o3
      rwa [show ev s (X j) + (ev o (X j) - Y j) = ev s (X j) + ev o (X j) - Y j by omega] at this
    · have := Int.dvd_add (s3 j (by omega)) (o4 j (by omega) e)
      rwa [show ev s (X j) - Y j + ev o (X j) = ev s (X j) + ev o (X j) - Y j by omega] at this
  · exact dvd_back (hev (X j)) (Int.dvd_add (s4 j (by omega) hjn) (o4 j hjn (by omega)))

theorem SumIs.done {p : Nat} {X Y : Nat → Int} {n : Nat} {s : List Int} (h : SumIs p X Y n n s) : ThrIs p X Y n s := ⟨h.1, h.2.1, h.2.2.1⟩

end Go.Proofs.Ytjpmkcijkcnfiaa.Num35
