/-
  Folded: Num39, Num45, Num61, Num69, Num70.
-/
import Derived.Test.YtpnmepobdnclkaaFoldB
namespace Go.Proofs.Ytpnmepobdnclkaa.Num39
set_option linter.unusedVariables false
open Go.Proofs.Ytpnmepobdnclkaa.Num Go.Proofs.Ytpnmepobdnclkaa.Num7 Go.Proofs.Ytpnmepobdnclkaa.Num13 Go.Proofs.Ytpnmepobdnclkaa.Num16 Go.Proofs.Ytpnmepobdnclkaa.Num17 Go.Proofs.Ytpnmepobdnclkaa.Num34 Go.Proofs.Ytpnmepobdnclkaa.Num35

/-! ### a share, step by step -/

theorem md {p : Nat} {x y : Int} (h : (p : Int) ∣ x - y) : x % (p : Int) = y % (p : Int) := Int.emod_emod_of_dvd x (Int.dvd_refl _) ▸ (by
  obtain ⟨k, hk⟩ := h
  rw [show x = y + (p : Int) * k by omega, Int.add_mul_emod_self_left]
  simp)

def sp (p : Nat) (x : Int) (k : Nat) : Int := x ^ k % (p : Int)

def sy (p : Nat) (s : Int) (m : List Int) (x : Int) (k : Nat) : Int := ev ((s :: m).take (k + 1)) x % (p : Int)

theorem sp_zero {p : Nat} (hp : 2 ≤ p) (x : Int) : sp p x 0 = 1 := by
  unfold sp
  rw [Int.pow_zero, Int.emod_eq_of_lt (by omega) (by omega)]

theorem sp_step (p : Nat) (x : Int) (k : Nat) : sp p x k * x % (p : Int) = sp p x (k + 1) := by
  unfold sp
  rw [Int.pow_succ, Int.mul_emod, Int.emod_emod_of_dvd _ (Int.dvd_refl _), ← Int.mul_emod]

theorem sp_bd {p : Nat} (hp : 1 ≤ p) (x : Int) (k : Nat) : 0 ≤ sp p x k ∧ sp p x k < (p : Int) := mod_bd hp _

theorem sy_bd {p : Nat} (hp : 1 ≤ p) (s : Int) (m : List Int) (x : Int) (k : Nat) : 0 ≤ sy p s m x k ∧ sy p s m x k < (p : Int) := mod_bd hp _

theorem sy_zero {p : Nat} {s : Int} (hs : 0 ≤ s ∧ s < (p : Int)) (m : List Int) (x : Int) : sy p s m x 0 = s := by
  unfold sy
  simp only [List.take_succ_cons, List.take_zero]
  rw [show ev [s] x = s by simp [ev], Int.emod_eq_of_lt hs.1 hs.2]

theorem co_cons (s : Int) (m : List Int) (k : Nat) : co (s :: m) (k + 1) = co m k := by simp [co]

theorem sy_step {p : Nat} (hp : 1 ≤ p) (s : Int) (m : List Int) (x : Int) {k : Nat} (h : k < m.length) : (sy p s m x k + co m k * sp p x (k + 1)) % (p : Int) = sy p s m x (k + 1) := by
  unfold sy
  rw [ev_take x (s :: m) (k + 1) (by simp; omega), co_cons]
  refine md ?_
  have h1 := mod_cong (p := p) (ev ((s :: m).take (k + 1)) x)
  have h2 := mod_cong (p := p) (x ^ (k + 1))
  unfold sp
  obtain ⟨u, hu⟩ := h1
  obtain ⟨v, hv⟩ := h2
  refine ⟨u + co m k * v, ?_⟩
  generalize ev ((s :: m).take (k + 1)) x % (p : Int) = a at *
  generalize ev ((s :: m).take (k + 1)) x = b at *
  generalize x ^ (k + 1) % (p : Int) = c at *
  generalize x ^ (k + 1) = d at *
  generalize co m k = e at *
  grind

theorem sy_done (p : Nat) (s : Int) (m : List Int) (x : Int) : sy p s m x m.length = ev (s :: m) x % (p : Int) := by
  unfold sy
  rw [List.take_of_length_le (by simp)]

/-! ### what points have in common at 0 -/

theorem one_ev {p : Nat} (hp : 1 ≤ p) (o : List Int) (z k x : Int) : (p : Int) ∣ ev (nm p (pmul (tr o) (tr [(rs (-z * k) p : Int), k]))) x - ev o x * ((x - z) * k) := by
  refine cong_tr (ev_nm hp _ x) ?_
  rw [ev_pmul]
  refine cong_mul ((tr_q p o).ev x) (cong_tr ((tr_q p _).ev x) ?_)
  rw [ev_two]
  have h1 := rs_cong hp (-z * k)
  obtain ⟨u, hu⟩ := h1
  refine ⟨u, ?_⟩
  generalize (rs (-z * k) p : Int) = r at *
  grind

theorem inv_opp {P D u v c2 c3 c4 c5 : Int} (ia : (D + P * c4) * u - 1 = P * c2) (ib : (-D + P * c5) * v - 1 = P * c3) : u + v = P * (u * v * c4 + u * v * c5 - u * c3 - v * c2) := by
  have t : u + v - P * (u * v * c4 + u * v * c5 - u * c3 - v * c2) = -(v * ((D + P * c4) * u - 1 - P * c2)) - u * ((-D + P * c5) * v - 1 - P * c3) := by
    clear ia ib
    grind
  rw [ia, ib, Int.sub_self, Int.sub_self, Int.mul_zero, Int.mul_zero] at t
  omega

/-- What the loop over the other points holds. -/
def LagK (p : Nat) (X : Nat → Int) (i : Nat) (y : Int) (j : Nat) (k : Int) : Prop := ∃ o, OneIs p X i y j o ∧ k = ev o 0 % (p : Int)

theorem LagK.start {p : Nat} (X : Nat → Int) (i : Nat) {y : Int} (hy : 0 ≤ y ∧ y < (p : Int)) : LagK p X i y 0 y :=
  ⟨[y], OneIs.start X i hy, by rw [show ev [y] 0 = y by simp [ev], Int.emod_eq_of_lt hy.1 hy.2]⟩

theorem LagK.skip {p : Nat} {X : Nat → Int} {i : Nat} {y k : Int} (h : LagK p X i y i k) : LagK p X i y (i + 1) k := by
  obtain ⟨o, h1, h2⟩ := h
  exact ⟨o, h1.skip, h2⟩

theorem LagK.next {p : Nat} (hp : Pr p) {X : Nat → Int} {i j : Nat} {y k : Int} (h : LagK p X i y j k) (hne : j ≠ i) (hd : ¬ (p : Int) ∣ X i - X j) :
    LagK p X i y (j + 1) (k * X j % (p : Int) * (iv p (rs (X j - X i) p : Int) : Int) % (p : Int)) := by
  have hp1 := hp.1
  obtain ⟨o, h1, h2⟩ := h
  refine ⟨_, h1.next hp hne hd rfl, ?_⟩
  refine md ?_
  have e1 := one_ev (p := p) (by omega) o (X j) (iv p (rs (X i - X j) p : Int) : Int) 0
  have ha : ¬ (p : Int) ∣ (rs (X i - X j) p : Int) := fun hh => hd (by
    have := rs_cong (p := p) (by omega) (X i - X j)
    exact dvd_back (cong_sy this) hh)
  have hb : ¬ (p : Int) ∣ (rs (X j - X i) p : Int) := fun hh => hd (by
    have := rs_cong (p := p) (by omega) (X j - X i)
    have h3 := dvd_back (cong_sy this) hh
    have h4 := (Int.dvd_neg).2 h3
    rwa [show -(X j - X i) = X i - X j by omega] at h4)
  have ia := iv_ok hp ha
  have ib := iv_ok hp hb
  have ra := rs_cong (p := p) (by omega) (X i - X j)
  have rb := rs_cong (p := p) (by omega) (X j - X i)
  have m1 := mod_cong (p := p) (ev o 0)
  have m2 := mod_cong (p := p) (k * X j)
  rw [← h2] at m1
  generalize (iv p (rs (X i - X j) p : Int) : Int) = u at *
  generalize (iv p (rs (X j - X i) p : Int) : Int) = v at *
  generalize (rs (X i - X j) p : Int) = r at *
  generalize (rs (X j - X i) p : Int) = t at *
  generalize ev (nm p (pmul (tr o) (tr [(rs (-X j * u) p : Int), u]))) 0 = E at *
  generalize k * X j % (p : Int) = q at *
  generalize ev o 0 = w at *
  obtain ⟨c1, e1⟩ := e1
  obtain ⟨c2, ia⟩ := ia
  obtain ⟨c3, ib⟩ := ib
  obtain ⟨c4, ra⟩ := ra
  obtain ⟨c5, rb⟩ := rb
  obtain ⟨c6, m1⟩ := m1
  obtain ⟨c7, m2⟩ := m2
  clear h1 h2 hd ha hb hne hp
  generalize X i = xi at *
  generalize X j = xj at *
  have hr : r = xi - xj + (p : Int) * c4 := by omega
  have ht : t = xj - xi + (p : Int) * c5 := by omega
  subst hr ht
  have huv : (p : Int) ∣ u + v := by
    refine ⟨u * v * c4 + u * v * c5 - u * c3 - v * c2, ?_⟩
    refine inv_opp (D := xi - xj) ia ?_
    rw [show -(xi - xj) = xj - xi by omega]
    exact ib
  obtain ⟨c8, huv⟩ := huv
  have hq : q = k * xj + (p : Int) * c7 := by omega
  have hk : k = w + (p : Int) * c6 := by omega
  have hE : E = w * ((0 - xj) * u) + (p : Int) * c1 := by omega
  have hv : v = (p : Int) * c8 - u := by omega
  refine ⟨w * xj * c8 + c6 * xj * v + c7 * v - c1, ?_⟩
  clear ia ib ra rb m1 m2 e1 huv
  generalize (p : Int) = P at *
  subst hq hk hE hv
  grind

/-- What the loop over the points holds. -/
def LagS (p : Nat) (X Y : Nat → Int) (n i : Nat) (s : Int) : Prop := ∃ a, SumIs p X Y n i a ∧ s = ev a 0 % (p : Int)

theorem LagS.start (p : Nat) (X Y : Nat → Int) (n : Nat) : LagS p X Y n 0 0 := ⟨[], SumIs.start p X Y n, by simp [ev]⟩

theorem LagS.next {p : Nat} (hp : 1 ≤ p) {X Y : Nat → Int} {n i : Nat} {s k : Int} (h : LagS p X Y n i s) (hi : i < n) (hk : LagK p X i (Y i) n k) : LagS p X Y n (i + 1) ((s + k) % (p : Int)) := by
  obtain ⟨a, h1, h2⟩ := h
  obtain ⟨o, k1, k2⟩ := hk
  refine ⟨_, h1.next hp hi k1, ?_⟩
  refine md ?_
  have e1 : (p : Int) ∣ ev (nm p (padd a (tr o))) 0 - (ev a 0 + ev o 0) := by
    refine cong_tr (ev_nm hp _ 0) ?_
    rw [ev_padd]
    exact cong_add (by simp) ((tr_q p o).ev 0)
  have m1 := mod_cong (p := p) (ev a 0)
  have m2 := mod_cong (p := p) (ev o 0)
  rw [← h2] at m1
  rw [← k2] at m2
  have := cong_tr (cong_add m1 m2) (cong_sy e1)
  exact this

/-- What they have in common at 0. -/
def JoinIs (p : Nat) (X Y : Nat → Int) (n : Nat) (v : Int) : Prop := ∃ a, ThrIs p X Y n a ∧ v = ev a 0 % (p : Int)

theorem LagS.done {p : Nat} {X Y : Nat → Int} {n : Nat} {s : Int} (h : LagS p X Y n n s) : JoinIs p X Y n s := by
  obtain ⟨a, h1, h2⟩ := h
  exact ⟨a, h1.done, h2⟩

theorem JoinIs.uniq {p : Nat} (hp : Pr p) {X Y : Nat → Int} {n : Nat} (hd : Dist p X n) {v v' : Int} (h : JoinIs p X Y n v) (h' : JoinIs p X Y n v') : v = v' := by
  obtain ⟨a, h1, h2⟩ := h
  obtain ⟨b, k1, k2⟩ := h'
  rw [h2, k2, h1.uniq hp hd k1]

theorem ev_zero (l : List Int) : ev l 0 = co l 0 := by
  cases l with
  | nil => rfl
  | cons c l => show c + 0 * ev l 0 = c; simp

/-- The polynomial of a secret and numbers. -/
theorem thr_of {p : Nat} (hp : 1 ≤ p) {s : Int} {m : List Int} (hb : Bd p (s :: m)) {X Y : Nat → Int} {n : Nat} (hl : m.length < n) (hY : ∀ j, j < n → Y j = ev (s :: m) (X j) % (p : Int)) : ThrIs p X Y n (tr (s :: m)) := by
  refine ⟨tr_cn hb, ?_, fun j hj => ?_⟩
  · have := tr_length (s :: m)
    simp at this
    omega
  · rw [hY j hj]
    exact cong_tr ((tr_q p _).ev (X j)) (cong_sy (mod_cong _))

/-- SHAMIR: shares enough tell the secret. -/
theorem enough {p : Nat} (hp : Pr p) {s : Int} {m : List Int} (hb : Bd p (s :: m)) {X Y : Nat → Int} {n : Nat} (hl : m.length < n) (hY : ∀ j, j < n → Y j = ev (s :: m) (X j) % (p : Int)) (hd : Dist p X n) {v : Int} (h : JoinIs p X Y n v) : v = s := by
  have hp1 := hp.1
  have hs := hb s (by simp)
  refine h.uniq hp hd ⟨_, thr_of (by omega) hb hl hY, ?_⟩
  rw [ev_zero, co_tr]
  show s = co (s :: m) 0 % (p : Int)
  rw [show co (s :: m) 0 = s by simp [co], Int.emod_eq_of_lt hs.1 hs.2]

/-! ### what explains points -/

/-- The points are shares of the secret s with the numbers m. -/
def ExpIs (p : Nat) (X Y : Nat → Int) (n : Nat) (s : Int) (m : List Int) : Prop := m.length = n ∧ Bd p m ∧ ∀ j, j < n → Y j = ev (s :: m) (X j) % (p : Int)

/-- A first point ahead of the others. -/
def ahead (z : Int) (X : Nat → Int) : Nat → Int
  | 0 => z
  | j + 1 => X j

theorem dist_ahead {p : Nat} {X : Nat → Int} {n : Nat} (hd : Dist p X n) (h0 : ∀ j, j < n → ¬ (p : Int) ∣ X j) : Dist p (ahead 0 X) (n + 1) := by
  intro i j hi hj
  match i, j, hi, hj with
  | i + 1, 0, hi, _ =>
    show ¬ (p : Int) ∣ X i - 0
    rw [Int.sub_zero]
    exact h0 i (by omega)
  | i + 1, j + 1, hi, hj => exact hd i j (by omega) (by omega)

theorem ev_cons_zero (s : Int) (m : List Int) : ev (s :: m) 0 = s := by show s + 0 * ev m 0 = s; simp

theorem ExpIs.thr {p : Nat} (hp : 1 ≤ p) {X Y : Nat → Int} {n : Nat} {s : Int} {m : List Int} (hs : 0 ≤ s ∧ s < (p : Int)) (h : ExpIs p X Y n s m) : ThrIs p (ahead 0 X) (ahead s Y) (n + 1) (tr (s :: m)) := by
  obtain ⟨h1, h2, h3⟩ := h
  refine thr_of hp (fun x hx => ?_) (by omega) (fun j hj => ?_)
  · rcases List.mem_cons.1 hx with e | e
    · rw [e]; exact hs
    · exact h2 x e
  · match j, hj with
    | 0, _ =>
      show s = ev (s :: m) 0 % (p : Int)
      rw [ev_cons_zero, Int.emod_eq_of_lt hs.1 hs.2]
    | j + 1, hj => exact h3 j (by omega)

theorem list_of_co {l m : List Int} (hl : l.length = m.length) (h : ∀ i, co l i = co m i) : l = m := by
  apply List.ext_getElem hl
  intro i h1 h2
  have := h i
  simpa [co, List.getD, h1, h2] using this

/-- No other numbers. -/
theorem ExpIs.uniq {p : Nat} (hp : Pr p) {X Y : Nat → Int} {n : Nat} {s : Int} {m m' : List Int} (hs : 0 ≤ s ∧ s < (p : Int)) (hd : Dist p X n) (h0 : ∀ j, j < n → ¬ (p : Int) ∣ X j) (h : ExpIs p X Y n s m) (h' : ExpIs p X Y n s m') : m = m' := by
  have hp1 := hp.1
  have e := (h.thr (by omega) hs).uniq hp (dist_ahead hd h0) (h'.thr (by omega) hs)
  refine list_of_co (by rw [h.1, h'.1]) (fun i => ?_)
  have h1 := co_tr (s :: m) (i + 1)
  have h2 := co_tr (s :: m') (i + 1)
  rw [e] at h1
  rw [co_cons] at h1 h2
  rw [← h1, ← h2]

/-- The numbers behind the first of a polynomial through the points and the secret. -/
theorem exp_of {p : Nat} (hp : Pr p) {X Y : Nat → Int} {n : Nat} {s : Int} (hs : 0 ≤ s ∧ s < (p : Int)) (hY : ∀ j, j < n → 0 ≤ Y j ∧ Y j < (p : Int)) {a : List Int} (h : ThrIs p (ahead 0 X) (ahead s Y) (n + 1) a) : ExpIs p X Y n s (mk n (fun i => co a (i + 1))) ∧ co a 0 = s := by
  have hp1 := hp.1
  obtain ⟨h1, h2, h3⟩ := h
  have hc0 : co a 0 = s := by
    have := h3 0 (by omega)
    show co a 0 = s
    have h4 : (p : Int) ∣ ev a 0 - s := this
    rw [ev_zero] at h4
    exact small_of h4 (h1.bd (by omega) 0) hs
  have hq : ∀ x, (p : Int) ∣ ev (s :: mk n (fun i => co a (i + 1))) x - ev a x := fun x => by
    have hE : Eqv (s :: mk n (fun i => co a (i + 1))) a := fun i => by
      match i with
      | 0 => rw [hc0]; simp [co]
      | i + 1 =>
        rw [co_cons, co_mk]
        by_cases hi : i < n
        · rw [if_pos hi]
        · rw [if_neg hi, co_over (by omega)]
    exact Q.ev (Eqv.q hE) x
  refine ⟨⟨mk_length _ _, Bd.mk fun i _ => h1.bd (by omega) _, fun j hj => ?_⟩, hc0⟩
  have h4 := h3 (j + 1) (by omega)
  have h5 : (p : Int) ∣ ev a (X j) - Y j := h4
  have h6 := md (cong_tr (hq (X j)) h5)
  rw [h6, Int.emod_eq_of_lt (hY j hj).1 (hY j hj).2]

/-- SHAMIR: the same points, with sums. -/
theorem ev_sum {p : Nat} (hp : 1 ≤ p) (a b : Int) (m k : List Int) (hl : m.length = k.length) (x : Int) : ev (((a + b) % (p : Int)) :: mk m.length (fun i => (co m i + co k i) % (p : Int))) x % (p : Int) = (ev (a :: m) x % (p : Int) + ev (b :: k) x % (p : Int)) % (p : Int) := by
  refine md ?_
  have h1 := mod_cong (p := p) (ev (a :: m) x)
  have h2 := mod_cong (p := p) (ev (b :: k) x)
  refine cong_tr ?_ (cong_sy (cong_add h1 h2))
  rw [← ev_padd]
  refine Q.ev (fun i => ?_) x
  rw [co_padd]
  match i with
  | 0 =>
    show (p : Int) ∣ (a + b) % (p : Int) - (a + b)
    exact mod_cong _
  | i + 1 =>
    rw [co_cons, co_cons, co_cons, co_mk]
    by_cases hi : i < m.length
    · rw [if_pos hi]; exact mod_cong _
    · rw [if_neg hi, co_over (l := m) (by omega), co_over (l := k) (by omega)]; simp

end Go.Proofs.Ytpnmepobdnclkaa.Num39

namespace Go.Proofs.Ytpnmepobdnclkaa.Num45
set_option linter.unusedVariables false
open Go.Proofs.Ytpnmepobdnclkaa.Num Go.Proofs.Ytpnmepobdnclkaa.Num7 Go.Proofs.Ytpnmepobdnclkaa.Num16 Go.Proofs.Ytpnmepobdnclkaa.Num17 Go.Proofs.Ytpnmepobdnclkaa.Num34 Go.Proofs.Ytpnmepobdnclkaa.Num35

/-! ### lists that have one value everywhere -/

theorem big_dvd {c x : Int} (h : x ∣ c) (hx : c < x) (hx2 : -c < x) : c = 0 := by
  obtain ⟨k, hk⟩ := h
  rcases Int.lt_trichotomy k 0 with h1 | h1 | h1
  · have hx0 : 0 < x := by omega
    have : x * k ≤ x * (-1) := Int.mul_le_mul_of_nonneg_left (by omega) (by omega)
    omega
  · rw [h1, Int.mul_zero] at hk; exact hk
  · have hx0 : 0 < x := by omega
    have : x * 1 ≤ x * k := Int.mul_le_mul_of_nonneg_left (by omega) (by omega)
    omega

theorem zero_of_values : ∀ (d : List Int) (N : Int), (∀ x, N ≤ x → ev d x = 0) → ∀ i, co d i = 0
  | [], _, _, i => by simp [co]
  | c :: E, N, h, i => by
    have hc : c = 0 := by
      have h1 := h (N.natAbs + c.natAbs + 1) (by omega)
      have h2 : c + ((N.natAbs + c.natAbs + 1 : Nat) : Int) * ev E ((N.natAbs + c.natAbs + 1 : Nat) : Int) = 0 := h1
      refine big_dvd (x := ((N.natAbs + c.natAbs + 1 : Nat) : Int)) ⟨-ev E ((N.natAbs + c.natAbs + 1 : Nat) : Int), ?_⟩ (by omega) (by omega)
      rw [Int.mul_neg]; omega
    have hE : ∀ x, (N.natAbs : Int) + 1 ≤ x → ev E x = 0 := fun x hx => by
      have h1 : c + x * ev E x = 0 := h x (by omega)
      rw [hc, Int.zero_add] at h1
      rcases Int.mul_eq_zero.1 h1 with e | e
      · omega
      · exact e
    match i with
    | 0 => simpa [co] using hc
    | i + 1 =>
      have := zero_of_values E _ hE i
      simpa [co] using this

theorem eqv_of_ev {a b : List Int} (h : ∀ x, ev a x = ev b x) : Eqv a b := fun i => by
  have := zero_of_values (padd a (pneg b)) 0 (fun x _ => by rw [ev_padd, ev_pneg, h x]; omega) i
  rw [co_padd, co_pneg] at this
  omega

/-- An identity. -/
theorem q_of {p : Nat} {a b : List Int} (h : ∀ x, ev a x = ev b x) : Q p a b := Eqv.q (eqv_of_ev h)

/-- An identity out of one. -/
theorem q_of1 {p : Nat} {a b k u v : List Int} (hu : Q p u v) (h : ∀ x, ev a x - ev b x = ev k x * (ev u x - ev v x)) : Q p a b := by
  have e : Eqv (padd a (pneg b)) (pmul k (padd u (pneg v))) := eqv_of_ev (fun x => by
    rw [ev_padd, ev_pneg, ev_pmul, ev_padd, ev_pneg]
    have := h x
    rw [show ev u x + -ev v x = ev u x - ev v x by omega, ← this]; omega)
  have hz : Q p (padd u (pneg v)) [] := fun i => by
    rw [co_padd, co_pneg]
    have := hu i
    rw [show co u i + -co v i - co [] i = co u i - co v i by simp [co]; omega]
    exact this
  have h2 : Q p (padd a (pneg b)) [] := (Eqv.q e).trans (((Q.refl p k).pmul hz).trans (Eqv.q (pmul_nil k)))
  intro i
  have h3 := h2 i
  rw [co_padd, co_pneg] at h3
  rwa [show co a i + -co b i - co [] i = co a i - co b i by simp [co]; omega] at h3

/-! ### a degree at most, and the number there -/

/-- No number behind the place d; c there. -/
def Tp (p : Nat) (a : List Int) (d : Nat) (c : Int) : Prop := (∀ i, d < i → (p : Int) ∣ co a i) ∧ (p : Int) ∣ co a d - c

theorem Tp.q {p : Nat} {a b : List Int} {d : Nat} {c : Int} (h : Tp p a d c) (k : Q p a b) : Tp p b d c :=
  ⟨fun i hi => dvd_back (cong_sy (k i)) (h.1 i hi), cong_tr (cong_sy (k d)) h.2⟩

theorem Tp.c {p : Nat} {a : List Int} {d : Nat} {c c' : Int} (h : Tp p a d c) (k : (p : Int) ∣ c - c') : Tp p a d c' := ⟨h.1, cong_tr h.2 k⟩

theorem Tp.up {p : Nat} {a : List Int} {d e : Nat} {c : Int} (h : Tp p a d c) (k : d < e) : Tp p a e 0 :=
  ⟨fun i hi => h.1 i (by omega), by rw [Int.sub_zero]; exact h.1 e k⟩

theorem Tp.add {p : Nat} {a b : List Int} {d : Nat} {c c' : Int} (h : Tp p a d c) (k : Tp p b d c') : Tp p (padd a b) d (c + c') :=
  ⟨fun i hi => by rw [co_padd]; exact Int.dvd_add (h.1 i hi) (k.1 i hi), by rw [co_padd]; exact cong_add h.2 k.2⟩

theorem Tp.scale {p : Nat} {a : List Int} {d : Nat} {c : Int} (h : Tp p a d c) (z : Int) : Tp p (psc z a) d (z * c) :=
  ⟨fun i hi => by rw [co_psc]; exact Int.dvd_trans (h.1 i hi) (Int.dvd_mul_left _ _), by rw [co_psc]; exact cong_mul (by simp) h.2⟩

theorem Tp.neg {p : Nat} {a : List Int} {d : Nat} {c : Int} (h : Tp p a d c) : Tp p (pneg a) d (-c) := by
  have := h.scale (-1)
  rw [show (-1 : Int) * c = -c by omega] at this
  exact this

theorem Tp.nm {p : Nat} (hp : 1 ≤ p) {a : List Int} {d : Nat} {c : Int} (h : Tp p a d c) : Tp p (nm p a) d c := h.q (nm_q hp a).symm

theorem Tp.len {p : Nat} (hp : 1 ≤ p) {a : List Int} {d : Nat} {c : Int} (h : Tp p a d c) : (Go.Proofs.Ytpnmepobdnclkaa.Num17.nm p a).length ≤ d + 1 :=
  (nm_cn hp a).len_le hp (fun i hi => (h.nm hp).1 i (by omega))

theorem Tp.mul {p : Nat} (hp : 1 ≤ p) {a b : List Int} {d e : Nat} {c c' : Int} (h : Tp p a d c) (k : Tp p b e c') : Tp p (pmul a b) (d + e) (c * c') := by
  have hq : Q p (pmul (Go.Proofs.Ytpnmepobdnclkaa.Num17.nm p a) (Go.Proofs.Ytpnmepobdnclkaa.Num17.nm p b)) (pmul a b) := (nm_q hp a).pmul (nm_q hp b)
  have la := h.len hp
  have lb := k.len hp
  refine Tp.q ⟨fun i hi => ?_, ?_⟩ hq
  · have : co (pmul (Go.Proofs.Ytpnmepobdnclkaa.Num17.nm p a) (Go.Proofs.Ytpnmepobdnclkaa.Num17.nm p b)) i = 0 := mul_over (by omega)
    rw [this]; simp
  · rw [co_top la lb]
    exact cong_mul (h.nm hp).2 (k.nm hp).2

/-- The degree, where the number there is not 0. -/
theorem Tp.deg {p : Nat} (hp : 1 ≤ p) {a : List Int} {d : Nat} {c : Int} (h : Tp p a d c) (hc : ¬ (p : Int) ∣ c) : (Go.Proofs.Ytpnmepobdnclkaa.Num17.nm p a).length = d + 1 := by
  have l1 := h.len hp
  have l2 : d < (Go.Proofs.Ytpnmepobdnclkaa.Num17.nm p a).length := len_gt (p := p) (fun hd => hc (dvd_back (cong_sy (h.nm hp).2) hd))
  omega

theorem tp_of {p : Nat} (hp : 1 ≤ p) (a : List Int) {d : Nat} (h : (Go.Proofs.Ytpnmepobdnclkaa.Num17.nm p a).length ≤ d + 1) : Tp p a d (co a d) :=
  ⟨fun i hi => by
    have h1 := nm_q hp a i
    rw [co_over (by omega)] at h1
    exact dvd_back (cong_sy h1) (by simp), by simp⟩

end Go.Proofs.Ytpnmepobdnclkaa.Num45

namespace Go.Proofs.Ytpnmepobdnclkaa.Num61
set_option linter.unusedVariables false
open Go.Proofs.Ytpnmepobdnclkaa.Num Go.Proofs.Ytpnmepobdnclkaa.Num13 Go.Proofs.Ytpnmepobdnclkaa.Num16 Go.Proofs.Ytpnmepobdnclkaa.Num17 Go.Proofs.Ytpnmepobdnclkaa.Num34 Go.Proofs.Ytpnmepobdnclkaa.Num35 Go.Proofs.Ytpnmepobdnclkaa.Num39
open Go.Proofs.Ytpnmepobdnclkaa.Num7 (ev)

/-- The parties' places. -/
def XP (j : Nat) : Int := (j : Int) + 1

theorem xp_dist {p n : Nat} (h : n < p) : Dist p XP n := fun i j hi hj hd => by
  unfold XP at hd
  have h1 : ((i : Int) + 1 - ((j : Int) + 1)) = ((i - j : Nat) : Int) := by omega
  rw [h1] at hd
  have h2 := Int.natCast_dvd_natCast.1 hd
  have := Nat.le_of_dvd (by omega) h2
  omega

/-- Shares of v, of a degree of t at most: of n parties. -/
def Sh (p t n : Nat) (v : Int) (Y : Nat → Int) : Prop := ∃ f : List Int, f.length ≤ t + 1 ∧ (p : Int) ∣ ev f 0 - v ∧ ∀ j, j < n → (p : Int) ∣ ev f (XP j) - Y j

theorem Sh.cong {p t n : Nat} {v v' : Int} {Y Y' : Nat → Int} (h : Sh p t n v Y) (hv : (p : Int) ∣ v - v') (hY : ∀ j, j < n → (p : Int) ∣ Y j - Y' j) : Sh p t n v' Y' := by
  obtain ⟨f, h1, h2, h3⟩ := h
  exact ⟨f, h1, cong_tr h2 hv, fun j hj => cong_tr (h3 j hj) (hY j hj)⟩

theorem sh_const (p t n : Nat) (c : Int) : Sh p t n c (fun _ => c) :=
  ⟨[c], by show 1 ≤ t + 1; omega, by rw [show ev [c] 0 = c by simp [ev]]; simp, fun j _ => by rw [show ev [c] (XP j) = c by simp [ev]]; simp⟩

theorem sh_split {p t n : Nat} {s : Int} {m : List Int} (hm : m.length ≤ t) {Y : Nat → Int} (hY : ∀ j, j < n → Y j = ev (s :: m) (XP j) % (p : Int)) : Sh p t n s Y := by
  refine ⟨s :: m, by simpa using hm, by rw [ev_cons_zero]; simp, fun j hj => ?_⟩
  rw [hY j hj]
  exact cong_sy (Int.dvd_of_emod_eq_zero (by rw [Int.sub_emod, Int.emod_emod_of_dvd _ (Int.dvd_refl _)]; simp))

theorem Sh.add {p t n : Nat} {v w : Int} {Y Z : Nat → Int} (h : Sh p t n v Y) (k : Sh p t n w Z) : Sh p t n (v + w) (fun j => Y j + Z j) := by
  obtain ⟨f, h1, h2, h3⟩ := h
  obtain ⟨g, k1, k2, k3⟩ := k
  refine ⟨padd f g, by rw [padd_length]; omega, by rw [ev_padd]; exact cong_add h2 k2, fun j hj => ?_⟩
  rw [ev_padd]
  exact cong_add (h3 j hj) (k3 j hj)

theorem psc_length (k : Int) (a : List Int) : (psc k a).length = a.length := by simp [psc]

theorem Sh.scale {p t n : Nat} {v : Int} {Y : Nat → Int} (h : Sh p t n v Y) (c : Int) : Sh p t n (c * v) (fun j => c * Y j) := by
  obtain ⟨f, h1, h2, h3⟩ := h
  refine ⟨psc c f, by rw [psc_length]; exact h1, by rw [ev_psc]; exact cong_mul (by simp) h2, fun j hj => ?_⟩
  rw [ev_psc]
  exact cong_mul (by simp) (h3 j hj)

theorem sh_zero (p t n : Nat) : Sh p t n 0 (fun _ => 0) := sh_const p t n 0

/-- So many shares of parts are shares of the parts together. -/
theorem sh_su {p t n : Nat} {v : Nat → Int} {T : Nat → Nat → Int} : ∀ m : Nat, (∀ i, i < m → Sh p t n (v i) (T i)) → Sh p t n (su v m) (fun j => su (fun i => T i j) m)
  | 0, _ => sh_zero p t n
  | m + 1, h => (sh_su m (fun i hi => h i (by omega))).add (h m (by omega))

theorem su_cong {p : Int} {f g : Nat → Int} : ∀ {n : Nat}, (∀ i, i < n → p ∣ f i - g i) → p ∣ su f n - su g n
  | 0, _ => by show p ∣ 0 - 0; simp
  | n + 1, h => cong_add (su_cong (fun i hi => h i (by omega))) (h n (by omega))

/-! ### the numbers by which a value at 0 is reckoned -/

/-- 1 at one place, 0 at all others. -/
def dl (i j : Nat) : Int := if j = i then 1 else 0

theorem su_dl {n i : Nat} (c : Nat → Int) (hi : i < n) : su (fun k => c k * dl k i) n = c i := by
  have key : ∀ m, su (fun k => c k * dl k i) m = if i < m then c i else 0 := fun m => by
    induction m with
    | zero => rfl
    | succ m ih =>
      show su (fun k => c k * dl k i) m + c m * dl m i = _
      rw [ih]
      unfold dl
      by_cases e : i = m
      · subst e
        rw [if_neg (by omega), if_pos rfl, if_pos (by omega)]
        omega
      · rw [if_neg e]
        by_cases e2 : i < m
        · rw [if_pos e2, if_pos (by omega)]; omega
        · rw [if_neg e2, if_neg (by omega)]; omega
  rw [key, if_pos hi]

/-- Polynomials, each times a number, together. -/
def lin (c : Nat → Int) (E : Nat → List Int) : Nat → List Int
  | 0 => []
  | m + 1 => padd (lin c E m) (psc (c m) (E m))

theorem lin_len {c : Nat → Int} {E : Nat → List Int} {n : Nat} : ∀ {m : Nat}, (∀ i, i < m → (E i).length ≤ n) → (lin c E m).length ≤ n
  | 0, _ => Nat.zero_le _
  | m + 1, h => by
    show (padd _ _).length ≤ n
    rw [padd_length, psc_length]
    have := lin_len (c := c) (m := m) (fun i hi => h i (by omega))
    have := h m (by omega)
    omega

theorem lin_ev (c : Nat → Int) (E : Nat → List Int) (x : Int) : ∀ m, ev (lin c E m) x = su (fun i => c i * ev (E i) x) m
  | 0 => rfl
  | m + 1 => by
    show ev (padd _ _) x = _
    rw [ev_padd, ev_psc, lin_ev c E x m]
    rfl

theorem thr_nm {p : Nat} (hp : 1 ≤ p) {X Y : Nat → Int} {n : Nat} {a : List Int} (hl : a.length ≤ n) (h : ∀ j, j < n → (p : Int) ∣ ev a (X j) - Y j) : ThrIs p X Y n (nm p a) :=
  ⟨nm_cn hp a, Nat.le_trans (nm_length p a) hl, fun j hj => cong_tr ((nm_q hp a).ev (X j)) (h j hj)⟩

theorem mod_same {p : Nat} (x : Int) : (p : Int) ∣ x % (p : Int) - x := by
  refine cong_sy (Int.dvd_of_emod_eq_zero ?_)
  rw [Int.sub_emod, Int.emod_emod_of_dvd _ (Int.dvd_refl _)]
  simp

/-- A polynomial's value at 0, of its values at all parties' places. -/
theorem at_zero {p n : Nat} (hp : Pr p) (hn : n < p) {r : Nat → Int} (hr : ∀ i, i < n → JoinIs p XP (dl i) n (r i)) {a : List Int} (ha : a.length ≤ n) : (p : Int) ∣ su (fun i => ev a (XP i) * r i) n - ev a 0 := by
  have hp1 := hp.1
  have hex : ∀ i, ∃ e : List Int, i < n → ThrIs p XP (dl i) n e ∧ r i = ev e 0 % (p : Int) := fun i => by
    by_cases hi : i < n
    · obtain ⟨e, h1, h2⟩ := hr i hi
      exact ⟨e, fun _ => ⟨h1, h2⟩⟩
    · exact ⟨[], fun h => absurd h hi⟩
  obtain ⟨E, hE⟩ := Classical.axiomOfChoice hex
  have hlen : (lin (fun i => ev a (XP i)) E n).length ≤ n := lin_len (fun i hi => (hE i hi).1.2.1)
  have h1 : ThrIs p XP (fun j => ev a (XP j)) n (nm p (lin (fun i => ev a (XP i)) E n)) := thr_nm (by omega) hlen (fun j hj => by
    rw [lin_ev]
    have : (p : Int) ∣ su (fun i => ev a (XP i) * ev (E i) (XP j)) n - su (fun i => ev a (XP i) * dl i j) n := su_cong (fun i hi => cong_mul (by simp) ((hE i hi).1.2.2 j hj))
    have e : su (fun i => ev a (XP i) * dl i j) n = ev a (XP j) := by
      have := su_dl (n := n) (i := j) (fun i => ev a (XP i)) hj
      rw [← this]
    rwa [e] at this)
  have h2 : ThrIs p XP (fun j => ev a (XP j)) n (nm p a) := thr_nm (by omega) ha (fun j _ => by simp)
  have e := h1.uniq hp (xp_dist hn) h2
  have q1 := (nm_q (p := p) (by omega) (lin (fun i => ev a (XP i)) E n)).ev 0
  have q2 := (nm_q (p := p) (by omega) a).ev 0
  rw [e] at q1
  have h3 : (p : Int) ∣ ev (lin (fun i => ev a (XP i)) E n) 0 - ev a 0 := cong_tr (cong_sy q1) q2
  rw [lin_ev] at h3
  refine cong_tr (su_cong (fun i hi => cong_mul (by simp) ?_)) h3
  rw [(hE i hi).2]
  exact mod_same _

theorem mul_len_le {f g : List Int} {t : Nat} (hf : f.length ≤ t + 1) (hg : g.length ≤ t + 1) : (pmul f g).length ≤ 2 * t + 1 := by
  by_cases h1 : f = []
  · subst h1; show ([] : List Int).length ≤ _; simp
  · by_cases h2 : g = []
    · subst h2
      have : ∀ a : List Int, (pmul a []).length ≤ a.length := fun a => by
        induction a with
        | nil => exact Nat.le_refl _
        | cons x xs ih =>
          show (padd (psc x []) (0 :: pmul xs [])).length ≤ _
          rw [padd_length, psc_length]
          simp
          exact ih
      have := this f
      omega
    · rw [pmul_length f g h2 h1]
      omega

/-- BEN-OR, GOLDWASSER, WIGDERSON: products of shares, shared anew, and reckoned together, are shares of the product. -/
theorem Sh.mul {p t n : Nat} (hp : Pr p) (hn : n = 2 * t + 1) (hnp : n < p) {v w : Int} {Y Z : Nat → Int} (h : Sh p t n v Y) (k : Sh p t n w Z) {r : Nat → Int} (hr : ∀ i, i < n → JoinIs p XP (dl i) n (r i))
    {T : Nat → Nat → Int} {c : Nat → Int} (hc : ∀ i, i < n → (p : Int) ∣ c i - Y i * Z i) (hT : ∀ i, i < n → Sh p t n (c i) (T i)) : Sh p t n (v * w) (fun j => su (fun i => r i * T i j) n) := by
  obtain ⟨f, h1, h2, h3⟩ := h
  obtain ⟨g, k1, k2, k3⟩ := k
  have hz := at_zero hp hnp hr (a := pmul f g) (by rw [hn]; exact mul_len_le h1 k1)
  have hs := sh_su (p := p) (t := t) (n := n) (v := fun i => r i * c i) (T := fun i j => r i * T i j) n (fun i hi => (hT i hi).scale (r i))
  refine hs.cong ?_ (fun j _ => by simp)
  have e1 : (p : Int) ∣ su (fun i => r i * c i) n - su (fun i => ev (pmul f g) (XP i) * r i) n := su_cong (fun i hi => by
    rw [Int.mul_comm (ev (pmul f g) (XP i)) (r i)]
    refine cong_mul (by simp) (cong_tr (hc i hi) (cong_sy ?_))
    rw [ev_pmul]
    exact cong_mul (h3 i hi) (k3 i hi))
  refine cong_tr e1 (cong_tr hz ?_)
  rw [ev_pmul]
  exact cong_mul h2 k2

/-- What shares have in common at 0 is what they are shares of: of any places that are not alike, and more than t. -/
theorem Sh.join {p t n : Nat} (hp : Pr p) {v : Int} {Y : Nat → Int} (h : Sh p t n v Y) (hv : 0 ≤ v ∧ v < (p : Int)) {X Y' : Nat → Int} {m : Nat} (hm : t < m) (hX : ∀ j, j < m → ∃ i, i < n ∧ X j = XP i ∧ Y' j = Y i) (hd : Dist p X m) {u : Int} (hu : JoinIs p X Y' m u) : u = v := by
  have hp1 := hp.1
  obtain ⟨f, h1, h2, h3⟩ := h
  have ht : ThrIs p X Y' m (nm p f) := thr_nm (by omega) (by omega) (fun j hj => by
    obtain ⟨i, hi, e1, e2⟩ := hX j hj
    rw [e1, e2]
    exact h3 i hi)
  refine hu.uniq hp hd ⟨_, ht, ?_⟩
  have q := (nm_q (p := p) (by omega) f).ev 0
  have := md (cong_tr q h2)
  rw [this, Int.emod_eq_of_lt hv.1 hv.2]

theorem Sh.all {p t n : Nat} (hp : Pr p) (hn : t < n) (hnp : n < p) {v : Int} {Y : Nat → Int} (h : Sh p t n v Y) (hv : 0 ≤ v ∧ v < (p : Int)) {u : Int} (hu : JoinIs p XP Y n u) : u = v :=
  h.join hp hv hn (fun j hj => ⟨j, hj, rfl, rfl⟩) (xp_dist hnp) hu

end Go.Proofs.Ytpnmepobdnclkaa.Num61

namespace Go.Proofs.Ytpnmepobdnclkaa.Num69
set_option linter.unusedVariables false
open Go.Proofs.Ytpnmepobdnclkaa.Num Go.Proofs.Ytpnmepobdnclkaa.Num13 Go.Proofs.Ytpnmepobdnclkaa.Num16 Go.Proofs.Ytpnmepobdnclkaa.Num17 Go.Proofs.Ytpnmepobdnclkaa.Num34 Go.Proofs.Ytpnmepobdnclkaa.Num35 Go.Proofs.Ytpnmepobdnclkaa.Num39 Go.Proofs.Ytpnmepobdnclkaa.Num61
open Go.Proofs.Ytpnmepobdnclkaa.Num7 (ev)

/-! ### what is wrong with gates -/

/-- The code of gate i: of ni inputs; its kind, A, B, N are F i 0 to F i 3. -/
def gk (p : Int) (ni : Nat) (F : Nat → Nat → Int) (i : Nat) : Int :=
  if F i 0 < 1 ∨ 4 < F i 0 then 6
  else if F i 0 = 1 then (if 0 ≤ F i 1 ∧ F i 1 < (ni : Int) then 0 else 3)
  else if F i 0 = 2 then (if 0 ≤ F i 3 ∧ F i 3 < p then 0 else 2)
  else if (0 ≤ F i 1 ∧ F i 1 < (i : Int)) ∧ 0 ≤ F i 2 ∧ F i 2 < (i : Int) then 0 else 3

/-- A gate that may be. -/
def GOk (p : Int) (ni : Nat) (F : Nat → Nat → Int) (i : Nat) : Prop :=
  (F i 0 = 1 ∧ ∃ a : Nat, F i 1 = (a : Int) ∧ a < ni) ∨ (F i 0 = 2 ∧ 0 ≤ F i 3 ∧ F i 3 < p) ∨
  (F i 0 = 3 ∧ ∃ a b : Nat, F i 1 = (a : Int) ∧ F i 2 = (b : Int) ∧ a < i ∧ b < i) ∨ (F i 0 = 4 ∧ ∃ a b : Nat, F i 1 = (a : Int) ∧ F i 2 = (b : Int) ∧ a < i ∧ b < i)

theorem gk_zero {p : Int} {ni : Nat} {F : Nat → Nat → Int} {i : Nat} : gk p ni F i = 0 ↔ GOk p ni F i := by
  unfold gk GOk
  by_cases h0 : F i 0 < 1 ∨ 4 < F i 0
  · rw [if_pos h0]
    constructor
    · intro h; omega
    · rintro (⟨h, _⟩ | ⟨h, _⟩ | ⟨h, _⟩ | ⟨h, _⟩) <;> omega
  rw [if_neg h0]
  by_cases h1 : F i 0 = 1
  · rw [if_pos h1]
    by_cases h2 : 0 ≤ F i 1 ∧ F i 1 < (ni : Int)
    · rw [if_pos h2]
      exact ⟨fun _ => .inl ⟨h1, (F i 1).toNat, by omega, by omega⟩, fun _ => rfl⟩
    · rw [if_neg h2]
      constructor
      · intro h; omega
      · rintro (⟨_, a, h, h'⟩ | ⟨h, _⟩ | ⟨h, _⟩ | ⟨h, _⟩) <;> omega
  rw [if_neg h1]
  by_cases h2 : F i 0 = 2
  · rw [if_pos h2]
    by_cases h3 : 0 ≤ F i 3 ∧ F i 3 < p
    · rw [if_pos h3]
      exact ⟨fun _ => .inr (.inl ⟨h2, h3⟩), fun _ => rfl⟩
    · rw [if_neg h3]
      constructor
      · intro h; omega
      · rintro (⟨h, _⟩ | ⟨_, h⟩ | ⟨h, _⟩ | ⟨h, _⟩) <;> omega
  rw [if_neg h2]
  by_cases h3 : (0 ≤ F i 1 ∧ F i 1 < (i : Int)) ∧ 0 ≤ F i 2 ∧ F i 2 < (i : Int)
  · rw [if_pos h3]
    refine ⟨fun _ => ?_, fun _ => rfl⟩
    have e : ∃ a b : Nat, F i 1 = (a : Int) ∧ F i 2 = (b : Int) ∧ a < i ∧ b < i := ⟨(F i 1).toNat, (F i 2).toNat, by omega, by omega, by omega, by omega⟩
    rcases (by omega : F i 0 = 3 ∨ F i 0 = 4) with h | h
    · exact .inr (.inr (.inl ⟨h, e⟩))
    · exact .inr (.inr (.inr ⟨h, e⟩))
  · rw [if_neg h3]
    constructor
    · intro h; omega
    · rintro (⟨h, _⟩ | ⟨h, _⟩ | ⟨_, a, b, h, h', _⟩ | ⟨_, a, b, h, h', _⟩) <;> omega

/-- The code of the first k gates: of the first that has one. -/
def gks (p : Int) (ni : Nat) (F : Nat → Nat → Int) : Nat → Int
  | 0 => 0
  | k + 1 => if gks p ni F k = 0 then gk p ni F k else gks p ni F k

theorem gks_zero {p : Int} {ni : Nat} {F : Nat → Nat → Int} : ∀ {n : Nat}, gks p ni F n = 0 ↔ ∀ i, i < n → GOk p ni F i
  | 0 => ⟨fun _ i hi => absurd hi (by omega), fun _ => rfl⟩
  | n + 1 => by
    have ih := gks_zero (p := p) (ni := ni) (F := F) (n := n)
    show (if gks p ni F n = 0 then gk p ni F n else gks p ni F n) = 0 ↔ _
    by_cases h : gks p ni F n = 0
    · rw [if_pos h, gk_zero]
      constructor
      · intro hg i hi
        by_cases e : i = n
        · subst e; exact hg
        · exact ih.1 h i (by omega)
      · exact fun hg => hg n (by omega)
    · rw [if_neg h]
      exact ⟨fun e => absurd e h, fun hg => absurd (ih.2 fun i hi => hg i (by omega)) h⟩

theorem gks_next {p : Int} {ni : Nat} {F : Nat → Nat → Int} {k : Nat} (h : gks p ni F k = 0) : gks p ni F (k + 1) = gk p ni F k := if_pos h

theorem gks_stop {p : Int} {ni : Nat} {F : Nat → Nat → Int} {k : Nat} (h : gks p ni F k ≠ 0) : ∀ d : Nat, gks p ni F (k + d) = gks p ni F k
  | 0 => rfl
  | d + 1 => by
    have ih := gks_stop h d
    show (if gks p ni F (k + d) = 0 then gk p ni F (k + d) else gks p ni F (k + d)) = _
    rw [if_neg (by rw [ih]; exact h), ih]

theorem gks_first {p : Int} {ni : Nat} {F : Nat → Nat → Int} {k n : Nat} (h : gks p ni F k = 0) (h1 : gk p ni F k ≠ 0) (hk : k < n) : gks p ni F n = gk p ni F k := by
  have e := gks_next h
  have := gks_stop (p := p) (ni := ni) (F := F) (k := k + 1) (by rw [e]; exact h1) (n - (k + 1))
  rw [show k + 1 + (n - (k + 1)) = n by omega] at this
  rw [this, e]

/-! ### values -/

/-- The value of gate k, of the values ahead of it. -/
def vst (P : Nat) (l : List Int) (F : Nat → Nat → Int) (done : List Int) (k : Nat) : Int :=
  if F k 0 = 1 then co l (F k 1).toNat
  else if F k 0 = 2 then F k 3
  else if F k 0 = 3 then (co done (F k 1).toNat + co done (F k 2).toNat) % (P : Int)
  else co done (F k 1).toNat * co done (F k 2).toNat % (P : Int)

/-- The values of the first k gates. -/
def clr (P : Nat) (l : List Int) (F : Nat → Nat → Int) : Nat → List Int
  | 0 => []
  | k + 1 => clr P l F k ++ [vst P l F (clr P l F k) k]

theorem clr_length (P : Nat) (l : List Int) (F : Nat → Nat → Int) : ∀ k, (clr P l F k).length = k
  | 0 => rfl
  | k + 1 => by show (clr P l F k ++ [_]).length = _; simp [clr_length P l F k]

theorem co_left {a b : List Int} {i : Nat} (h : i < a.length) : co (a ++ b) i = co a i := by
  unfold co; simp [List.getD, List.getElem?_append_left h]

theorem co_last (a : List Int) (x : Int) : co (a ++ [x]) a.length = x := by
  unfold co; simp [List.getD]

theorem clr_keep {P : Nat} {l : List Int} {F : Nat → Nat → Int} {k i : Nat} (h : i < k) : ∀ d, co (clr P l F (k + d)) i = co (clr P l F k) i
  | 0 => rfl
  | d + 1 => by
    show co (clr P l F (k + d) ++ [_]) i = _
    rw [co_left (by rw [clr_length]; omega)]
    exact clr_keep h d

theorem clr_at (P : Nat) (l : List Int) (F : Nat → Nat → Int) (k : Nat) : co (clr P l F (k + 1)) k = vst P l F (clr P l F k) k := by
  have := co_last (clr P l F k) (vst P l F (clr P l F k) k)
  rw [clr_length] at this
  exact this

/-! ### what is drawn, and shares -/

/-- The t numbers behind u: 0 where there are no more. -/
def tk (rnd : List Int) (u t : Nat) : List Int := mk t (fun i => co rnd (u + i))

/-- The share of party j: of s, by the t numbers behind u. -/
def shr (P : Nat) (rnd : List Int) (t : Nat) (s : Int) (u j : Nat) : Int := ev (s :: tk rnd u t) (XP j) % (P : Int)

/-- How many of the random numbers were taken ahead of gate k. -/
def us (t : Nat) (F : Nat → Nat → Int) : Nat → Nat
  | 0 => 0
  | k + 1 => us t F k + (if F k 0 = 1 then t else if F k 0 = 4 then (2 * t + 1) * t else 0)

/-- A product's row, when so many parties have shared. -/
def mrow (P : Nat) (rnd : List Int) (t : Nat) (r : Nat → Int) (a b : List Int) (u : Nat) : Nat → Nat → Int
  | 0, _ => 0
  | i + 1, j => (mrow P rnd t r a b u i j + r i * shr P rnd t (co a i * co b i % (P : Int)) (u + i * t) j) % (P : Int)

/-- The i-th row. -/
def rwl (L : List (List Int)) (i : Nat) : List Int := L.getD i []

/-- What all parties have of gate k, of the rows ahead of it. -/
def rst (P t : Nat) (l rnd : List Int) (r : Nat → Int) (F : Nat → Nat → Int) (done : List (List Int)) (k : Nat) : List Int :=
  mk (2 * t + 1) fun j =>
    if F k 0 = 1 then shr P rnd t (co l (F k 1).toNat) (us t F k) j
    else if F k 0 = 2 then F k 3
    else if F k 0 = 3 then (co (rwl done (F k 1).toNat) j + co (rwl done (F k 2).toNat) j) % (P : Int)
    else mrow P rnd t r (rwl done (F k 1).toNat) (rwl done (F k 2).toNat) (us t F k) (2 * t + 1) j

/-- What all parties have of the first k gates. -/
def rows (P t : Nat) (l rnd : List Int) (r : Nat → Int) (F : Nat → Nat → Int) : Nat → List (List Int)
  | 0 => []
  | k + 1 => rows P t l rnd r F k ++ [rst P t l rnd r F (rows P t l rnd r F k) k]

theorem rows_length (P t : Nat) (l rnd : List Int) (r : Nat → Int) (F : Nat → Nat → Int) : ∀ k, (rows P t l rnd r F k).length = k
  | 0 => rfl
  | k + 1 => by show (rows P t l rnd r F k ++ [_]).length = _; simp [rows_length P t l rnd r F k]

theorem rwl_left {a b : List (List Int)} {i : Nat} (h : i < a.length) : rwl (a ++ b) i = rwl a i := by
  unfold rwl; simp [List.getD, List.getElem?_append_left h]

theorem rwl_last (a : List (List Int)) (x : List Int) : rwl (a ++ [x]) a.length = x := by
  unfold rwl; simp [List.getD]

theorem rows_keep {P t : Nat} {l rnd : List Int} {r : Nat → Int} {F : Nat → Nat → Int} {k i : Nat} (h : i < k) : ∀ d, rwl (rows P t l rnd r F (k + d)) i = rwl (rows P t l rnd r F k) i
  | 0 => rfl
  | d + 1 => by
    show rwl (rows P t l rnd r F (k + d) ++ [_]) i = _
    rw [rwl_left (by rw [rows_length]; omega)]
    exact rows_keep h d

theorem rows_at (P t : Nat) (l rnd : List Int) (r : Nat → Int) (F : Nat → Nat → Int) (k : Nat) : rwl (rows P t l rnd r F (k + 1)) k = rst P t l rnd r F (rows P t l rnd r F k) k := by
  have := rwl_last (rows P t l rnd r F k) (rst P t l rnd r F (rows P t l rnd r F k) k)
  rw [rows_length] at this
  exact this

theorem rst_length (P t : Nat) (l rnd : List Int) (r : Nat → Int) (F : Nat → Nat → Int) (done : List (List Int)) (k : Nat) : (rst P t l rnd r F done k).length = 2 * t + 1 := mk_length _ _

theorem rst_co {P t : Nat} {l rnd : List Int} {r : Nat → Int} {F : Nat → Nat → Int} {done : List (List Int)} {k j : Nat} (h : j < 2 * t + 1) : co (rst P t l rnd r F done k) j =
    if F k 0 = 1 then shr P rnd t (co l (F k 1).toNat) (us t F k) j
    else if F k 0 = 2 then F k 3
    else if F k 0 = 3 then (co (rwl done (F k 1).toNat) j + co (rwl done (F k 2).toNat) j) % (P : Int)
    else mrow P rnd t r (rwl done (F k 1).toNat) (rwl done (F k 2).toNat) (us t F k) (2 * t + 1) j := by
  unfold rst; rw [co_mk, if_pos h]

theorem shr_bd {P : Nat} (hP : 1 ≤ P) (rnd : List Int) (t : Nat) (s : Int) (u j : Nat) : 0 ≤ shr P rnd t s u j ∧ shr P rnd t s u j < (P : Int) := mod_bd hP _

theorem mrow_bd {P : Nat} (hP : 1 ≤ P) (rnd : List Int) (t : Nat) (r : Nat → Int) (a b : List Int) (u : Nat) : ∀ i j, 0 ≤ mrow P rnd t r a b u i j ∧ mrow P rnd t r a b u i j < (P : Int)
  | 0, _ => ⟨Int.le_refl _, by show (0 : Int) < _; omega⟩
  | i + 1, j => mod_bd hP _

theorem mrow_sum (P : Nat) (rnd : List Int) (t : Nat) (r : Nat → Int) (a b : List Int) (u : Nat) (j : Nat) : ∀ i, (P : Int) ∣ mrow P rnd t r a b u i j - su (fun i => r i * shr P rnd t (co a i * co b i % (P : Int)) (u + i * t) j) i
  | 0 => by show (P : Int) ∣ 0 - 0; simp
  | i + 1 => cong_tr (mod_same _) (cong_add (mrow_sum P rnd t r a b u j i) (by simp))

theorem tk_length (rnd : List Int) (u t : Nat) : (tk rnd u t).length = t := mk_length _ _

theorem shr_sh (P : Nat) (rnd : List Int) (t n : Nat) (s : Int) (u : Nat) : Sh P t n s (shr P rnd t s u) :=
  sh_split (m := tk rnd u t) (by rw [tk_length]; exact Nat.le_refl _) fun _ _ => rfl

/-! ### all gates -/

/-- What holds of a gate: its value is a rest; its row has one share for each party, each a rest; and they are shares of its value. -/
def One (P t : Nat) (v : Int) (y : List Int) : Prop := (0 ≤ v ∧ v < (P : Int)) ∧ y.length = 2 * t + 1 ∧ (∀ j, j < 2 * t + 1 → 0 ≤ co y j ∧ co y j < (P : Int)) ∧ Sh P t (2 * t + 1) v (co y)

theorem one_step {P t : Nat} (hP : Pr P) (hn : 2 * t + 1 < P) {l rnd : List Int} (hl : ∀ i, i < l.length → 0 ≤ co l i ∧ co l i < (P : Int)) {r : Nat → Int} (hr : ∀ i, i < 2 * t + 1 → JoinIs P XP (dl i) (2 * t + 1) (r i)) {F : Nat → Nat → Int} {k : Nat}
    (hk : GOk (P : Int) l.length F k) {vs : List Int} {ys : List (List Int)} (h : ∀ i, i < k → One P t (co vs i) (rwl ys i)) : One P t (vst P l F vs k) (rst P t l rnd r F ys k) := by
  have hP1 := hP.1
  refine ⟨?_, rst_length _ _ _ _ _ _ _ _, fun j hj => ?_, ?_⟩
  · unfold vst
    rcases hk with ⟨e, a, ha, ha'⟩ | ⟨e, h2⟩ | ⟨e, a, b, ha, hb, _⟩ | ⟨e, a, b, ha, hb, _⟩
    · rw [if_pos e, ha]; exact hl _ (by omega)
    · rw [if_neg (by omega), if_pos e]; exact h2
    · rw [if_neg (by omega), if_neg (by omega), if_pos e]; exact mod_bd (by omega) _
    · rw [if_neg (by omega), if_neg (by omega), if_neg (by omega)]; exact mod_bd (by omega) _
  · rw [rst_co hj]
    rcases hk with ⟨e, a, ha, ha'⟩ | ⟨e, h2⟩ | ⟨e, a, b, ha, hb, _⟩ | ⟨e, a, b, ha, hb, _⟩
    · rw [if_pos e]; exact shr_bd (by omega) _ _ _ _ _
    · rw [if_neg (by omega), if_pos e]; exact h2
    · rw [if_neg (by omega), if_neg (by omega), if_pos e]; exact mod_bd (by omega) _
    · rw [if_neg (by omega), if_neg (by omega), if_neg (by omega)]; exact mrow_bd (by omega) _ _ _ _ _ _ _ _
  · have hco : ∀ j, j < 2 * t + 1 → (P : Int) ∣ (if F k 0 = 1 then shr P rnd t (co l (F k 1).toNat) (us t F k) j
        else if F k 0 = 2 then F k 3
        else if F k 0 = 3 then (co (rwl ys (F k 1).toNat) j + co (rwl ys (F k 2).toNat) j) % (P : Int)
        else mrow P rnd t r (rwl ys (F k 1).toNat) (rwl ys (F k 2).toNat) (us t F k) (2 * t + 1) j) - co (rst P t l rnd r F ys k) j := fun j hj => by rw [rst_co hj]; simp
    unfold vst
    rcases hk with ⟨e, a, ha, ha'⟩ | ⟨e, h2⟩ | ⟨e, a, b, ha, hb, hai, hbi⟩ | ⟨e, a, b, ha, hb, hai, hbi⟩
    · rw [if_pos e]
      refine (shr_sh P rnd t (2 * t + 1) (co l (F k 1).toNat) (us t F k)).cong (by simp) fun j hj => ?_
      have := hco j hj
      rwa [if_pos e] at this
    · rw [if_neg (by omega), if_pos e]
      refine (sh_const P t (2 * t + 1) (F k 3)).cong (by simp) fun j hj => ?_
      have := hco j hj
      rwa [if_neg (by omega), if_pos e] at this
    · rw [if_neg (by omega), if_neg (by omega), if_pos e]
      have sa := (h _ (show (F k 1).toNat < k by omega)).2.2.2
      have sb := (h _ (show (F k 2).toNat < k by omega)).2.2.2
      refine (sa.add sb).cong (cong_sy (mod_same _)) fun j hj => ?_
      have := hco j hj
      rw [if_neg (by omega), if_neg (by omega), if_pos e] at this
      exact cong_tr (cong_sy (mod_same _)) this
    · rw [if_neg (by omega), if_neg (by omega), if_neg (by omega)]
      have sa := (h _ (show (F k 1).toNat < k by omega)).2.2.2
      have sb := (h _ (show (F k 2).toNat < k by omega)).2.2.2
      have hm := Sh.mul hP rfl hn sa sb hr (T := fun i j => shr P rnd t (co (rwl ys (F k 1).toNat) i * co (rwl ys (F k 2).toNat) i % (P : Int)) (us t F k + i * t) j)
        (c := fun i => co (rwl ys (F k 1).toNat) i * co (rwl ys (F k 2).toNat) i % (P : Int)) (fun i _ => mod_same _) (fun i _ => shr_sh _ _ _ _ _ _)
      refine hm.cong (cong_sy (mod_same _)) fun j hj => ?_
      have := hco j hj
      rw [if_neg (by omega), if_neg (by omega), if_neg (by omega)] at this
      exact cong_tr (cong_sy (mrow_sum _ _ _ _ _ _ _ _ _)) this

theorem all_one {P t : Nat} (hP : Pr P) (hn : 2 * t + 1 < P) {l rnd : List Int} (hl : ∀ i, i < l.length → 0 ≤ co l i ∧ co l i < (P : Int)) {r : Nat → Int} (hr : ∀ i, i < 2 * t + 1 → JoinIs P XP (dl i) (2 * t + 1) (r i)) {F : Nat → Nat → Int} :
    ∀ {n : Nat}, (∀ i, i < n → GOk (P : Int) l.length F i) → ∀ i, i < n → One P t (co (clr P l F n) i) (rwl (rows P t l rnd r F n) i)
  | 0, _ => fun i hi => absurd hi (by omega)
  | n + 1, h => fun i hi => by
    have ih := all_one hP hn hl (rnd := rnd) hr (n := n) (fun i hi => h i (by omega))
    by_cases e : i = n
    · subst e
      rw [clr_at, rows_at]
      exact one_step hP hn hl hr (h i (by omega)) ih
    · have h1 := clr_keep (P := P) (l := l) (F := F) (k := n) (i := i) (by omega) 1
      have h2 := rows_keep (P := P) (t := t) (l := l) (rnd := rnd) (r := r) (F := F) (k := n) (i := i) (by omega) 1
      rw [h1, h2]
      exact ih i (by omega)

/-! ### the rows of so many gates, one by one -/

theorem row_is (P t : Nat) (l rnd : List Int) (r : Nat → Int) (F : Nat → Nat → Int) {n k : Nat} (h : k < n) : rwl (rows P t l rnd r F n) k = rst P t l rnd r F (rows P t l rnd r F k) k := by
  have h1 := rows_keep (P := P) (t := t) (l := l) (rnd := rnd) (r := r) (F := F) (k := k + 1) (i := k) (by omega) (n - (k + 1))
  rw [show k + 1 + (n - (k + 1)) = n by omega] at h1
  rw [h1, rows_at]

theorem row_old (P t : Nat) (l rnd : List Int) (r : Nat → Int) (F : Nat → Nat → Int) {n k a : Nat} (h : k ≤ n) (ha : a < k) : rwl (rows P t l rnd r F k) a = rwl (rows P t l rnd r F n) a := by
  have h1 := rows_keep (P := P) (t := t) (l := l) (rnd := rnd) (r := r) (F := F) (k := k) (i := a) ha (n - k)
  rw [show k + (n - k) = n by omega] at h1
  exact h1.symm

theorem row_in {P t : Nat} {l rnd : List Int} {r : Nat → Int} {F : Nat → Nat → Int} {n k a : Nat} (h : k < n) (e : F k 0 = 1) (ha : F k 1 = (a : Int)) : rwl (rows P t l rnd r F n) k = mk (2 * t + 1) (shr P rnd t (co l a) (us t F k)) := by
  rw [row_is P t l rnd r F h]
  unfold rst
  exact mk_congr fun j _ => by rw [if_pos e, ha]; simp

theorem row_co {P t : Nat} {l rnd : List Int} {r : Nat → Int} {F : Nat → Nat → Int} {n k : Nat} (h : k < n) (e : F k 0 = 2) : rwl (rows P t l rnd r F n) k = mk (2 * t + 1) (fun _ => F k 3) := by
  rw [row_is P t l rnd r F h]
  unfold rst
  exact mk_congr fun j _ => by rw [if_neg (by omega), if_pos e]

theorem row_add {P t : Nat} {l rnd : List Int} {r : Nat → Int} {F : Nat → Nat → Int} {n k a b : Nat} (h : k < n) (e : F k 0 = 3) (ha : F k 1 = (a : Int)) (hb : F k 2 = (b : Int)) (hak : a < k) (hbk : b < k) :
    rwl (rows P t l rnd r F n) k = mk (2 * t + 1) (fun j => (co (rwl (rows P t l rnd r F n) a) j + co (rwl (rows P t l rnd r F n) b) j) % (P : Int)) := by
  rw [row_is P t l rnd r F h]
  unfold rst
  refine mk_congr fun j _ => ?_
  rw [if_neg (by omega), if_neg (by omega), if_pos e, ha, hb, Int.toNat_natCast, Int.toNat_natCast, row_old P t l rnd r F (Nat.le_of_lt h) hak, row_old P t l rnd r F (Nat.le_of_lt h) hbk]

theorem row_mul {P t : Nat} {l rnd : List Int} {r : Nat → Int} {F : Nat → Nat → Int} {n k a b : Nat} (h : k < n) (e : F k 0 = 4) (ha : F k 1 = (a : Int)) (hb : F k 2 = (b : Int)) (hak : a < k) (hbk : b < k) :
    rwl (rows P t l rnd r F n) k = mk (2 * t + 1) (mrow P rnd t r (rwl (rows P t l rnd r F n) a) (rwl (rows P t l rnd r F n) b) (us t F k) (2 * t + 1)) := by
  rw [row_is P t l rnd r F h]
  unfold rst
  refine mk_congr fun j _ => ?_
  rw [if_neg (by omega), if_neg (by omega), if_neg (by omega), ha, hb, Int.toNat_natCast, Int.toNat_natCast, row_old P t l rnd r F (Nat.le_of_lt h) hak, row_old P t l rnd r F (Nat.le_of_lt h) hbk]

theorem us_le {t : Nat} (ht : t ≤ 4) (F : Nat → Nat → Int) : ∀ k, us t F k ≤ 36 * k
  | 0 => Nat.le_refl _
  | k + 1 => by
    have ih := us_le ht F k
    have h1 : (2 * t + 1) * t ≤ 36 := Nat.le_trans (Nat.mul_le_mul (show 2 * t + 1 ≤ 9 by omega) ht) (by decide)
    show us t F k + _ ≤ _
    split
    · omega
    · split <;> omega

theorem us_in {t : Nat} {F : Nat → Nat → Int} {k : Nat} (e : F k 0 = 1) : us t F (k + 1) = us t F k + t := by show us t F k + _ = _; rw [if_pos e]
theorem us_no {t : Nat} {F : Nat → Nat → Int} {k : Nat} (e : F k 0 = 2 ∨ F k 0 = 3) : us t F (k + 1) = us t F k := by show us t F k + _ = _; rw [if_neg (by omega), if_neg (by omega)]; rfl
theorem us_mul {t : Nat} {F : Nat → Nat → Int} {k : Nat} (e : F k 0 = 4) : us t F (k + 1) = us t F k + (2 * t + 1) * t := by show us t F k + _ = _; rw [if_neg (by omega), if_pos e]

end Go.Proofs.Ytpnmepobdnclkaa.Num69

namespace Go.Proofs.Ytpnmepobdnclkaa.Num70
set_option linter.unusedVariables false
open Go.Proofs.Ytpnmepobdnclkaa.Num Go.Proofs.Ytpnmepobdnclkaa.Num13 Go.Proofs.Ytpnmepobdnclkaa.Num16 Go.Proofs.Ytpnmepobdnclkaa.Num17 Go.Proofs.Ytpnmepobdnclkaa.Num34 Go.Proofs.Ytpnmepobdnclkaa.Num35 Go.Proofs.Ytpnmepobdnclkaa.Num39 Go.Proofs.Ytpnmepobdnclkaa.Num61 Go.Proofs.Ytpnmepobdnclkaa.Num69
open Go.Proofs.Ytpnmepobdnclkaa.Num7 (ev)

theorem dist_both {p : Nat} {X : Nat → Int} {n i j : Nat} (hd : Dist p X n) (hi : i < n) (hj : j < n) (hne : j ≠ i) : ¬ (p : Int) ∣ X i - X j := fun h => by
  rcases Nat.lt_or_gt_of_ne hne with h1 | h1
  · exact hd i j hi h1 h
  · refine hd j i hj h1 ?_
    have h2 := (Int.dvd_neg).2 h
    rwa [show -(X i - X j) = X j - X i by omega] at h2

theorem lagk_ex {p : Nat} (hp : Pr p) {X : Nat → Int} {n i : Nat} (hd : Dist p X n) (hi : i < n) {y : Int} (hy : 0 ≤ y ∧ y < (p : Int)) : ∀ j, j ≤ n → ∃ k, LagK p X i y j k
  | 0, _ => ⟨y, LagK.start X i hy⟩
  | j + 1, h => by
    obtain ⟨k, hk⟩ := lagk_ex hp hd hi hy j (by omega)
    by_cases e : j = i
    · subst e; exact ⟨k, hk.skip⟩
    · exact ⟨_, hk.next hp e (dist_both hd hi (by omega) e)⟩

theorem lags_ex {p : Nat} (hp : Pr p) {X Y : Nat → Int} {n : Nat} (hd : Dist p X n) (hY : ∀ j, j < n → 0 ≤ Y j ∧ Y j < (p : Int)) : ∀ i, i ≤ n → ∃ s, LagS p X Y n i s
  | 0, _ => ⟨0, LagS.start p X Y n⟩
  | i + 1, h => by
    obtain ⟨s, hs⟩ := lags_ex hp hd hY i (by omega)
    obtain ⟨k, hk⟩ := lagk_ex hp hd (show i < n by omega) (hY i (by omega)) n (Nat.le_refl _)
    exact ⟨_, hs.next (by have := hp.1; omega) (by omega) hk⟩

/-- There is what they have in common at 0. -/
theorem join_ex {p : Nat} (hp : Pr p) {X Y : Nat → Int} {n : Nat} (hd : Dist p X n) (hY : ∀ j, j < n → 0 ≤ Y j ∧ Y j < (p : Int)) : ∃ v, JoinIs p X Y n v := by
  obtain ⟨s, hs⟩ := lags_ex hp hd hY n (Nat.le_refl _)
  exact ⟨s, hs.done⟩

/-- The parties' numbers. -/
theorem r_ex {p n : Nat} (hp : Pr p) (hn : n < p) : ∃ r : Nat → Int, ∀ i, i < n → JoinIs p XP (dl i) n (r i) := by
  have h : ∀ i, ∃ v, JoinIs p XP (dl i) n v := fun i => join_ex hp (xp_dist hn) fun j _ => by
    have := hp.1
    unfold dl
    split <;> omega
  obtain ⟨r, hr⟩ := Classical.axiomOfChoice h
  exact ⟨r, fun i _ => hr i⟩

theorem JoinIs.congr {p : Nat} {X Y X' Y' : Nat → Int} {n : Nat} {v : Int} (h : JoinIs p X Y n v) (hX : ∀ j, j < n → X j = X' j) (hY : ∀ j, j < n → Y j = Y' j) : JoinIs p X' Y' n v := by
  obtain ⟨a, ⟨h1, h2, h3⟩, e⟩ := h
  exact ⟨a, ⟨h1, h2, fun j hj => by rw [← hX j hj, ← hY j hj]; exact h3 j hj⟩, e⟩

/-- It is the sum, each times the number that the party's place has. -/
theorem join_sum {p n : Nat} (hp : Pr p) (hn : n < p) {r : Nat → Int} (hr : ∀ i, i < n → JoinIs p XP (dl i) n (r i)) {Y : Nat → Int} {v : Int} (h : JoinIs p XP Y n v) : v = su (fun i => r i * Y i) n % (p : Int) := by
  obtain ⟨a, ⟨h1, h2, h3⟩, rfl⟩ := h
  have k := at_zero hp hn hr h2
  refine (md (cong_tr ?_ k)).symm
  refine su_cong fun i hi => ?_
  have := cong_mul (a := r i) (b := r i) (by simp) (cong_sy (h3 i hi))
  rwa [show r i * ev a (XP i) = ev a (XP i) * r i from Int.mul_comm _ _] at this

theorem mrow_join {p n : Nat} (hp : Pr p) (hn : n < p) {rnd : List Int} {t : Nat} {r : Nat → Int} (hr : ∀ i, i < n → JoinIs p XP (dl i) n (r i)) {a b : List Int} {u j : Nat} {v : Int}
    (h : JoinIs p XP (fun i => shr p rnd t (co a i * co b i % (p : Int)) (u + i * t) j) n v) : v = mrow p rnd t r a b u n j := by
  have hp1 := hp.1
  have e := join_sum hp hn hr h
  have hm := mrow_bd (P := p) (by omega) rnd t r a b u n j
  have hs := md (mrow_sum p rnd t r a b u j n)
  rw [Int.emod_eq_of_lt hm.1 hm.2] at hs
  rw [e, hs]

end Go.Proofs.Ytpnmepobdnclkaa.Num70
