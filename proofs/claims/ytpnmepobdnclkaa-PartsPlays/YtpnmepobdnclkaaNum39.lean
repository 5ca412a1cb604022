/-
  Plain arithmetic: shares of a secret: values step by step, what points have in common at 0, what explains them.
-/
import Derived.Test.YtpnmepobdnclkaaFoldB
namespace Go.Proofs.Ytpnmepobdnclkaa.Num39
set_option linter.unusedVariables false
open Go.Proofs.Ytpnmepobdnclkaa.Num Go.Proofs.Ytpnmepobdnclkaa.Num7 Go.Proofs.Ytpnmepobdnclkaa.Num13 Go.Proofs.Ytpnmepobdnclkaa.Num16 Go.Proofs.Ytpnmepobdnclkaa.Num17 Go.Proofs.Ytpnmepobdnclkaa.Num34 Go.Proofs.Ytpnmepobdnclkaa.Num35

/-! ### a share, step by step -/

theorem md {p : Nat} {x y : Int} (h : (p : Int) ∣ x - y) : x % (p : Int) = y % (p : Int) := Int.emod_emod_of_dvd x (Int.dvd_refl _) ▸ (by
  obtain ⟨k, hk⟩ := h
  rw [show x = y + (p : Int) * k by omega, Int.add_mul_emod_self_left]
  simp)

def sp (p : Nat) (x : Int) (k : Nat) : Int := x ^ k % (p : Int)

def sy (p : Nat) (s : Int) (m : List Int) (x : Int) (k : Nat) : Int := ev ((s :: m).take (k + 1)) x % (p : Int)

theorem sp_zero {p : Nat} (hp : 2 ≤ p) (x : Int) : sp p x 0 = 1 := by
  unfold sp
  rw [Int.pow_zero, Int.emod_eq_of_lt (by omega) (by omega)]

theorem sp_step (p : Nat) (x : Int) (k : Nat) : sp p x k * x % (p : Int) = sp p x (k + 1) := by
  unfold sp
  rw [Int.pow_succ, Int.mul_emod, Int.emod_emod_of_dvd _ (Int.dvd_refl _), ← Int.mul_emod]

theorem sp_bd {p : Nat} (hp : 1 ≤ p) (x : Int) (k : Nat) : 0 ≤ sp p x k ∧ sp p x k < (p : Int) := mod_bd hp _

theorem sy_bd {p : Nat} (hp : 1 ≤ p) (s : Int) (m : List Int) (x : Int) (k : Nat) : 0 ≤ sy p s m x k ∧ sy p s m x k < (p : Int) := mod_bd hp _

theorem sy_zero {p : Nat} {s : Int} (hs : 0 ≤ s ∧ s < (p : Int)) (m : List Int) (x : Int) : sy p s m x 0 = s := by
  unfold sy
  simp only [List.take_succ_cons, List.take_zero]
  rw [show ev [s] x = s by simp [ev], Int.emod_eq_of_lt hs.1 hs.2]

theorem co_cons (s : Int) (m : List Int) (k : Nat) : co (s :: m) (k + 1) = co m k := by simp [co]

theorem sy_step {p : Nat} (hp : 1 ≤ p) (s : Int) (m : List Int) (x : Int) {k : Nat} (h : k < m.length) : (sy p s m x k + co m k * sp p x (k + 1)) % (p : Int) = sy p s m x (k + 1) := by
  unfold sy
  rw [ev_take x (s :: m) (k + 1) (by simp; omega), co_cons]
  refine md ?_
  have h1 := mod_cong (p := p) (ev ((s :: m).take (k + 1)) x)
  have h2 := mod_cong (p := p) (x ^ (k + 1))
  unfold sp
  obtain ⟨u, hu⟩ := h1
  obtain ⟨v, hv⟩ := h2
  refine ⟨u + co m k * v, ?_⟩
  generalize ev ((s :: m).take (k + 1)) x % (p : Int) = a at *
  generalize ev ((s :: m).take (k + 1)) x = b at *
  generalize x ^ (k + 1) % (p : Int) = c at *
  generalize x ^ (k + 1) = d at *
  generalize co m k = e at *
  grind

theorem sy_done (p : Nat) (s : Int) (m : List Int) (x : Int) : sy p s m x m.length = ev (s :: m) x % (p : Int) := by
  unfold sy
  rw [List.take_of_length_le (by simp)]

/-! ### what points have in common at 0 -/

theorem one_ev {p : Nat} (hp : 1 ≤ p) (o : List Int) (z k x : Int) : (p : Int) ∣ ev (nm p (pmul (tr o) (tr [(rs (-z * k) p : Int), k]))) x - ev o x * ((x - z) * k) := by
  refine cong_tr (ev_nm hp _ x) ?_
  rw [ev_pmul]
  refine cong_mul ((tr_q p o).ev x) (cong_tr ((tr_q p _).ev x) ?_)
  rw [ev_two]
  have h1 := rs_cong hp (-z * k)
  obtain ⟨u, hu⟩ := h1
  refine ⟨u, ?_⟩
  generalize (rs (-z * k) p : Int) = r at *
  grind

theorem inv_opp {P D u v c2 c3 c4 c5 : Int} (ia : (D + P * c4) * u - 1 = P * c2) (ib : (-D + P * c5) * v - 1 = P * c3) : u + v = P * (u * v * c4 + u * v * c5 - u * c3 - v * c2) := by
  have t : u + v - P * (u * v * c4 + u * v * c5 - u * c3 - v * c2) = -(v * ((D + P * c4) * u - 1 - P * c2)) - u * ((-D + P * c5) * v - 1 - P * c3) := by
    clear ia ib
    grind
  rw [ia, ib, Int.sub_self, Int.sub_self, Int.mul_zero, Int.mul_zero] at t
  omega

/-- What the loop over the other points holds. -/
def LagK (p : Nat) (X : Nat → Int) (i : Nat) (y : Int) (j : Nat) (k : Int) : Prop := ∃ o, OneIs p X i y j o ∧ k = ev o 0 % (p : Int)

theorem LagK.start {p : Nat} (X : Nat → Int) (i : Nat) {y : Int} (hy : 0 ≤ y ∧ y < (p : Int)) : LagK p X i y 0 y :=
  ⟨[y], OneIs.start X i hy, by rw [show ev [y] 0 = y by simp [ev], Int.emod_eq_of_lt hy.1 hy.2]⟩

theorem LagK.skip {p : Nat} {X : Nat → Int} {i : Nat} {y k : Int} (h : LagK p X i y i k) : LagK p X i y (i + 1) k := by
  obtain ⟨o, h1, h2⟩ := h
  exact ⟨o, h1.skip, h2⟩

theorem LagK.next {p : Nat} (hp : Pr p) {X : Nat → Int} {i j : Nat} {y k : Int} (h : LagK p X i y j k) (hne : j ≠ i) (hd : ¬ (p : Int) ∣ X i - X j) :
    LagK p X i y (j + 1) (k * X j % (p : Int) * (iv p (rs (X j - X i) p : Int) : Int) % (p : Int)) := by
  have hp1 := hp.1
  obtain ⟨o, h1, h2⟩ := h
  refine ⟨_, h1.next hp hne hd rfl, ?_⟩
  refine md ?_
  have e1 := one_ev (p := p) (by omega) o (X j) (iv p (rs (X i - X j) p : Int) : Int) 0
  have ha : ¬ (p : Int) ∣ (rs (X i - X j) p : Int) := fun hh => hd (by
    have := rs_cong (p := p) (by omega) (X i - X j)
    exact dvd_back (cong_sy this) hh)
  have hb : ¬ (p : Int) ∣ (rs (X j - X i) p : Int) := fun hh => hd (by
    have := rs_cong (p := p) (by omega) (X j - X i)
    have h3 := dvd_back (cong_sy this) hh
    have h4 := (Int.dvd_neg).2 h3
    rwa [show -(X j - X i) = X i - X j by omega] at h4)
  have ia := iv_ok hp ha
  have ib := iv_ok hp hb
  have ra := rs_cong (p := p) (by omega) (X i - X j)
  have rb := rs_cong (p := p) (by omega) (X j - X i)
  have m1 := mod_cong (p := p) (ev o 0)
  have m2 := mod_cong (p := p) (k * X j)
  rw [← h2] at m1
  generalize (iv p (rs (X i - X j) p : Int) : Int) = u at *
  generalize (iv p (rs (X j - X i) p : Int) : Int) = v at *
  generalize (rs (X i - X j) p : Int) = r at *
  generalize (rs (X j - X i) p : Int) = t at *
  generalize ev (nm p (pmul (tr o) (tr [(rs (-X j * u) p : Int), u]))) 0 = E at *
  generalize k * X j % (p : Int) = q at *
  generalize ev o 0 = w at *
  obtain ⟨c1, e1⟩ := e1
  obtain ⟨c2, ia⟩ := ia
  obtain ⟨c3, ib⟩ := ib
  obtain ⟨c4, ra⟩ := ra
  obtain ⟨c5, rb⟩ := rb
  obtain ⟨c6, m1⟩ := m1
  obtain ⟨c7, m2⟩ := m2
  clear h1 h2 hd ha hb hne hp
  generalize X i = xi at *
  generalize X j = xj at *
  have hr : r = xi - xj + (p : Int) * c4 := by omega
  have ht : t = xj - xi + (p : Int) * c5 := by omega
  subst hr ht
  have huv : (p : Int) ∣ u + v := by
    refine ⟨u * v * c4 + u * v * c5 - u * c3 - v * c2, ?_⟩
    refine inv_opp (D := xi - xj) ia ?_
    rw [show -(xi - xj) = xj - xi by omega]
    exact ib
  obtain ⟨c8, huv⟩ := huv
  have hq : q = k * xj + (p : Int) * c7 := by omega
  have hk : k = w + (p : Int) * c6 := by omega
  have hE : E = w * ((0 - xj) * u) + (p : Int) * c1 := by omega
  have hv : v = (p : Int) * c8 - u := by omega
  refine ⟨w * xj * c8 + c6 * xj * v + c7 * v - c1, ?_⟩
  clear ia ib ra rb m1 m2 e1 huv
  generalize (p : Int) = P at *
  subst hq hk hE hv
  grind

/-- What the loop over the points holds. -/
def LagS (p : Nat) (X Y : Nat → Int) (n i : Nat) (s : Int) : Prop := ∃ a, SumIs p X Y n i a ∧ s = ev a 0 % (p : Int)

theorem LagS.start (p : Nat) (X Y : Nat → Int) (n : Nat) : LagS p X Y n 0 0 := ⟨[], SumIs.start p X Y n, by simp [ev]⟩

theorem LagS.next {p : Nat} (hp : 1 ≤ p) {X Y : Nat → Int} {n i : Nat} {s k : Int} (h : LagS p X Y n i s) (hi : i < n) (hk : LagK p X i (Y i) n k) : LagS p X Y n (i + 1) ((s + k) % (p : Int)) := by
  obtain ⟨a, h1, h2⟩ := h
  obtain ⟨o, k1, k2⟩ := hk
  refine ⟨_, h1.next hp hi k1, ?_⟩
  refine md ?_
  have e1 : (p : Int) ∣ ev (nm p (padd a (tr o))) 0 - (ev a 0 + ev o 0) := by
    refine cong_tr (ev_nm hp _ 0) ?_
    rw [ev_padd]
    exact cong_add (by simp) ((tr_q p o).ev 0)
  have m1 := mod_cong (p := p) (ev a 0)
  have m2 := mod_cong (p := p) (ev o 0)
  rw [← h2] at m1
  rw [← k2] at m2
  have := cong_tr (cong_add m1 m2) (cong_sy e1)
  exact this

/-- What they have in common at 0. -/
def JoinIs (p : Nat) (X Y : Nat → Int) (n : Nat) (v : Int) : Prop := ∃ a, ThrIs p X Y n a ∧ v = ev a 0 % (p : Int)

theorem LagS.done {p : Nat} {X Y : Nat → Int} {n : Nat} {s : Int} (h : LagS p X Y n n s) : JoinIs p X Y n s := by
  obtain ⟨a, h1, h2⟩ := h
  exact ⟨a, h1.done, h2⟩

theorem JoinIs.uniq {p : Nat} (hp : Pr p) {X Y : Nat → Int} {n : Nat} (hd : Dist p X n) {v v' : Int} (h : JoinIs p X Y n v) (h' : JoinIs p X Y n v') : v = v' := by
  obtain ⟨a, h1, h2⟩ := h
  obtain ⟨b, k1, k2⟩ := h'
  rw [h2, k2, h1.uniq hp hd k1]

theorem ev_zero (l : List Int) : ev l 0 = co l 0 := by
  cases l with
  | nil => rfl
  | cons c l => show c + 0 * ev l 0 = c; simp

/-- The polynomial of a secret and numbers. -/
theorem thr_of {p : Nat} (hp : 1 ≤ p) {s : Int} {m : List Int} (hb : Bd p (s :: m)) {X Y : Nat → Int} {n : Nat} (hl : m.length < n) (hY : ∀ j, j < n → Y j = ev (s :: m) (X j) % (p : Int)) : ThrIs p X Y n (tr (s :: m)) := by
  refine ⟨tr_cn hb, ?_, fun j hj => ?_⟩
  · have := tr_length (s :: m)
    simp at this
    omega
  · rw [hY j hj]
    exact cong_tr ((tr_q p _).ev (X j)) (cong_sy (mod_cong _))

/-- SHAMIR: shares enough tell the secret. -/
theorem enough {p : Nat} (hp : Pr p) {s : Int} {m : List Int} (hb : Bd p (s :: m)) {X Y : Nat → Int} {n : Nat} (hl : m.length < n) (hY : ∀ j, j < n → Y j = ev (s :: m) (X j) % (p : Int)) (hd : Dist p X n) {v : Int} (h : JoinIs p X Y n v) : v = s := by
  have hp1 := hp.1
  have hs := hb s (by simp)
  refine h.uniq hp hd ⟨_, thr_of (by omega) hb hl hY, ?_⟩
  rw [ev_zero, co_tr]
  show s = co (s :: m) 0 % (p : Int)
  rw [show co (s :: m) 0 = s by simp [co], Int.emod_eq_of_lt hs.1 hs.2]

/-! ### what explains points -/

/-- The points are shares of the secret s with the numbers m. -/
def ExpIs (p : Nat) (X Y : Nat → Int) (n : Nat) (s : Int) (m : List Int) : Prop := m.length = n ∧ Bd p m ∧ ∀ j, j < n → Y j = ev (s :: m) (X j) % (p : Int)

/-- A first point ahead of the others. -/
def ahead (z : Int) (X : Nat → Int) : Nat → Int
  | 0 => z
  | j + 1 => X j

theorem dist_ahead {p : Nat} {X : Nat → Int} {n : Nat} (hd : Dist p X n) (h0 : ∀ j, j < n → ¬ (p : Int) ∣ X j) : Dist p (ahead 0 X) (n + 1) := by
  intro i j hi hj
  match i, j, hi, hj with
  | i + 1, 0, hi, _ =>
    show ¬ (p : Int) ∣ X i - 0
    rw [Int.sub_zero]
    exact h0 i (by omega)
  | i + 1, j + 1, hi, hj => exact hd i j (by omega) (by omega)

theorem ev_cons_zero (s : Int) (m : List Int) : ev (s :: m) 0 = s := by show s + 0 * ev m 0 = s; simp

theorem ExpIs.thr {p : Nat} (hp : 1 ≤ p) {X Y : Nat → Int} {n : Nat} {s : Int} {m : List Int} (hs : 0 ≤ s ∧ s < (p : Int)) (h : ExpIs p X Y n s m) : ThrIs p (ahead 0 X) (ahead s Y) (n + 1) (tr (s :: m)) := by
  obtain ⟨h1, h2, h3⟩ := h
  refine thr_of hp (fun x hx => ?_) (by omega) (fun j hj => ?_)
  · rcases List.mem_cons.1 hx with e | e
    · rw [e]; exact hs
    · exact h2 x e
  · match j, hj with
    | 0, _ =>
      show s = ev (s :: m) 0 % (p : Int)
      rw [ev_cons_zero, Int.emod_eq_of_lt hs.1 hs.2]
    | j + 1, hj => exact h3 j (by omega)

theorem list_of_co {l m : List Int} (hl : l.length = m.length) (h : ∀ i, co l i = co m i) : l = m := by
  apply List.ext_getElem hl
  intro i h1 h2
  have := h i
  simpa [co, List.getD, h1, h2] using this

/-- No other numbers. -/
theorem ExpIs.uniq {p : Nat} (hp : Pr p) {X Y : Nat → Int} {n : Nat} {s : Int} {m m' : List Int} (hs : 0 ≤ s ∧ s < (p : Int)) (hd : Dist p X n) (h0 : ∀ j, j < n → ¬ (p : Int) ∣ X j) (h : ExpIs p X Y n s m) (h' : ExpIs p X Y n s m') : m = m' := by
  have hp1 := hp.1
  have e := (h.thr (by omega) hs).uniq hp (dist_ahead hd h0) (h'.thr (by omega) hs)
  refine list_of_co (by rw [h.1, h'.1]) (fun i => ?_)
  have h1 := co_tr (s :: m) (i + 1)
  have h2 := co_tr (s :: m') (i + 1)
  rw [e] at h1
  rw [co_cons] at h1 h2
  rw [← h1, ← h2]

/-- The numbers behind the first of a polynomial through the points and the secret. -/
theorem exp_of {p : Nat} (hp : Pr p) {X Y : Nat → Int} {n : Nat} {s : Int} (hs : 0 ≤ s ∧ s < (p : Int)) (hY : ∀ j, j < n → 0 ≤ Y j ∧ Y j < (p : Int)) {a : List Int} (h : ThrIs p (ahead 0 X) (ahead s Y) (n + 1) a) : ExpIs p X Y n s (mk n (fun i => co a (i + 1))) ∧ co a 0 = s := by
  have hp1 := hp.1
  obtain ⟨h1, h2, h3⟩ := h
  have hc0 : co a 0 = s := by
    have := h3 0 (by omega)
    show co a 0 = s
    have h4 : (p : Int) ∣ ev a 0 - s := this
    rw [ev_zero] at h4
    exact small_of h4 (h1.bd (by omega) 0) hs
  have hq : ∀ x, (p : Int) ∣ ev (s :: mk n (fun i => co a (i + 1))) x - ev a x := fun x => by
    have hE : Eqv (s :: mk n (fun i => co a (i + 1))) a := fun i => by
      match i with
      | 0 => rw [hc0]; simp [co]
      | i + 1 =>
        rw [co_cons, co_mk]
        by_cases hi : i < n
        · rw [if_pos hi]
        · rw [if_neg hi, co_over (by omega)]
    exact Q.ev (Eqv.q hE) x
  refine ⟨⟨mk_length _ _, Bd.mk fun i _ => h1.bd (by omega) _, fun j hj => ?_⟩, hc0⟩
  have h4 := h3 (j + 1) (by omega)
  have h5 : (p : Int) ∣ ev a (X j) - Y j := h4
  have h6 := md (cong_tr (hq (X j)) h5)
  rw [h6, Int.emod_eq_of_lt (hY j hj).1 (hY j hj).2]

/-- SHAMIR: the same points, with sums. -/
theorem ev_sum {p : Nat} (hp : 1 ≤ p) (a b : Int) (m k : List Int) (hl : m.length = k.length) (x : Int) : ev (((a + b) % (p : Int)) :: mk m.length (fun i => (co m i + co k i) % (p : Int))) x % (p : Int) = (ev (a :: m) x % (p : Int) + ev (b :: k) x % (p : Int)) % (p : Int) := by
  refine md ?_
  have h1 := mod_cong (p := p) (ev (a :: m) x)
  have h2 := mod_cong (p := p) (ev (b :: k) x)
  refine cong_tr ?_ (cong_sy (cong_add h1 h2))
  rw [← ev_padd]
  refine Q.ev (fun i => ?_) x
  rw [co_padd]
  match i with
  | 0 =>
    show (p : Int) ∣ (a + b) % (p : Int) - (a + b)
    exact mod_cong _
  | i + 1 =>
    rw [co_cons, co_cons, co_cons, co_mk]
    by_cases hi : i < m.length
    · rw [if_pos hi]; exact mod_cong _
    · rw [if_neg hi, co_over (l := m) (by omega), co_over (l := k) (by omega)]; simp

end Go.Proofs.Ytpnmepobdnclkaa.Num39
