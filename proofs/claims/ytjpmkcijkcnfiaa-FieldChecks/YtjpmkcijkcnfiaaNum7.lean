/-
  Plain arithmetic, without the model: a polynomial has no more roots by a prime than its degree; and a prime has a number whose powers are all.
-/
import Derived.Test.YtjpmkcijkcnfiaaNum6
namespace Go.Proofs.Ytjpmkcijkcnfiaa.Num7
set_option linter.unusedVariables false
open Go.Proofs.Ytjpmkcijkcnfiaa.Num Go.Proofs.Ytjpmkcijkcnfiaa.Num3 Go.Proofs.Ytjpmkcijkcnfiaa.Num6

/-- What a polynomial is at x: the lowest number first. -/
def ev : List Int → Int → Int
  | [], _ => 0
  | c :: cs, x => c + x * ev cs x

/-- What is left when x less r is divided out. -/
def qt (r : Int) : List Int → List Int
  | [] => []
  | [_] => []
  | _ :: c :: cs => ev (c :: cs) r :: qt r (c :: cs)

theorem qt_length (r : Int) : ∀ f : List Int, (qt r f).length = f.length - 1
  | [] => rfl
  | [_] => rfl
  | _ :: c :: cs => by simp only [qt, List.length_cons, qt_length r (c :: cs)]; omega

theorem ev_qt (r x : Int) : ∀ f : List Int, ev f x = ev f r + (x - r) * ev (qt r f) x
  | [] => by simp [ev, qt]
  | [c] => by simp [ev, qt]
  | c :: d :: cs => by
    have ih := ev_qt r x (d :: cs)
    show c + x * ev (d :: cs) x = c + r * ev (d :: cs) r + (x - r) * (ev (d :: cs) r + x * ev (qt r (d :: cs)) x)
    rw [ih]
    generalize ev (d :: cs) r = E
    generalize ev (qt r (d :: cs)) x = Q
    have e1 : x * (E + (x - r) * Q) = x * E + (x - r) * (x * Q) := by
      rw [Int.mul_add, Int.mul_left_comm]
    have e2 : (x - r) * (E + x * Q) = (x - r) * E + (x - r) * (x * Q) := Int.mul_add _ _ _
    have e3 : (x - r) * E = x * E - r * E := Int.sub_mul _ _ _
    rw [e1, e2, e3]; omega

theorem int_dvd_mul {p : Nat} (hp : Pr p) {a b : Int} (h : (p : Int) ∣ a * b) : (p : Int) ∣ a ∨ (p : Int) ∣ b := by
  have h1 : p ∣ a.natAbs * b.natAbs := by
    rw [← Int.natAbs_mul]
    have := Int.natAbs_dvd_natAbs.2 h
    simpa using this
  rcases hp.dvd_mul h1 with h | h
  · exact .inl (Int.natAbs_dvd_natAbs.1 (by simpa using h))
  · exact .inr (Int.natAbs_dvd_natAbs.1 (by simpa using h))

theorem qt_zero {p : Nat} (r : Int) : ∀ f : List Int, (p : Int) ∣ ev f r → (∀ c ∈ qt r f, (p : Int) ∣ c) → ∀ c ∈ f, (p : Int) ∣ c
  | [], _, _ => by simp
  | [c], h, _ => by
    intro x hx
    simp at hx; subst hx
    simpa [ev] using h
  | c :: d :: cs, h, hq => by
    have h1 : (p : Int) ∣ ev (d :: cs) r := hq _ (by simp [qt])
    have h2 := qt_zero r (d :: cs) h1 (fun x hx => hq x (by simp only [qt]; exact List.mem_cons_of_mem _ hx))
    intro x hx
    rcases List.mem_cons.1 hx with e | hx
    · subst e
      have h3 : (p : Int) ∣ x + r * ev (d :: cs) r := h
      have h4 : (p : Int) ∣ r * ev (d :: cs) r := Int.dvd_trans h1 (Int.dvd_mul_left _ _)
      exact (Int.dvd_add_left h4).1 h3
    · exact h2 x hx

/-- Lagrange: as many roots, no two of them the same by the prime, as there are numbers: then all numbers are 0. -/
theorem roots {p : Nat} (hp : Pr p) : ∀ (S : List Int) (f : List Int), f.length ≤ S.length → S.Pairwise (fun x y => ¬ (p : Int) ∣ x - y) → (∀ x ∈ S, (p : Int) ∣ ev f x) → ∀ c ∈ f, (p : Int) ∣ c := by
  intro S
  induction S with
  | nil =>
    intro f hl _ _ c hc
    have : f = [] := List.length_eq_zero_iff.1 (by simpa using hl)
    subst this; simp at hc
  | cons r S ih =>
    intro f hl hw hr
    have hr0 := hr r (by simp)
    refine qt_zero r f hr0 (ih (qt r f) ?_ (List.pairwise_cons.1 hw).2 (fun x hx => ?_))
    · rw [qt_length]; simp at hl; omega
    · have h1 := hr x (by simp [hx])
      rw [ev_qt r x f] at h1
      have h2 : (p : Int) ∣ (x - r) * ev (qt r f) x := (Int.dvd_add_right hr0).1 h1
      rcases int_dvd_mul hp h2 with h | h
      · exfalso
        refine (List.pairwise_cons.1 hw).1 x hx ?_
        have : r - x = -(x - r) := by omega
        rw [this]
        exact Int.dvd_neg.2 h
      · exact h

/-- x to the nth. -/
def mono : Nat → List Int
  | 0 => [1]
  | n + 1 => 0 :: mono n

theorem ev_mono (x : Int) : ∀ n, ev (mono n) x = x ^ n
  | 0 => by simp [mono, ev]
  | n + 1 => by
    show 0 + x * ev (mono n) x = x ^ (n + 1)
    rw [ev_mono x n, Int.pow_succ, Int.mul_comm, Int.zero_add]

theorem mono_length : ∀ n, (mono n).length = n + 1
  | 0 => rfl
  | n + 1 => by simp [mono, mono_length n]

theorem one_mem_mono : ∀ n, (1 : Int) ∈ mono n
  | 0 => by simp [mono]
  | n + 1 => List.mem_cons_of_mem _ (one_mem_mono n)

/-- x to the nth, less 1. -/
def mono1 (n : Nat) : List Int := -1 :: mono (n - 1)

theorem ev_mono1 (x : Int) {n : Nat} (h : 1 ≤ n) : ev (mono1 n) x = x ^ n - 1 := by
  show -1 + x * ev (mono (n - 1)) x = x ^ n - 1
  rw [ev_mono]
  have : x * x ^ (n - 1) = x ^ n := by
    conv => rhs; rw [show n = (n - 1) + 1 by omega, Int.pow_succ]
    rw [Int.mul_comm]
  omega

theorem natpow_cast (a k : Nat) : ((a ^ k : Nat) : Int) = (a : Int) ^ k := by
  exact Int.natCast_pow a k

/-- At most n of the numbers below a prime have 1 as their nth power. -/
theorem root_bound {p n : Nat} (hp : Pr p) (hn : 1 ≤ n) (S : List Nat) (hS : S.Nodup) (hb : ∀ x ∈ S, x < p) (hr : ∀ x ∈ S, x ^ n % p = 1) : S.length ≤ n := by
  rcases Nat.lt_or_ge n S.length with h | h
  · exfalso
    have hlt : ∀ {x y : Nat}, x < p → y < p → x ≠ y → ¬ (p : Int) ∣ (x : Int) - (y : Int) := by
      intro x y hx hy hne hd
      obtain ⟨q, hq⟩ := hd
      have h1 : (x : Int) - y < p := by omega
      have h2 : -(p : Int) < (x : Int) - y := by omega
      rw [hq] at h1 h2
      have hp0 : (0 : Int) < p := by have := hp.1; omega
      have hq1 : q < 1 := by
        rcases Int.lt_or_le q 1 with h | h
        · exact h
        · have : (p : Int) * 1 ≤ p * q := Int.mul_le_mul_of_nonneg_left h (by omega)
          omega
      have hq2 : -1 < q := by
        rcases Int.lt_or_le (-1) q with h | h
        · exact h
        · have : (p : Int) * q ≤ p * (-1) := Int.mul_le_mul_of_nonneg_left h (by omega)
          omega
      have : q = 0 := by omega
      subst this
      simp at hq; omega
    have hall := roots hp (S.map (fun x : Nat => (x : Int))) (mono1 n) (by simp [mono1, mono_length]; omega) (List.pairwise_map.2 (hS.imp_of_mem (fun {x y} hx hy hne => hlt (hb x hx) (hb y hy) hne))) (fun z hz => by
      obtain ⟨x, hx, rfl⟩ := List.mem_map.1 hz
      rw [ev_mono1 _ hn, ← natpow_cast]
      have e := Nat.div_add_mod (x ^ n) p
      rw [hr x hx] at e
      refine ⟨((x ^ n / p : Nat) : Int), ?_⟩
      have e2 : ((x ^ n : Nat) : Int) = ((p * (x ^ n / p) + 1 : Nat) : Int) := by rw [e]
      rw [e2]; simp)
    have h1 := hall 1 (by simp only [mono1]; exact List.mem_cons_of_mem _ (one_mem_mono _))
    obtain ⟨q, hq⟩ := h1
    have := Int.le_of_dvd (by omega) (show (p : Int) ∣ 1 from ⟨q, hq⟩)
    have := hp.1
    omega
  · exact h

/-- A prime has a number whose powers are all. -/
theorem prim_ex {p : Nat} (hp : Pr p) : ∃ g, IsOrd g p (p - 1) := by
  have h2 := hp.1
  obtain ⟨c, L, hc, hall⟩ := lambda_ex (m := p) (by omega)
  have hone : 1 % p = 1 := Nat.mod_eq_of_lt (by omega)
  have htot : tot p = p - 1 := by
    have := tot_out (m := 1) hp (fun h => by have := Nat.le_of_dvd (by omega) h; omega)
    rw [Nat.mul_one, tot_one, Nat.mul_one] at this
    exact this
  have hLd : L ∣ p - 1 := by
    obtain ⟨o, ho, hd⟩ := ord_ex (m := p) (by omega) (cop_of_pow (by omega) hc.1 hc.2.1)
    rw [hc.uniq ho, ← htot]; exact hd
  have hlen : p - 1 ≤ L := by
    have hb := root_bound hp hc.1 ((List.range (p - 1)).map (· + 1)) (by
      refine List.pairwise_map.2 ((List.nodup_range (n := p - 1)).imp (fun {a b} h e => h ?_))
      omega) (fun x hx => by
      obtain ⟨y, hy, rfl⟩ := List.mem_map.1 hx
      have := List.mem_range.1 hy
      omega) (fun x hx => by
      obtain ⟨y, hy, rfl⟩ := List.mem_map.1 hx
      have hy' := List.mem_range.1 hy
      have hg : Nat.gcd (y + 1) p = 1 := (gcd_prime hp).2 (fun h => by have := Nat.le_of_dvd (by omega) h; omega)
      obtain ⟨o, ho, _⟩ := ord_ex (m := p) (by omega) hg
      have h3 := (ho.dvd L).2 (hall _ o ho)
      rw [hone] at h3; exact h3)
    simpa using hb
  have : L = p - 1 := Nat.le_antisymm (Nat.le_of_dvd (by omega) hLd) hlen
  rw [this] at hc
  exact ⟨c, hc⟩

/-- Fermat. -/
theorem fermat {p : Nat} (hp : Pr p) (a : Nat) : a ^ p % p = a % p := by
  by_cases hd : p ∣ a
  · rw [Nat.pow_mod, Nat.mod_eq_zero_of_dvd hd, Nat.zero_pow (by have := hp.1; omega), Nat.zero_mod]
  · have hg := (gcd_prime hp).2 hd
    have he := euler (m := p) (by have := hp.1; omega) hg
    have htot : tot p = p - 1 := by
      have := tot_out (m := 1) hp (fun h => by have := Nat.le_of_dvd (by omega) h; have := hp.1; omega)
      rw [Nat.mul_one, tot_one, Nat.mul_one] at this
      exact this
    rw [htot] at he
    have e : a ^ p = a ^ (p - 1) * a := by
      conv => lhs; rw [show p = (p - 1) + 1 by have := hp.1; omega, Nat.pow_succ]
    rw [e, Nat.mul_mod, he, ← Nat.mul_mod, Nat.one_mul]

end Go.Proofs.Ytjpmkcijkcnfiaa.Num7
