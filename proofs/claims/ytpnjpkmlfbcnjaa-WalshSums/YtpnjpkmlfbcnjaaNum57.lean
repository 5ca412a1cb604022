/-
  Plain arithmetic of waves, as they are made: passes over pairs, bits of a number, the greatest product.
-/
import Derived.Test.YtpnjpkmlfbcnjaaNum43
namespace Go.Proofs.Ytpnjpkmlfbcnjaa.Num57
set_option linter.unusedVariables false
open Go.Proofs.Ytpnjpkmlfbcnjaa.Num34 (su up1)
open Go.Proofs.Ytpnjpkmlfbcnjaa.Num41 Go.Proofs.Ytpnjpkmlfbcnjaa.Num42 Go.Proofs.Ytpnjpkmlfbcnjaa.Num43

/-! ### bits -/

def bt (f x : Nat) : Nat := f / 2 ^ x % 2

theorem bt_lt (f x : Nat) : bt f x < 2 := Nat.mod_lt _ (by omega)

theorem bt_two (f x : Nat) : ((bt f x : Nat) : Int) = 0 ∨ ((bt f x : Nat) : Int) = 1 := by have := bt_lt f x; omega

def bs (h : Nat → Nat) : Nat → Nat
  | 0 => 0
  | m + 1 => bs h m + h m * 2 ^ m

theorem bs_lt {h : Nat → Nat} (hh : ∀ x, h x < 2) : ∀ m, bs h m < 2 ^ m
  | 0 => by show 0 < 2 ^ 0; decide
  | m + 1 => by
    have ih := bs_lt hh m
    have h2 := hh m
    show bs h m + h m * 2 ^ m < 2 ^ (m + 1)
    rw [Nat.pow_succ]
    have : h m * 2 ^ m ≤ 1 * 2 ^ m := Nat.mul_le_mul_right _ (by omega)
    omega

theorem bs_bt {h : Nat → Nat} (hh : ∀ x, h x < 2) : ∀ {m x : Nat}, x < m → bt (bs h m) x = h x
  | 0, x, hx => absurd hx (by omega)
  | m + 1, x, hx => by
    show (bs h m + h m * 2 ^ m) / 2 ^ x % 2 = h x
    have hp : 0 < 2 ^ x := Nat.pow_pos (by omega)
    by_cases e : x = m
    · subst e
      have hl := bs_lt hh x
      have h2 := hh x
      rw [Nat.add_mul_div_right _ _ hp, Nat.div_eq_of_lt hl]
      omega
    · have ih := bs_bt hh (m := m) (x := x) (by omega)
      obtain ⟨d, rfl⟩ : ∃ d, m = x + 1 + d := ⟨m - x - 1, by omega⟩
      have ep : h (x + 1 + d) * 2 ^ (x + 1 + d) = (h (x + 1 + d) * 2 ^ d * 2) * 2 ^ x := by
        rw [Nat.pow_add, Nat.pow_succ]
        simp [Nat.mul_comm, Nat.mul_left_comm, Nat.mul_assoc]
      rw [ep, Nat.add_mul_div_right _ _ hp, Nat.add_mul_mod_self_right]
      exact ih

theorem bs_of (f : Nat) : ∀ m, bs (bt f) m = f % 2 ^ m
  | 0 => by show 0 = f % 2 ^ 0; rw [Nat.pow_zero, Nat.mod_one]
  | m + 1 => by
    show bs (bt f) m + f / 2 ^ m % 2 * 2 ^ m = _
    rw [bs_of f m, Nat.pow_succ, Nat.mod_mul, Nat.mul_comm (2 ^ m) (f / 2 ^ m % 2)]

theorem bs_whole {f m : Nat} (h : f < 2 ^ m) : bs (bt f) m = f := by rw [bs_of, Nat.mod_eq_of_lt h]

theorem bs_congr {g h : Nat → Nat} : ∀ {m : Nat}, (∀ x, x < m → g x = h x) → bs g m = bs h m
  | 0, _ => rfl
  | m + 1, e => by
    show bs g m + g m * 2 ^ m = bs h m + h m * 2 ^ m
    rw [bs_congr (m := m) (fun x hx => e x (by omega)), e m (by omega)]

theorem bs_or {h : Nat → Nat} (hh : ∀ x, h x < 2) (m : Nat) : bs h m ||| h m * 2 ^ m = bs h (m + 1) := by
  have e := Nat.two_pow_add_eq_or_of_lt (bs_lt hh m) (h m)
  show _ = bs h m + h m * 2 ^ m
  rw [Nat.or_comm, Nat.mul_comm (h m) (2 ^ m), ← e, Nat.add_comm]

/-! ### passes over pairs -/

def ps (p q : Int → Int → Int) (k : Nat) (f : Nat → Int) (x : Nat) : Int :=
  if x / 2 ^ k % 2 = 0 then p (f x) (f (x + 2 ^ k)) else q (f (x - 2 ^ k)) (f x)

def tn (p q : Int → Int → Int) (g : Nat → Int) : Nat → Nat → Int
  | 0 => g
  | k + 1 => ps p q k (tn p q g k)

theorem ps_half (p q : Int → Int → Int) (k : Nat) (f : Nat → Int) (y b : Nat) (hb : b < 2) :
    ps p q (k + 1) f (2 * y + b) = ps p q k (fun z => f (2 * z + b)) y := by
  unfold ps
  have hp : 2 ^ (k + 1) = 2 * 2 ^ k := by rw [Nat.pow_succ, Nat.mul_comm]
  have hq : 0 < 2 ^ k := Nat.pow_pos (by omega)
  have e1 : (2 * y + b) / 2 ^ (k + 1) = y / 2 ^ k := by
    rw [hp, ← Nat.div_div_eq_div_mul, show (2 * y + b) / 2 = y by omega]
  rw [e1]
  by_cases h : y / 2 ^ k % 2 = 0
  · rw [if_pos h, if_pos h, show 2 * y + b + 2 ^ (k + 1) = 2 * (y + 2 ^ k) + b by omega]
  · rw [if_neg h, if_neg h]
    have hy : 2 ^ k ≤ y := by
      rcases Nat.lt_or_ge y (2 ^ k) with hl | hl
      · exact absurd (by rw [Nat.div_eq_of_lt hl]) h
      · exact hl
    rw [show 2 * y + b - 2 ^ (k + 1) = 2 * (y - 2 ^ k) + b by omega]

theorem ps_congr {p q : Int → Int → Int} {k : Nat} {f g : Nat → Int} (h : ∀ x, f x = g x) (x : Nat) : ps p q k f x = ps p q k g x := by
  rw [show f = g from funext h]

theorem tn_half (p q : Int → Int → Int) (g : Nat → Int) (b : Nat) (hb : b < 2) : ∀ n v : Nat,
    tn p q g (n + 1) (2 * v + b) = tn p q (fun y => ps p q 0 g (2 * y + b)) n v
  | 0, v => rfl
  | n + 1, v => by
    show ps p q (n + 1) (tn p q g (n + 1)) (2 * v + b) = ps p q n (tn p q (fun y => ps p q 0 g (2 * y + b)) n) v
    rw [ps_half p q n _ v b hb]
    exact ps_congr (fun y => tn_half p q g b hb n y) v

theorem ps_even (p q : Int → Int → Int) (g : Nat → Int) (y : Nat) : ps p q 0 g (2 * y + 0) = p (g (2 * y)) (g (2 * y + 1)) := by
  unfold ps
  rw [Nat.pow_zero, Nat.div_one, if_pos (by omega)]
  rfl

theorem ps_odd (p q : Int → Int → Int) (g : Nat → Int) (y : Nat) : ps p q 0 g (2 * y + 1) = q (g (2 * y)) (g (2 * y + 1)) := by
  unfold ps
  rw [Nat.pow_zero, Nat.div_one, if_neg (by omega)]
  rfl

theorem wv_add (n : Nat) (f g : Nat → Int) (u : Nat) : wv n (fun x => f x + g x) u = wv n f u + wv n g u := by
  unfold wv
  rw [← s2_add]
  exact s2_congr (fun x _ => by rw [Int.add_mul])

theorem wv_mul (c : Int) (n : Nat) (f : Nat → Int) (u : Nat) : wv n (fun x => c * f x) u = c * wv n f u := by
  unfold wv
  rw [← s2_mul]
  exact s2_congr (fun x _ => by rw [Int.mul_assoc])

theorem wv_sub (n : Nat) (f g : Nat → Int) (u : Nat) : wv n (fun x => f x - g x) u = wv n f u - wv n g u := by
  have e : (fun x => f x - g x) = (fun x => f x + (-1) * g x) := by funext x; omega
  rw [e, wv_add, wv_mul]; omega

def pA (a b : Int) : Int := a + b
def qA (a b : Int) : Int := a - b

theorem tn_wv : ∀ (n : Nat) (g : Nat → Int) (u : Nat), u < 2 ^ n → tn pA qA g n u = wv n g u
  | 0, g, u, hu => by
    obtain rfl : u = 0 := by rw [Nat.pow_zero] at hu; omega
    show g 0 = g 0 * 1
    omega
  | n + 1, g, u, hu => by
    have hp : 2 ^ (n + 1) = 2 * 2 ^ n := by rw [Nat.pow_succ, Nat.mul_comm]
    rcases Nat.mod_two_eq_zero_or_one u with h | h
    · obtain ⟨v, rfl⟩ : ∃ v, u = 2 * v + 0 := ⟨u / 2, by omega⟩
      rw [tn_half _ _ _ 0 (by omega), tn_wv n _ v (by omega), show 2 * v + 0 = 2 * v from rfl, wv_even, ← wv_add]
      unfold wv
      exact s2_congr (fun y _ => by show ps pA qA 0 g (2 * y + 0) * _ = _; rw [ps_even]; rfl)
    · obtain ⟨v, rfl⟩ : ∃ v, u = 2 * v + 1 := ⟨u / 2, by omega⟩
      rw [tn_half _ _ _ 1 (by omega), tn_wv n _ v (by omega), wv_odd, ← wv_sub]
      unfold wv
      exact s2_congr (fun y _ => by show ps pA qA 0 g (2 * y + 1) * _ = _; rw [ps_odd]; rfl)

def pX (a _b : Int) : Int := a
def qX (a b : Int) : Int := (a + b) % 2

theorem tn_bl : ∀ (n : Nat) (g : Nat → Int) (u : Nat), u < 2 ^ n → (∀ x, g x = 0 ∨ g x = 1) → tn pX qX g n u = bl n u g % 2
  | 0, g, u, hu, hg => by
    obtain rfl : u = 0 := by rw [Nat.pow_zero] at hu; omega
    show g 0 = g 0 % 2
    have := hg 0
    omega
  | n + 1, g, u, hu, hg => by
    have hp : 2 ^ (n + 1) = 2 * 2 ^ n := by rw [Nat.pow_succ, Nat.mul_comm]
    rcases Nat.mod_two_eq_zero_or_one u with h | h
    · obtain ⟨v, rfl⟩ : ∃ v, u = 2 * v + 0 := ⟨u / 2, by omega⟩
      rw [tn_half _ _ _ 0 (by omega), tn_bl n _ v (by omega) (fun x => by rw [ps_even]; exact hg _), show 2 * v + 0 = 2 * v from rfl, bl_even]
      rw [show (fun y => ps pX qX 0 g (2 * y + 0)) = (fun y => g (2 * y)) from funext (fun y => by rw [ps_even]; rfl)]
    · obtain ⟨v, rfl⟩ : ∃ v, u = 2 * v + 1 := ⟨u / 2, by omega⟩
      rw [tn_half _ _ _ 1 (by omega), tn_bl n _ v (by omega) (fun x => by
        rw [ps_odd]
        show (_ + _) % 2 = 0 ∨ (_ + _) % 2 = 1
        omega), bl_odd, ← bl_add]
      have hc := bl_congr (n := n) (u := v) (f := fun y => ps pX qX 0 g (2 * y + 1)) (g := fun y => g (2 * y) + g (2 * y + 1)) (fun x _ => by
        rw [ps_odd]
        show (2 : Int) ∣ (_ + _) % 2 - (_ + _)
        omega)
      omega

theorem tn_two {n : Nat} {g : Nat → Int} (hg : ∀ x, g x = 0 ∨ g x = 1) : ∀ k x, tn pX qX g k x = 0 ∨ tn pX qX g k x = 1
  | 0, x => hg x
  | k + 1, x => by
    show ps pX qX k (tn pX qX g k) x = 0 ∨ ps pX qX k (tn pX qX g k) x = 1
    unfold ps
    split
    · exact tn_two (n := n) hg k x
    · show (_ + _) % 2 = 0 ∨ (_ + _) % 2 = 1
      omega

theorem tn_big {g : Nat → Int} (hg : ∀ x, -1 ≤ g x ∧ g x ≤ 1) : ∀ k x, -(2 ^ k : Int) ≤ tn pA qA g k x ∧ tn pA qA g k x ≤ 2 ^ k
  | 0, x => hg x
  | k + 1, x => by
    show _ ≤ ps pA qA k (tn pA qA g k) x ∧ ps pA qA k (tn pA qA g k) x ≤ _
    unfold ps
    rw [Int.pow_succ]
    have h1 := tn_big hg k x
    split
    · have h2 := tn_big hg k (x + 2 ^ k)
      show _ ≤ _ + _ ∧ _ + _ ≤ _
      omega
    · have h2 := tn_big hg k (x - 2 ^ k)
      show _ ≤ _ - _ ∧ _ - _ ≤ _
      omega

/-! ### within a pass -/

def md (p q : Int → Int → Int) (k : Nat) (f : Nat → Int) (x y : Nat) : Int := if y - y / 2 ^ k % 2 * 2 ^ k < x then ps p q k f y else f y

theorem md_start (p q : Int → Int → Int) (k : Nat) (f : Nat → Int) : md p q k f 0 = f := by
  funext y
  unfold md
  rw [if_neg (by omega)]

theorem md_end {p q : Int → Int → Int} {k : Nat} {f : Nat → Int} {m y : Nat} (h : y < m) : md p q k f m y = ps p q k f y := by
  unfold md
  rw [if_pos (by omega)]

theorem bit_base {y P : Nat} (hP : 0 < P) : (y / P % 2 = 0 ∧ y - y / P % 2 * P = y) ∨ (y / P % 2 = 1 ∧ P ≤ y ∧ y - y / P % 2 * P = y - P ∧ (y - P) / P % 2 = 0) := by
  rcases Nat.mod_two_eq_zero_or_one (y / P) with h | h
  · exact .inl ⟨h, by rw [h]; omega⟩
  · have hy : P ≤ y := by
      rcases Nat.lt_or_ge y P with hl | hl
      · rw [Nat.div_eq_of_lt hl] at h; omega
      · exact hl
    refine .inr ⟨h, hy, by rw [h]; omega, ?_⟩
    have : (y - P + P) / P = (y - P) / P + 1 := Nat.add_div_right _ hP
    rw [Nat.sub_add_cancel hy] at this
    omega

theorem bit_up {x P : Nat} (hP : 0 < P) (h : x / P % 2 = 0) : (x + P) / P % 2 = 1 := by
  rw [Nat.add_div_right _ hP]; omega

theorem md_at {p q : Int → Int → Int} {k : Nat} {f : Nat → Int} {x : Nat} (h : x / 2 ^ k % 2 = 0) : md p q k f x x = f x ∧ md p q k f x (x + 2 ^ k) = f (x + 2 ^ k) := by
  have hP : 0 < 2 ^ k := Nat.pow_pos (by omega)
  have hu := bit_up hP h
  unfold md
  generalize 2 ^ k = P at *
  constructor
  · rw [h, if_neg (by omega)]
  · rw [hu, if_neg (by omega)]

theorem md_skip {p q : Int → Int → Int} {k : Nat} {f : Nat → Int} {x : Nat} (h : ¬ x / 2 ^ k % 2 = 0) : md p q k f x = md p q k f (x + 1) := by
  have hP : 0 < 2 ^ k := Nat.pow_pos (by omega)
  funext y
  unfold md
  have hb := bit_base (y := y) hP
  generalize 2 ^ k = P at *
  by_cases e : y - y / P % 2 * P < x
  · rw [if_pos e, if_pos (by omega)]
  · rw [if_neg e]
    rw [if_neg]
    intro e2
    have e3 : y - y / P % 2 * P = x := by omega
    rcases hb with ⟨b1, b2⟩ | ⟨b1, b2, b3, b4⟩
    · rw [b2] at e3
      rw [e3] at b1
      exact h b1
    · rw [b3] at e3
      rw [e3] at b4
      exact h b4

theorem md_step {p q : Int → Int → Int} {k : Nat} {f : Nat → Int} {x : Nat} (h : x / 2 ^ k % 2 = 0) :
    up1 (up1 (md p q k f x) x (p (f x) (f (x + 2 ^ k)))) (x + 2 ^ k) (q (f x) (f (x + 2 ^ k))) = md p q k f (x + 1) := by
  have hP : 0 < 2 ^ k := Nat.pow_pos (by omega)
  have hu := bit_up hP h
  funext y
  have hb := bit_base (y := y) hP
  unfold md ps up1
  generalize 2 ^ k = P at *
  by_cases e1 : y = x + P
  · subst e1
    rw [if_pos rfl, hu, if_pos (by omega), if_neg (by omega)]
    rw [show x + P - P = x by omega]
  · rw [if_neg e1]
    by_cases e2 : y = x
    · subst e2
      rw [if_pos rfl, h, if_pos (by omega), if_pos rfl]
    · rw [if_neg e2]
      show (if y - y / P % 2 * P < x then _ else _) = _
      by_cases e : y - y / P % 2 * P < x
      · rw [if_pos e, if_pos (show y - y / P % 2 * P < x + 1 by omega)]
      · rw [if_neg e, if_neg]
        intro e3
        have e4 : y - y / P % 2 * P = x := by omega
        rcases hb with ⟨b1, b2⟩ | ⟨b1, b2, b3, b4⟩
        · rw [b2] at e4; exact e2 e4
        · rw [b3] at e4; omega

end Go.Proofs.Ytpnjpkmlfbcnjaa.Num57
