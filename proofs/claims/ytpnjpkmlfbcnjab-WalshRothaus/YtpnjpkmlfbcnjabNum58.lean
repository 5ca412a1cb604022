/-
  Plain arithmetic of waves as the document makes them: sums one by one.
-/
import Derived.Test.YtpnjpkmlfbcnjabNum57
namespace Go.Proofs.Ytpnjpkmlfbcnjab.Num58
set_option linter.unusedVariables false
open Go.Proofs.Ytpnjpkmlfbcnjab.Num34 (su)
open Go.Proofs.Ytpnjpkmlfbcnjab.Num41 Go.Proofs.Ytpnjpkmlfbcnjab.Num42 Go.Proofs.Ytpnjpkmlfbcnjab.Num43 Go.Proofs.Ytpnjpkmlfbcnjab.Num57

def bv (f x : Nat) : Int := ((bt f x : Nat) : Int)

theorem bv_two (f x : Nat) : bv f x = 0 ∨ bv f x = 1 := bt_two f x

/-- The waves of a function. -/
def wf (n f u : Nat) : Int := wv n (fun x => sn (bv f x)) u

/-- The products, bit by bit. -/
def ab (n f u : Nat) : Nat := (bl n u (bv f) % 2).toNat

theorem ab_lt (n f u : Nat) : ab n f u < 2 := by unfold ab; omega

theorem ab_int (n f u : Nat) : ((ab n f u : Nat) : Int) = bl n u (bv f) % 2 := by unfold ab; omega

/-- All products, as a number. -/
def an (n f : Nat) : Nat := bs (ab n f) (2 ^ n)

theorem an_lt {n f : Nat} : an n f < 2 ^ 2 ^ n := bs_lt (ab_lt n f) _

theorem an_bit {n f x : Nat} (hx : x < 2 ^ n) : bt (an n f) x = ab n f x := bs_bt (ab_lt n f) hx

theorem on_up : ∀ {n x : Nat}, x < 2 ^ n → on (n + 1) x = on n x
  | 0, x, h => by
    obtain rfl : x = 0 := by rw [Nat.pow_zero] at h; omega
    rfl
  | n + 1, x, h => by
    have hp : 2 ^ (n + 1) = 2 * 2 ^ n := by rw [Nat.pow_succ, Nat.mul_comm]
    show x % 2 + on (n + 1) (x / 2) = x % 2 + on n (x / 2)
    rw [on_up (n := n) (x := x / 2) (by omega)]

theorem on_any {n x : Nat} (h : x < 2 ^ n) : ∀ d, on (n + d) x = on n x
  | 0 => rfl
  | d + 1 => by
    rw [← Nat.add_assoc, on_up (Nat.lt_of_lt_of_le h (Nat.pow_le_pow_right (by omega) (by omega))), on_any h d]

theorem on_five {n x : Nat} (hn : n ≤ 5) (h : x < 2 ^ n) : on 5 x = on n x := by
  have := on_any h (5 - n)
  rwa [show n + (5 - n) = 5 by omega] at this

theorem and_lt {n u x : Nat} (h : u < 2 ^ n) : u &&& x < 2 ^ n := Nat.lt_of_le_of_lt Nat.and_le_left h

/-- The sign of a place, as the document finds it. -/
theorem sign_of {n f u x : Nat} (hn : n ≤ 5) (hu : u < 2 ^ n) : sn (bv f x) * chi n u x = if (bt f x + on 5 (u &&& x)) % 2 = 0 then 1 else -1 := by
  have e : sn (bv f x) = sg (bt f x) := by
    unfold sn bv sg
    have := bt_lt f x
    by_cases h : bt f x = 0
    · rw [h]; rfl
    · rw [show bt f x = 1 by omega]; rfl
  rw [e, chi_on, ← sg_add, on_five hn (and_lt hu)]
  rfl

/-- The sum of signs, up to m. -/
def ws (n f u : Nat) (m : Nat) : Int := su (fun x => sn (bv f x) * chi n u x) m

theorem ws_step {n f u : Nat} (hn : n ≤ 5) (hu : u < 2 ^ n) (m : Nat) :
    ((bt f m + on 5 (u &&& m)) % 2 = 0 → ws n f u (m + 1) = ws n f u m + 1) ∧ (¬ (bt f m + on 5 (u &&& m)) % 2 = 0 → ws n f u (m + 1) = ws n f u m - 1) := by
  have e : ws n f u (m + 1) = ws n f u m + sn (bv f m) * chi n u m := rfl
  rw [e, sign_of hn hu]
  constructor
  · intro h; rw [if_pos h]
  · intro h; rw [if_neg h]; omega

theorem ws_end (n f u : Nat) : ws n f u (2 ^ n) = wf n f u := by
  unfold ws wf wv
  rw [s2_su]

/-! ### sums of what is below -/

theorem bl_s2 : ∀ {n u : Nat} (g : Nat → Int), u < 2 ^ n → bl n u g = s2 n (fun x => if x &&& u = x then g x else 0)
  | 0, u, g, hu => by
    obtain rfl : u = 0 := by rw [Nat.pow_zero] at hu; omega
    show g 0 = if 0 &&& 0 = 0 then g 0 else 0
    rw [if_pos (by decide)]
  | n + 1, u, g, hu => by
    have hp : 2 ^ (n + 1) = 2 * 2 ^ n := by rw [Nat.pow_succ, Nat.mul_comm]
    have key : ∀ x v b c : Nat, b < 2 → c < 2 → (((2 * x + b) &&& (2 * v + c) = 2 * x + b) ↔ (b ≤ c ∧ x &&& v = x)) := fun x v b c hb hc => by
      have h1 := and_low (2 * x + b) (2 * v + c)
      have h2 := and_half (2 * x + b) (2 * v + c)
      rw [show (2 * x + b) / 2 = x by omega, show (2 * v + c) / 2 = v by omega] at h2
      rw [show (2 * x + b) % 2 = b by omega, show (2 * v + c) % 2 = c by omega] at h1
      generalize (2 * x + b) &&& (2 * v + c) = y at *
      generalize x &&& v = z at *
      split at h1 <;> omega
    rcases Nat.mod_two_eq_zero_or_one u with h | h
    · obtain ⟨v, rfl⟩ : ∃ v, u = 2 * v := ⟨u / 2, by omega⟩
      rw [bl_even, bl_s2 _ (show v < 2 ^ n by omega)]
      show _ = s2 n (fun y => if (2 * y) &&& (2 * v) = 2 * y then g (2 * y) else 0) + s2 n (fun y => if (2 * y + 1) &&& (2 * v) = 2 * y + 1 then g (2 * y + 1) else 0)
      have z : s2 n (fun y => if (2 * y + 1) &&& (2 * v) = 2 * y + 1 then g (2 * y + 1) else 0) = s2 n (fun _ => 0) := by
        refine s2_congr (fun y _ => if_neg (fun e => ?_))
        have := (key y v 1 0 (by omega) (by omega)).1 e
        omega
      rw [z, s2_const, Int.mul_zero, Int.add_zero]
      refine s2_congr (fun y _ => ?_)
      have k0 := key y v 0 0 (by omega) (by omega)
      simp only [Nat.add_zero] at k0
      by_cases e : y &&& v = y
      · rw [if_pos e, if_pos (k0.2 ⟨by omega, e⟩)]
      · rw [if_neg e, if_neg (fun k => e (k0.1 k).2)]
    · obtain ⟨v, rfl⟩ : ∃ v, u = 2 * v + 1 := ⟨u / 2, by omega⟩
      rw [bl_odd, bl_s2 _ (show v < 2 ^ n by omega), bl_s2 _ (show v < 2 ^ n by omega)]
      show _ = s2 n (fun y => if (2 * y) &&& (2 * v + 1) = 2 * y then g (2 * y) else 0) + s2 n (fun y => if (2 * y + 1) &&& (2 * v + 1) = 2 * y + 1 then g (2 * y + 1) else 0)
      congr 1
      · refine s2_congr (fun y _ => ?_)
        have k0 := key y v 0 1 (by omega) (by omega)
        simp only [Nat.add_zero] at k0
        by_cases e : y &&& v = y
        · rw [if_pos e, if_pos (k0.2 ⟨by omega, e⟩)]
        · rw [if_neg e, if_neg (fun k => e (k0.1 k).2)]
      · refine s2_congr (fun y _ => ?_)
        by_cases e : y &&& v = y
        · rw [if_pos e, if_pos ((key y v 1 1 (by omega) (by omega)).2 ⟨by omega, e⟩)]
        · rw [if_neg e, if_neg (fun k => e ((key y v 1 1 (by omega) (by omega)).1 k).2)]

/-- The sum of those below u, up to m. -/
def asu (f u m : Nat) : Int := su (fun x => if x &&& u = x then bv f x else 0) m

theorem as_step (f u m : Nat) : asu f u (m + 1) = if m &&& u = m then asu f u m + bv f m else asu f u m := by
  show asu f u m + (if m &&& u = m then bv f m else 0) = _
  split <;> omega

theorem su_null {g : Nat → Int} {a : Nat} : ∀ d, (∀ x, a ≤ x → x < a + d → g x = 0) → su g (a + d) = su g a
  | 0, _ => rfl
  | d + 1, h => by
    show su g (a + d) + g (a + d) = _
    rw [su_null d (fun x h1 h2 => h x h1 (by omega)), h (a + d) (by omega) (by omega)]
    omega

theorem as_end {n f u : Nat} (hu : u < 2 ^ n) : asu f u (u + 1) = bl n u (bv f) := by
  rw [bl_s2 _ hu, s2_su]
  obtain ⟨d, hd⟩ : ∃ d, 2 ^ n = u + 1 + d := ⟨2 ^ n - (u + 1), by omega⟩
  rw [hd, su_null d (fun x h1 h2 => if_neg (fun e => by
    have : x &&& u ≤ u := Nat.and_le_right
    omega))]
  rfl

theorem as_bd (f u : Nat) : ∀ m, 0 ≤ asu f u m ∧ asu f u m ≤ m
  | 0 => ⟨Int.le_refl _, Int.le_refl _⟩
  | m + 1 => by
    have ih := as_bd f u m
    have := bv_two f m
    rw [as_step]
    split <;> omega

/-! ### sums at given values -/

def sm (f S v m : Nat) : Int := su (fun x => if x &&& S = v then bv f x else 0) m

theorem sm_step (f S v m : Nat) : sm f S v (m + 1) = if m &&& S = v then sm f S v m + bv f m else sm f S v m := by
  show sm f S v m + (if m &&& S = v then bv f m else 0) = _
  split <;> omega

theorem sm_bd (f S v : Nat) : ∀ m, 0 ≤ sm f S v m ∧ sm f S v m ≤ m
  | 0 => ⟨Int.le_refl _, Int.le_refl _⟩
  | m + 1 => by
    have ih := sm_bd f S v m
    have := bv_two f m
    rw [sm_step]
    split <;> omega

def al (f m : Nat) : Int := su (bv f) m

theorem al_bd (f : Nat) : ∀ m, 0 ≤ al f m ∧ al f m ≤ m
  | 0 => ⟨Int.le_refl _, Int.le_refl _⟩
  | m + 1 => by
    have ih := al_bd f m
    have := bv_two f m
    show 0 ≤ al f m + bv f m ∧ al f m + bv f m ≤ _
    omega

/-- So many variables tell nothing: of the first values of one set. -/
def ImV (n f k S m : Nat) : Prop := ∀ v, v < m → v ≤ S → v &&& S = v → on 5 S = k → sm f S v (2 ^ n) * 2 ^ k = al f (2 ^ n)

/-- Of the first sets. -/
def ImS (n f k m : Nat) : Prop := ∀ S, S < m → ImV n f k S (S + 1)

theorem imS_iff {n f k : Nat} (hn : n ≤ 5) : ImS n f k (2 ^ n) ↔ Im n (bv f) k := by
  constructor
  · intro h S v hS hv hs ho
    have ha := (sb_and hv).1 hs
    have hle : v ≤ S := by rw [← ha]; exact Nat.and_le_right
    have := h S hS v (by omega) hle ha (by rw [on_five hn hS]; exact ho)
    rw [cb_s2 _ hs hv, s2_su, s2_su]
    exact this
  · intro h S hS v _ hle ha ho
    have hv : v < 2 ^ n := by omega
    have hs := (sb_and hv).2 ha
    have := h S v hS hv hs (by rw [← on_five hn hS]; exact ho)
    rw [cb_s2 _ hs hv, s2_su, s2_su] at this
    exact this

theorem ImV.next {n f k S v : Nat} (h : ImV n f k S v) (h2 : v ≤ S → v &&& S = v → on 5 S = k → sm f S v (2 ^ n) * 2 ^ k = al f (2 ^ n)) : ImV n f k S (v + 1) := fun y hy h3 h4 h5 => by
  by_cases e : y = v
  · subst e; exact h2 h3 h4 h5
  · exact h y (by omega) h3 h4 h5

/-! ### the waves of signs and of bits -/

theorem chi_sum : ∀ (n u : Nat), 1 ≤ on n u → s2 n (fun x => chi n u x) = 0
  | 0, _, h => absurd h (by show ¬ 1 ≤ 0; omega)
  | n + 1, u, h => by
    show s2 n (fun y => chi (n + 1) u (2 * y)) + s2 n (fun y => chi (n + 1) u (2 * y + 1)) = 0
    simp only [chi_even, chi_odd]
    rcases Nat.mod_two_eq_zero_or_one u with e | e
    · have ee : eb u = 1 := by unfold eb; rw [if_neg (by omega)]
      have ho : 1 ≤ on n (u / 2) := by
        have : on (n + 1) u = u % 2 + on n (u / 2) := rfl
        omega
      simp only [ee, Int.one_mul]
      rw [chi_sum n (u / 2) ho]
      rfl
    · have ee : eb u = -1 := by unfold eb; rw [if_pos e]
      have e2 : (s2 n fun y => chi n (u / 2) y) = s2 n (chi n (u / 2)) := rfl
      rw [s2_mul, ee]
      omega

theorem wf_bits {n f u : Nat} (h : 1 ≤ on n u) : wf n f u = -2 * wv n (bv f) u := by
  unfold wf
  have e : (fun x => sn (bv f x)) = (fun x => (1 : Int) - 2 * bv f x) := rfl
  rw [e, wv_sub, wv_mul]
  have : wv n (fun _ => (1 : Int)) u = 0 := by
    unfold wv
    simp only [Int.one_mul]
    exact chi_sum n u h
  rw [this]
  omega

/-- The waves of 1 to k bits are 0, up to m. -/
def ImW (n f k m : Nat) : Prop := ∀ u, u < m → 1 ≤ u → on 5 u ≤ k → wf n f u = 0

theorem imW_iff {n f k : Nat} (hn : n ≤ 5) (hk : k ≤ n) : ImW n f k (2 ^ n) ↔ Im n (bv f) k := by
  rw [xiao hk]
  constructor
  · intro h u hu h1 h2
    have hu0 : 1 ≤ u := by
      rcases Nat.eq_zero_or_pos u with e | e
      · subst e
        have : ∀ m, on m 0 = 0 := fun m => by
          have := on_any (n := 0) (x := 0) (by decide) m
          rw [Nat.zero_add] at this
          exact this
        rw [this] at h1; omega
      · exact e
    have := h u hu hu0 (by rw [on_five hn hu]; exact h2)
    rw [wf_bits h1] at this
    omega
  · intro h u hu h1 h2
    rw [on_five hn hu] at h2
    have h3 := on_pos hu (by omega)
    rw [wf_bits h3, h u hu h3 h2]
    rfl

theorem ImW.next {n f k m : Nat} (h : ImW n f k m) (h2 : 1 ≤ m → on 5 m ≤ k → wf n f m = 0) : ImW n f k (m + 1) := fun u hu h1 h3 => by
  by_cases e : u = m
  · subst e; exact h2 h1 h3
  · exact h u (by omega) h1 h3

/-- The greatest number of bits of those that are set, below m. -/
def dg (h : Nat → Nat) : Nat → Int
  | 0 => -1
  | m + 1 => if h m = 1 ∧ dg h m < ((on 5 m : Nat) : Int) then ((on 5 m : Nat) : Int) else dg h m

theorem dg_bd (h : Nat → Nat) : ∀ m, -1 ≤ dg h m ∧ dg h m ≤ 5
  | 0 => ⟨Int.le_refl _, by show (-1 : Int) ≤ 5; decide⟩
  | m + 1 => by
    have ih := dg_bd h m
    have ho := on_le 5 m
    show -1 ≤ (if _ then _ else _) ∧ (if _ then _ else _) ≤ (5 : Int)
    split <;> omega

/-- The degree. -/
def df (n f : Nat) : Int := dg (ab n f) (2 ^ n)

end Go.Proofs.Ytpnjpkmlfbcnjab.Num58
