/-
  Plain arithmetic: how many bts of a word of 64 are set, as package math/bts counts them.
-/
import Derived.Test.YtfomanpehfdnbaaNum65
namespace Go.Proofs.Ytfomanpehfdnbaa.Num66
set_option linter.unusedVariables false
open Go.Proofs.Ytfomanpehfdnbaa.Num44 Go.Proofs.Ytfomanpehfdnbaa.Num54 Go.Proofs.Ytfomanpehfdnbaa.Num65

/-- Digits of w bts each, the lowest one first. -/
def dv (w : Nat) : List Nat → Nat
  | [] => 0
  | d :: l => d + 2 ^ w * dv w l

theorem dv_bits (w : Nat) {d x j : Nat} (hd : d < 2 ^ w) : (d + 2 ^ w * x).testBit j = if j < w then d.testBit j else x.testBit (j - w) := by
  rw [Nat.add_comm, Nat.testBit_two_pow_mul_add x hd]

theorem and_step (w : Nat) {d e x y : Nat} (hd : d < 2 ^ w) (he : e < 2 ^ w) : (d + 2 ^ w * x) &&& (e + 2 ^ w * y) = (d &&& e) + 2 ^ w * (x &&& y) := by
  refine Nat.eq_of_testBit_eq fun j => ?_
  rw [Nat.testBit_and, dv_bits w hd, dv_bits w he, dv_bits w (Nat.and_lt_two_pow d he)]
  by_cases h : j < w
  · rw [if_pos h, if_pos h, if_pos h, Nat.testBit_and]
  · rw [if_neg h, if_neg h, if_neg h, Nat.testBit_and]

/-- Every second digit is all bts. -/
def alt (w : Nat) : Nat → Nat
  | 0 => 0
  | n + 1 => (2 ^ w - 1) + 2 ^ w * (0 + 2 ^ w * alt w n)

/-- The digits two by two. -/
def two : List Nat → List Nat
  | a :: b :: l => (a + b) :: two l
  | l => l

def low (w : Nat) (l : List Nat) : Prop := ∀ d ∈ l, d < 2 ^ w

theorem and_full (w : Nat) {d : Nat} (hd : d < 2 ^ w) : d &&& (2 ^ w - 1) = d := by
  rw [Nat.and_two_pow_sub_one_eq_mod, Nat.mod_eq_of_lt hd]

theorem fold_even (w : Nat) : ∀ (n : Nat) (l : List Nat), low w l → l.length = 2 * n → ∃ E O : Nat, dv w l &&& alt w n = E ∧ (dv w l / 2 ^ w) &&& alt w n = O ∧ O + E = dv (2 * w) (two l)
  | 0, [], _, _ => ⟨0, 0, by simp [dv, alt], by simp [dv, alt], by simp [dv, two]⟩
  | 0, _ :: _, _, h => by simp at h
  | n + 1, [], _, h => by simp at h
  | n + 1, [_], _, h => by simp at h; omega
  | n + 1, a :: b :: l, hl, h => by
    have ha : a < 2 ^ w := hl a (by simp)
    have hb : b < 2 ^ w := hl b (by simp)
    have hl' : low w l := fun d hd => hl d (by simp [hd])
    obtain ⟨E, O, e1, e2, e3⟩ := fold_even w n l hl' (by simp at h; omega)
    have hp := Nat.two_pow_pos w
    have hfull : 2 ^ w - 1 < 2 ^ w := by omega
    -- the even ones
    have h1 : dv w (a :: b :: l) &&& alt w (n + 1) = a + 2 ^ w * (0 + 2 ^ w * E) := by
      show (a + 2 ^ w * (b + 2 ^ w * dv w l)) &&& ((2 ^ w - 1) + 2 ^ w * (0 + 2 ^ w * alt w n)) = _
      rw [and_step w ha hfull, and_step w hb hp, and_full w ha, Nat.and_zero, e1]
    -- the odd ones
    have hd1 : dv w (a :: b :: l) / 2 ^ w = b + 2 ^ w * dv w l := by
      show (a + 2 ^ w * (b + 2 ^ w * dv w l)) / 2 ^ w = _
      rw [Nat.add_mul_div_left _ _ hp, Nat.div_eq_of_lt ha, Nat.zero_add]
    have h2 : (dv w (a :: b :: l) / 2 ^ w) &&& alt w (n + 1) = b + 2 ^ w * (0 + 2 ^ w * O) := by
      rw [hd1]
      show (b + 2 ^ w * dv w l) &&& ((2 ^ w - 1) + 2 ^ w * (0 + 2 ^ w * alt w n)) = _
      rw [and_step w hb hfull, and_full w hb]
      congr 2
      -- the rest: its own odd ones
      cases l with
      | nil =>
        have : n = 0 := by simp at h; omega
        subst this
        have e0 : O = 0 := by rw [← e2]; simp [dv]
        rw [e0]; simp [dv]
      | cons c l =>
        have hc : c < 2 ^ w := hl' c (by simp)
        have hcd : dv w (c :: l) / 2 ^ w = dv w l := by
          show (c + 2 ^ w * dv w l) / 2 ^ w = _
          rw [Nat.add_mul_div_left _ _ hp, Nat.div_eq_of_lt hc, Nat.zero_add]
        rw [hcd] at e2
        show (c + 2 ^ w * dv w l) &&& (0 + 2 ^ w * alt w n) = _
        rw [and_step w hc hp, Nat.and_zero, e2]
    refine ⟨_, _, h1, h2, ?_⟩
    show _ = (a + b) + 2 ^ (2 * w) * dv (2 * w) (two l)
    rw [← e3, show 2 ^ (2 * w) = 2 ^ w * 2 ^ w by rw [← Nat.pow_add]; congr 1; omega]
    rw [Nat.zero_add, Nat.zero_add, Nat.mul_add, Nat.mul_assoc, Nat.mul_assoc]
    omega

/-- The bts as digits. -/
def bts (x : Nat) : Nat → List Nat
  | 0 => []
  | n + 1 => x % 2 :: bts (x / 2) n

theorem bits_dv : ∀ (n x : Nat), x < 2 ^ n → dv 1 (bts x n) = x
  | 0, x, h => by simp at h; subst h; rfl
  | n + 1, x, h => by
    show x % 2 + 2 ^ 1 * dv 1 (bts (x / 2) n) = x
    rw [bits_dv n (x / 2) (by rw [Nat.pow_succ] at h; omega)]
    omega

theorem bits_length : ∀ (n x : Nat), (bts x n).length = n
  | 0, _ => rfl
  | n + 1, x => by show (bts (x / 2) n).length + 1 = _; rw [bits_length n]

theorem bits_low : ∀ (n x : Nat), ∀ d ∈ bts x n, d ≤ 1
  | 0, _ => by intro d hd; cases hd
  | n + 1, x => by
    intro d hd
    rcases List.mem_cons.1 hd with e | e
    · omega
    · exact bits_low n (x / 2) d e

theorem two_length : ∀ (n : Nat) (l : List Nat), l.length = 2 * n → (two l).length = n
  | 0, [], _ => rfl
  | 0, _ :: _, h => by simp at h
  | n + 1, [], h => by simp at h
  | n + 1, [_], h => by simp at h; omega
  | n + 1, a :: b :: l, h => by
    show (two l).length + 1 = _
    rw [two_length n l (by simp at h; omega)]

theorem two_low (m : Nat) : ∀ (n : Nat) (l : List Nat), l.length = 2 * n → (∀ d ∈ l, d ≤ m) → ∀ d ∈ two l, d ≤ 2 * m
  | 0, [], _, _ => by intro d hd; cases hd
  | 0, _ :: _, h, _ => by simp at h
  | n + 1, [], h, _ => by simp at h
  | n + 1, [_], h, _ => by simp at h; omega
  | n + 1, a :: b :: l, h, hm => by
    intro d hd
    rcases List.mem_cons.1 hd with e | e
    · have := hm a (by simp); have := hm b (by simp); omega
    · exact two_low m n l (by simp at h; omega) (fun d hd => hm d (by simp [hd])) d e

theorem two_sum : ∀ (n : Nat) (l : List Nat), l.length = 2 * n → (two l).sum = l.sum
  | 0, [], _ => rfl
  | 0, _ :: _, h => by simp at h
  | n + 1, [], h => by simp at h
  | n + 1, [_], h => by simp at h; omega
  | n + 1, a :: b :: l, h => by
    show ((a + b) :: two l).sum = _
    rw [List.sum_cons, two_sum n l (by simp at h; omega), List.sum_cons, List.sum_cons]
    omega

/-- An odd number of bts is set just if their sum is odd. -/
theorem bits_sum : ∀ (n x : Nat), decide ((bts x n).sum % 2 = 1) = xs n (fun i => x.testBit i)
  | 0, x => by simp [bts, xs]
  | n + 1, x => by
    rw [xs_front, show bts x (n + 1) = x % 2 :: bts (x / 2) n from rfl, List.sum_cons]
    have h := bits_sum n (x / 2)
    have e : xs n (fun k => x.testBit (k + 1)) = xs n (fun i => (x / 2).testBit i) := xs_congr (fun k _ => by rw [Nat.testBit_succ])
    rw [e, ← h, Nat.testBit_zero]
    rcases Nat.mod_two_eq_zero_or_one x with h1 | h1 <;> rcases Nat.mod_two_eq_zero_or_one (bts (x / 2) n).sum with h2 | h2 <;> simp [Nat.add_mod, h1, h2]

/-- What is told of a word: an odd number just if an odd number is set. -/
def s0 (x : Nat) : Nat := (x / 2 &&& 6148914691236517205) + (x &&& 6148914691236517205)
def s1 (x : Nat) : Nat := (x / 4 &&& 3689348814741910323) + (x &&& 3689348814741910323)
def s2' (x : Nat) : Nat := (x / 16 + x) &&& 1085102592571150095

theorem masks : alt 1 32 = 6148914691236517205 ∧ alt 2 16 = 3689348814741910323 ∧ alt 4 8 = 1085102592571150095 := by decide

/-- Sixteen digits, behind the first two steps. -/
theorem pop_ex {x : Nat} (hx : x < 18446744073709551616) : ∃ l : List Nat, l.length = 16 ∧ (∀ d ∈ l, d ≤ 4) ∧ l.sum = (bts x 64).sum ∧ s1 (s0 x) = dv 4 l := by
  have hb := bits_dv 64 x hx
  have hlen := bits_length 64 x
  have hlow := bits_low 64 x
  obtain ⟨E, O, e1, e2, e3⟩ := fold_even 1 32 (bts x 64) (fun d hd => by have := hlow d hd; show d < 2; omega) (by rw [hlen])
  rw [hb, masks.1] at e1 e2
  have h0 : s0 x = dv 2 (two (bts x 64)) := by
    unfold s0
    rw [show x / 2 = x / 2 ^ 1 from rfl, e1, e2]
    exact e3
  have hlen1 := two_length 32 (bts x 64) (by rw [hlen])
  have hlow1 := two_low 1 32 (bts x 64) (by rw [hlen]) hlow
  obtain ⟨E', O', f1, f2, f3⟩ := fold_even 2 16 (two (bts x 64)) (fun d hd => by have := hlow1 d hd; show d < 4; omega) (by rw [hlen1])
  rw [← h0, masks.2.1] at f1 f2
  refine ⟨two (two (bts x 64)), two_length 16 _ (by rw [hlen1]), two_low 2 16 _ (by rw [hlen1]) hlow1, ?_, ?_⟩
  · rw [two_sum 16 _ (by rw [hlen1]), two_sum 32 _ (by rw [hlen])]
  · unfold s1
    rw [show s0 x / 4 = s0 x / 2 ^ 2 from rfl, f1, f2]
    exact f3

/-- The even digits. -/
def evens : List Nat → List Nat
  | a :: _ :: l => a :: evens l
  | _ => []

theorem and_even (w : Nat) : ∀ (n : Nat) (l : List Nat), low w l → l.length = 2 * n → dv w l &&& alt w n = dv (2 * w) (evens l)
  | 0, [], _, _ => by simp [dv, alt, evens]
  | 0, _ :: _, _, h => by simp at h
  | n + 1, [], _, h => by simp at h
  | n + 1, [_], _, h => by simp at h; omega
  | n + 1, a :: b :: l, hl, h => by
    have ha : a < 2 ^ w := hl a (by simp)
    have hb : b < 2 ^ w := hl b (by simp)
    have hp := Nat.two_pow_pos w
    have hfull : 2 ^ w - 1 < 2 ^ w := by omega
    have ih := and_even w n l (fun d hd => hl d (by simp [hd])) (by simp at h; omega)
    show (a + 2 ^ w * (b + 2 ^ w * dv w l)) &&& ((2 ^ w - 1) + 2 ^ w * (0 + 2 ^ w * alt w n)) = a + 2 ^ (2 * w) * dv (2 * w) (evens l)
    rw [and_step w ha hfull, and_step w hb hp, and_full w ha, Nat.and_zero, ih, Nat.zero_add, show 2 ^ (2 * w) = 2 ^ w * 2 ^ w by rw [← Nat.pow_add]; congr 1; omega, Nat.mul_assoc]

/-- Each digit with the one behind it. -/
def adj : List Nat → List Nat
  | [] => []
  | a :: l => (a + l.headD 0) :: adj l

theorem dv_head (w : Nat) (l : List Nat) : dv w l = l.headD 0 + 2 ^ w * dv w l.tail := by
  cases l with
  | nil => simp [dv]
  | cons a l => rfl

theorem dv_adj (w : Nat) : ∀ l : List Nat, dv w l.tail + dv w l = dv w (adj l)
  | [] => rfl
  | a :: l => by
    show dv w l + (a + 2 ^ w * dv w l) = (a + l.headD 0) + 2 ^ w * dv w (adj l)
    rw [← dv_adj w l, Nat.mul_add]
    have := dv_head w l
    omega

theorem dv_tail (w : Nat) {a : Nat} {l : List Nat} (ha : a < 2 ^ w) : dv w (a :: l) / 2 ^ w = dv w l := by
  show (a + 2 ^ w * dv w l) / 2 ^ w = _
  rw [Nat.add_mul_div_left _ _ (Nat.two_pow_pos w), Nat.div_eq_of_lt ha, Nat.zero_add]

theorem adj_low (m : Nat) : ∀ l : List Nat, (∀ d ∈ l, d ≤ m) → ∀ d ∈ adj l, d ≤ 2 * m
  | [], _ => by intro d hd; cases hd
  | a :: l, h => by
    intro d hd
    rcases List.mem_cons.1 hd with e | e
    · have h1 := h a (by simp)
      have h2 : l.headD 0 ≤ m := by
        cases l with
        | nil => simp
        | cons b l => exact h b (by simp)
      omega
    · exact adj_low m l (fun d hd => h d (by simp [hd])) d e

theorem adj_length : ∀ l : List Nat, (adj l).length = l.length
  | [] => rfl
  | a :: l => by show (adj l).length + 1 = _; rw [adj_length l]; rfl

/-- Eight digits, behind the first three steps. -/
theorem bytes_ex {x : Nat} (hx : x < 18446744073709551616) : ∃ l : List Nat, l.length = 8 ∧ (∀ d ∈ l, d ≤ 8) ∧ l.sum = (bts x 64).sum ∧ s2' (s1 (s0 x)) = dv 8 l := by
  obtain ⟨l, h1, h2, h3, h4⟩ := pop_ex hx
  have hne : ∃ a k, l = a :: k := by
    cases l with
    | nil => simp at h1
    | cons a k => exact ⟨a, k, rfl⟩
  have e : s1 (s0 x) / 16 + s1 (s0 x) = dv 4 (adj l) := by
    obtain ⟨a, k, rfl⟩ := hne
    have ha : a < 2 ^ 4 := by have := h2 a (by simp); show a < 16; omega
    rw [h4, show (16 : Nat) = 2 ^ 4 from rfl, dv_tail 4 ha]
    exact dv_adj 4 (a :: k)
  have hl2 := adj_low 4 l h2
  have e2 := and_even 4 8 (adj l) (fun d hd => by have := hl2 d hd; show d < 16; omega) (by rw [adj_length, h1])
  have e3 : ∀ (n : Nat) (l : List Nat), l.length = 2 * n → evens (adj l) = two l := by
    intro n
    induction n with
    | zero => intro l h; have := List.length_eq_zero_iff.1 h; subst this; rfl
    | succ n ih =>
      intro l h
      match l, h with
      | [_], h => simp at h; omega
      | a :: b :: l, h =>
        show (a + b) :: evens (adj l) = (a + b) :: two l
        rw [ih l (by simp at h; omega)]
  refine ⟨two l, two_length 8 l (by rw [h1]), two_low 4 8 l (by rw [h1]) h2, ?_, ?_⟩
  · rw [two_sum 8 l (by rw [h1]), h3]
  · unfold s2'
    rw [e, ← masks.2.2, e2, e3 8 l (by rw [h1])]

theorem list8 {l : List Nat} (h : l.length = 8) : ∃ a0 a1 a2 a3 a4 a5 a6 a7, l = [a0, a1, a2, a3, a4, a5, a6, a7] := by
  match l, h with
  | [a0, a1, a2, a3, a4, a5, a6, a7], _ => exact ⟨a0, a1, a2, a3, a4, a5, a6, a7, rfl⟩

theorem last1 {b0 b1 b2 q1 q2 q3 z : Nat} (h0 : b0 ≤ 8) (h1 : b1 ≤ 8) (h2 : b2 ≤ 8) (e0 : z = b0 + 256 * q1) (e1 : q1 = b1 + 256 * q2) (e2 : q2 = b2 + 256 * q3) : z / 256 = q1 ∧ (z + q1) / 65536 = q2 + q3 := by omega

theorem up4 {z b0 b1 b2 b3 q1 q2 q3 q4 : Nat} (h0 : b0 ≤ 8) (h1 : b1 ≤ 8) (h2 : b2 ≤ 8) (h3 : b3 ≤ 8) (e0 : z = b0 + 256 * q1) (e1 : q1 = b1 + 256 * q2) (e2 : q2 = b2 + 256 * q3) (e3 : q3 = b3 + 256 * q4) : ∃ r, r ≤ 134744072 ∧ z = r + 4294967296 * q4 :=
  ⟨b0 + 256 * (b1 + 256 * (b2 + 256 * b3)), by omega, by omega⟩

/-- The last three steps. -/
theorem last_steps {l : List Nat} (hl : l.length = 8) (h : ∀ d ∈ l, d ≤ 8) {z : Nat} (hz : z = dv 8 l) : ∃ z1 z2 z3 : Nat, z1 = z + z / 256 ∧ z2 = z1 + z1 / 65536 ∧ z3 = z2 + z2 / 4294967296 ∧ z3 % 128 = l.sum ∧ z ≤ 1152921504606846976 ∧ z3 ≤ 4611686018427387904 := by
  obtain ⟨b0, b1, b2, b3, b4, b5, b6, b7, rfl⟩ := list8 hl
  have h0 := h b0 (by simp)
  have h1 := h b1 (by simp)
  have h2 := h b2 (by simp)
  have h3 := h b3 (by simp)
  have h4 := h b4 (by simp)
  have h5 := h b5 (by simp)
  have h6 := h b6 (by simp)
  have h7 := h b7 (by simp)
  have hs : [b0, b1, b2, b3, b4, b5, b6, b7].sum = b0 + b1 + b2 + b3 + b4 + b5 + b6 + b7 := by simp only [List.sum_cons, List.sum_nil]; omega
  obtain ⟨q1, e1⟩ : ∃ q1, q1 = dv 8 [b1, b2, b3, b4, b5, b6, b7] := ⟨_, rfl⟩
  obtain ⟨q2, e2⟩ : ∃ q2, q2 = dv 8 [b2, b3, b4, b5, b6, b7] := ⟨_, rfl⟩
  obtain ⟨q3, e3⟩ : ∃ q3, q3 = dv 8 [b3, b4, b5, b6, b7] := ⟨_, rfl⟩
  obtain ⟨q4, e4⟩ : ∃ q4, q4 = dv 8 [b4, b5, b6, b7] := ⟨_, rfl⟩
  obtain ⟨q5, e5⟩ : ∃ q5, q5 = dv 8 [b5, b6, b7] := ⟨_, rfl⟩
  obtain ⟨q6, e6⟩ : ∃ q6, q6 = dv 8 [b6, b7] := ⟨_, rfl⟩
  obtain ⟨q7, e7⟩ : ∃ q7, q7 = b7 + 256 * 0 := ⟨_, rfl⟩
  have f0 : z = b0 + 256 * q1 := by rw [hz, e1]; rfl
  have f1 : q1 = b1 + 256 * q2 := by rw [e1, e2]; rfl
  have f2 : q2 = b2 + 256 * q3 := by rw [e2, e3]; rfl
  have f3 : q3 = b3 + 256 * q4 := by rw [e3, e4]; rfl
  have f4 : q4 = b4 + 256 * q5 := by rw [e4, e5]; rfl
  have f5 : q5 = b5 + 256 * q6 := by rw [e5, e6]; rfl
  have f6 : q6 = b6 + 256 * q7 := by rw [e6, e7]; rfl
  rw [hs]
  clear hz e1 e2 e3 e4 e5 e6 hs hl h
  obtain ⟨g1, g2⟩ := last1 h0 h1 h2 f0 f1 f2
  obtain ⟨r0, k0, m0⟩ := up4 h0 h1 h2 h3 f0 f1 f2 f3
  obtain ⟨r1, k1, m1⟩ := up4 h1 h2 h3 h4 f1 f2 f3 f4
  obtain ⟨r2, k2, m2⟩ := up4 h2 h3 h4 h5 f2 f3 f4 f5
  obtain ⟨r3, k3, m3⟩ := up4 h3 h4 h5 h6 f3 f4 f5 f6
  have g3 : (z + q1 + (q2 + q3)) / 4294967296 = q4 + q5 + q6 + q7 := by
    clear f0 f1 f2 f3 f4 f5 f6 g1 g2 e7
    omega
  have b4' : q4 ≤ 134744072 := by
    clear f0 f1 f2 f3 g1 g2 g3 m0 m1 m2 m3
    omega
  have hq7 : q7 ≤ 8 := by omega
  have hq6 : q6 ≤ 134744072 := by clear f0 f1 f2 f3 g1 g2 g3 m0 m1 m2 m3; omega
  have hq5 : q5 ≤ 134744072 := by clear f0 f1 f2 f3 g1 g2 g3 m0 m1 m2 m3; omega
  refine ⟨z + q1, z + q1 + (q2 + q3), z + q1 + (q2 + q3) + (q4 + q5 + q6 + q7), by rw [g1], by rw [g2], by rw [g3], ?_, ?_, ?_⟩
  · clear g1 g2 g3 m0 m1 m2 m3 k0 k1 k2 k3 b4' hq5 hq6
    omega
  · clear g1 g2 g3 f0 f1 f2 f3 f4 f5 f6 e7
    omega
  · clear g1 g2 g3 f0 f1 f2 f3 f4 f5 f6 e7
    omega

end Go.Proofs.Ytfomanpehfdnbaa.Num66
