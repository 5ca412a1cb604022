/-
  Plain arithmetic: what is mixed, sums of texts, and where two texts clash.
-/
import Derived.Test.YtpflkihagebmlabRows
namespace Go.Proofs.Ytpflkihagebmlab.Num55
set_option linter.unusedVariables false

theorem xor_and : ∀ (n a b : Nat), a ≤ n → (a ^^^ b) + 2 * (a &&& b) = a + b
  | 0, a, b, h => by
    obtain rfl : a = 0 := by omega
    simp
  | n + 1, a, b, h => by
    by_cases e : a = 0
    · subst e; simp
    have ih := xor_and n (a / 2) (b / 2) (by omega)
    have h1 : (a ^^^ b) / 2 = a / 2 ^^^ b / 2 := by
      have := Nat.shiftRight_xor_distrib (a := a) (b := b) (i := 1)
      simpa [Nat.shiftRight_eq_div_pow] using this
    have h2 : (a &&& b) / 2 = a / 2 &&& b / 2 := by
      have := Nat.shiftRight_and_distrib (a := a) (b := b) (i := 1)
      simpa [Nat.shiftRight_eq_div_pow] using this
    have h3 : (a ^^^ b) % 2 = (a % 2 + b % 2) % 2 := by
      have := Nat.xor_mod_two_pow (a := a) (b := b) (n := 1)
      rw [show (2 : Nat) ^ 1 = 2 from rfl] at this
      rw [this]
      have ha : a % 2 = 0 ∨ a % 2 = 1 := by omega
      have hb : b % 2 = 0 ∨ b % 2 = 1 := by omega
      rcases ha with ha | ha <;> rcases hb with hb | hb <;> rw [ha, hb] <;> rfl
    have h4 : (a &&& b) % 2 = (a % 2) * (b % 2) := by
      have := Nat.and_mod_two_pow (a := a) (b := b) (n := 1)
      rw [show (2 : Nat) ^ 1 = 2 from rfl] at this
      rw [this]
      have ha : a % 2 = 0 ∨ a % 2 = 1 := by omega
      have hb : b % 2 = 0 ∨ b % 2 = 1 := by omega
      rcases ha with ha | ha <;> rcases hb with hb | hb <;> rw [ha, hb] <;> rfl
    have ha : a % 2 = 0 ∨ a % 2 = 1 := by omega
    have hb : b % 2 = 0 ∨ b % 2 = 1 := by omega
    rcases ha with ha | ha <;> rcases hb with hb | hb <;> rw [ha, hb] at h3 h4 <;> omega

/-- The document's way to say it. -/
theorem mixed_eq (a b : Nat) : ((a : Int) + (b : Int) - 2 * ((a &&& b : Nat) : Int)) = ((a ^^^ b : Nat) : Int) := by
  have := xor_and a a b (Nat.le_refl a)
  omega

/-! ### one step -/

def scr (y : Nat) : Nat := y ^^^ y / 128

def stp (h b : Nat) : Nat := scr ((h ^^^ b) * 40503 % 65536)

theorem scr_lt {y : Nat} (h : y < 65536) : scr y < 65536 := Nat.xor_lt_two_pow (n := 16) h (by omega)

theorem stp_lt (h b : Nat) : stp h b < 65536 := scr_lt (Nat.mod_lt _ (by decide))

theorem scr_back {y : Nat} (h : y < 65536) : scr y ^^^ scr y / 128 ^^^ scr y / 16384 = y := by
  have e1 : ∀ a b : Nat, (a ^^^ b) / 128 = a / 128 ^^^ b / 128 := fun a b => by
    have := Nat.shiftRight_xor_distrib (a := a) (b := b) (i := 7)
    simpa [Nat.shiftRight_eq_div_pow] using this
  have e2 : ∀ a b : Nat, (a ^^^ b) / 16384 = a / 16384 ^^^ b / 16384 := fun a b => by
    have := Nat.shiftRight_xor_distrib (a := a) (b := b) (i := 14)
    simpa [Nat.shiftRight_eq_div_pow] using this
  unfold scr
  rw [e1, e2, Nat.div_div_eq_div_mul, Nat.div_div_eq_div_mul, show y / (128 * 16384) = 0 by omega, Nat.xor_zero, show 128 * 128 = 16384 by decide]
  generalize y / 128 = p
  generalize y / 16384 = q
  rw [show y ^^^ p ^^^ (p ^^^ q) ^^^ q = y ^^^ (p ^^^ p) ^^^ (q ^^^ q) by simp only [Nat.xor_assoc]]
  rw [Nat.xor_self, Nat.xor_self, Nat.xor_zero, Nat.xor_zero]

theorem scr_inj {y z : Nat} (hy : y < 65536) (hz : z < 65536) (e : scr y = scr z) : y = z := by
  rw [← scr_back hy, e, scr_back hz]

theorem mul_inj {x y : Nat} (hx : x < 65536) (hy : y < 65536) (e : x * 40503 % 65536 = y * 40503 % 65536) : x = y := by
  have key : ∀ z, z < 65536 → z * 40503 % 65536 * 30599 % 65536 = z := fun z hz => by
    rw [Nat.mod_mul_mod, Nat.mul_assoc, Nat.mul_mod, show 40503 * 30599 % 65536 = 1 by decide, Nat.mul_one, Nat.mod_mod, Nat.mod_eq_of_lt hz]
  rw [← key x hx, e, key y hy]

theorem stp_xor {h b h' b' : Nat} (h1 : h < 65536) (h2 : h' < 65536) (b1 : b < 65536) (b2 : b' < 65536) : stp h b = stp h' b' ↔ h ^^^ b = h' ^^^ b' := by
  constructor
  · intro e
    exact mul_inj (Nat.xor_lt_two_pow (n := 16) h1 b1) (Nat.xor_lt_two_pow (n := 16) h2 b2) (scr_inj (Nat.mod_lt _ (by decide)) (Nat.mod_lt _ (by decide)) e)
  · intro e; unfold stp; rw [e]

theorem xor_left_inj {a b c : Nat} (e : a ^^^ b = a ^^^ c) : b = c := by
  have := congrArg (a ^^^ ·) e
  simpa [← Nat.xor_assoc] using this

theorem stp_left {h h' b : Nat} (h1 : h < 65536) (h2 : h' < 65536) (b1 : b < 65536) : stp h b = stp h' b ↔ h = h' := by
  rw [stp_xor h1 h2 b1 b1]
  constructor
  · intro e
    rw [Nat.xor_comm h b, Nat.xor_comm h' b] at e
    exact xor_left_inj e
  · intro e; rw [e]

theorem stp_right {h b b' : Nat} (h1 : h < 65536) (b1 : b < 65536) (b2 : b' < 65536) : stp h b = stp h b' ↔ b = b' := by
  rw [stp_xor h1 h1 b1 b2]
  exact ⟨fun e => xor_left_inj e, fun e => by rw [e]⟩

/-- Only the lowest sixteen bits count. -/
theorem stp_mod (h b : Nat) : stp h b = scr (((h ^^^ b) % 65536) * 40503 % 65536) := by
  unfold stp
  rw [Nat.mod_mul_mod]

/-! ### texts -/

/-- From h on, byte by byte. -/
def run (h : Nat) (l : List Nat) : Nat := l.foldl stp h

theorem run_snoc (h : Nat) (l : List Nat) (b : Nat) : run h (l ++ [b]) = stp (run h l) b := by simp [run]

theorem run_append (h : Nat) (l m : List Nat) : run h (l ++ m) = run (run h l) m := by simp [run]

theorem run_lt {h : Nat} (hh : h < 65536) : ∀ l, run h l < 65536
  | [] => hh
  | b :: t => run_lt (stp_lt h b) t

/-- All are bytes. -/
def Byt (l : List Nat) : Prop := ∀ b ∈ l, b < 256

theorem run_inj : ∀ {l : List Nat}, Byt l → ∀ {h h' : Nat}, h < 65536 → h' < 65536 → (run h l = run h' l ↔ h = h')
  | [], _, _, _, _, _ => Iff.rfl
  | b :: t, hb, h, h', h1, h2 => by
    show run (stp h b) t = run (stp h' b) t ↔ _
    rw [run_inj (l := t) (fun x hx => hb x (List.mem_cons_of_mem _ hx)) (stp_lt h b) (stp_lt h' b), stp_left h1 h2 (by have := hb b List.mem_cons_self; omega)]

/-- One byte turned. -/
theorem run_one {l m : List Nat} {b c : Nat} (hm : Byt m) (hb : b < 256) (hc : c < 256) : run 0 (l ++ b :: m) = run 0 (l ++ c :: m) ↔ b = c := by
  have hl := run_lt (h := 0) (by decide) l
  rw [run_append, run_append]
  show run (stp (run 0 l) b) m = run (stp (run 0 l) c) m ↔ _
  rw [run_inj hm (stp_lt _ _) (stp_lt _ _), stp_right hl (by omega) (by omega)]

/-- How long it is, in four bytes. -/
def len4 (n : Nat) : List Nat := [n % 256, n / 256 % 256, n / 65536 % 256, n / 16777216 % 256]

def pad (l : List Nat) : List Nat := l ++ len4 l.length

theorem pad_length (l : List Nat) : (pad l).length = l.length + 4 := by simp [pad, len4]

theorem len4_byt (n : Nat) : Byt (len4 n) := by
  intro b hb
  simp [len4] at hb
  omega

theorem pad_byt {l : List Nat} (h : Byt l) : Byt (pad l) := fun b hb => by
  rcases List.mem_append.1 hb with hb | hb
  · exact h b hb
  · exact len4_byt _ b hb

theorem len4_inj {m n : Nat} (hm : m < 4294967296) (hn : n < 4294967296) (e : len4 m = len4 n) : m = n := by
  simp [len4] at e
  omega

def sum (l : List Nat) : Nat := run 0 (pad l)

/-! ### where two texts clash -/

/-- What is mixed at the place j from behind. -/
def mx (l : List Nat) (j : Nat) : Nat × Nat := (run 0 (l.take (l.length - 1 - j)), l.getD (l.length - 1 - j) 0)

/-- At k, counted from behind, they differ, behind it they don't. -/
def Clash (a b : List Nat) (k : Nat) : Prop := k < a.length ∧ k < b.length ∧ mx a k ≠ mx b k ∧ ∀ j, j < k → mx a j = mx b j

theorem Clash.uniq {a b : List Nat} {k k' : Nat} (h : Clash a b k) (h' : Clash a b k') : k = k' := by
  rcases Nat.lt_trichotomy k k' with e | e | e
  · exact absurd (h'.2.2.2 k e) h.2.2.1
  · exact e
  · exact absurd (h.2.2.2 k' e) h'.2.2.1

/-- What the mix makes. -/
theorem mx_step {l : List Nat} {j : Nat} (hj : j < l.length) : stp (mx l j).1 (mx l j).2 = run 0 (l.take (l.length - j)) := by
  have hlt : l.length - 1 - j < l.length := by omega
  have e : l.take (l.length - j) = l.take (l.length - 1 - j) ++ [l.getD (l.length - 1 - j) 0] := by
    have e2 : l.getD (l.length - 1 - j) 0 = l[l.length - 1 - j] := by simp [List.getD, hlt]
    rw [e2, List.take_append_getElem hlt, show l.length - 1 - j + 1 = l.length - j by omega]
  rw [e, run_snoc]; rfl

/-- Where they clash the same comes of both. -/
theorem Clash.same {a b : List Nat} {k : Nat} (h : Clash a b k) (e : run 0 a = run 0 b) : stp (mx a k).1 (mx a k).2 = stp (mx b k).1 (mx b k).2 := by
  rw [mx_step h.1, mx_step h.2.1]
  by_cases e0 : k = 0
  · subst e0
    rw [Nat.sub_zero, Nat.sub_zero, List.take_length, List.take_length, e]
  · have := congrArg Prod.fst (h.2.2.2 (k - 1) (by omega))
    have h1 := h.1
    have h2 := h.2.1
    show run 0 (a.take (a.length - k)) = run 0 (b.take (b.length - k))
    rw [show a.length - k = a.length - 1 - (k - 1) by omega, show b.length - k = b.length - 1 - (k - 1) by omega]
    exact this

theorem least_place {P : Nat → Prop} : ∀ n, (∃ k, k < n ∧ P k) → ∃ k, k < n ∧ P k ∧ ∀ j, j < k → ¬ P j
  | 0, ⟨k, hk, _⟩ => by omega
  | n + 1, h => by
    rcases Classical.em (∃ k, k < n ∧ P k) with h2 | h2
    · obtain ⟨k, h3, h4, h5⟩ := least_place n h2
      exact ⟨k, by omega, h4, h5⟩
    · obtain ⟨k, hk, hp⟩ := h
      have : k = n := by
        rcases Nat.lt_or_ge k n with e | e
        · exact absurd ⟨k, e, hp⟩ h2
        · omega
      subst this
      exact ⟨k, by omega, hp, fun j hj hpj => h2 ⟨j, hj, hpj⟩⟩

/-- Two texts, padded, differ at some place counted from behind. -/
theorem clash_ex {a b : List Nat} (ha : a.length < 4294967296) (hb : b.length < 4294967296) (hne : a ≠ b) : ∃ k, Clash (pad a) (pad b) k := by
  have key : ∃ k, k < min (pad a).length (pad b).length ∧ mx (pad a) k ≠ mx (pad b) k := by
    refine Classical.byContradiction fun hno => ?_
    have all : ∀ k, k < (pad a).length → k < (pad b).length → (pad a).getD ((pad a).length - 1 - k) 0 = (pad b).getD ((pad b).length - 1 - k) 0 := fun k h1 h2 => by
      refine congrArg Prod.snd (Classical.byContradiction fun h => hno ⟨k, Nat.lt_min.2 ⟨h1, h2⟩, h⟩ : mx (pad a) k = mx (pad b) k)
    have la := pad_length a
    have lb := pad_length b
    have ga : ∀ i, i < 4 → (pad a).getD (a.length + i) 0 = (len4 a.length).getD i 0 := fun i hi => by simp [pad, List.getD, List.getElem?_append_right]
    have gb : ∀ i, i < 4 → (pad b).getD (b.length + i) 0 = (len4 b.length).getD i 0 := fun i hi => by simp [pad, List.getD, List.getElem?_append_right]
    have h4 : ∀ i, i < 4 → (len4 a.length).getD i 0 = (len4 b.length).getD i 0 := fun i hi => by
      have := all (3 - i) (by omega) (by omega)
      rw [show (pad a).length - 1 - (3 - i) = a.length + i by omega, show (pad b).length - 1 - (3 - i) = b.length + i by omega, ga i hi, gb i hi] at this
      exact this
    have hl : a.length = b.length := by
      have e0 := h4 0 (by decide)
      have e1 := h4 1 (by decide)
      have e2 := h4 2 (by decide)
      have e3 := h4 3 (by decide)
      refine len4_inj ha hb ?_
      simp [len4] at e0 e1 e2 e3 ⊢
      exact ⟨e0, e1, e2, e3⟩
    refine hne (List.ext_getElem hl fun i h1 h2 => ?_)
    have := all (a.length + 3 - i) (by omega) (by omega)
    rw [show (pad a).length - 1 - (a.length + 3 - i) = i by omega, show (pad b).length - 1 - (a.length + 3 - i) = i by omega] at this
    simpa [pad, List.getD, List.getElem?_append, h1, h2] using this
  obtain ⟨k, h1, h2, h3⟩ := least_place _ key
  exact ⟨k, (Nat.lt_min.1 h1).1, (Nat.lt_min.1 h1).2, h2, fun j hj => Classical.byContradiction (h3 j hj)⟩

end Go.Proofs.Ytpflkihagebmlab.Num55
