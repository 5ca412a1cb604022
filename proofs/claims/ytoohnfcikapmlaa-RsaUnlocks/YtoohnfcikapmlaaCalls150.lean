/-
  Package rsa: what is in range, two primes that are not the same, what opens, and the key.
-/
import Derived.Test.YtoohnfcikapmlaaBase2
import Derived.Test.YtoohnfcikapmlaaCalls9
import Derived.Test.YtoohnfcikapmlaaCalls24
import Derived.Test.YtoohnfcikapmlaaCalls19
import Derived.Test.YtoohnfcikapmlaaNum56
namespace Go.Proofs.Ytoohnfcikapmlaa.Calls150
set_option linter.unusedVariables false
open Go.ChangeShapes Go.WideShapes Go.ChangeAt Go.RowKit Go.Deep Go.Proofs.Ytoohnfcikapmlaa.Base Go.Proofs.Ytoohnfcikapmlaa.Base2 Go.Proofs.Ytoohnfcikapmlaa.Num Go.Proofs.Ytoohnfcikapmlaa.Num13 Go.Proofs.Ytoohnfcikapmlaa.Num56
open Go.Proofs.Ytoohnfcikapmlaa.Math (gg)
open Go.Proofs.Ytoohnfcikapmlaa.Calls9 (prB prB_iff Is_yes Is_no)
open Go.Proofs.Ytoohnfcikapmlaa.Calls6 (one_yes leastFactor_any)
open Go.Proofs.Ytoohnfcikapmlaa.Calls24 (Lcm_b)

theorem inR_any (n : Int) (w : World) :
    Calls Try.prog 25 #[.int .i64 n] w fun e w' => e = .returned (.bool (decide (1 ≤ n ∧ n ≤ 1048576))) ∧ w' = w := by
  by_cases h : 1 ≤ n ∧ n ≤ 1048576
  · rw [decide_eq_true h]
    obtain ⟨h1, h2⟩ := h
    go_enter Try.func25, Try.ntmps25
    go_wp2
    go_ret
    exact ⟨rfl, rfl⟩
  · rw [decide_eq_false h]
    by_cases h1 : 1 ≤ n
    · have h2 : ¬ n ≤ 1048576 := by omega
      clear h
      go_enter Try.func25, Try.ntmps25
      go_wp2
      go_ret
      exact ⟨rfl, rfl⟩
    · clear h
      go_enter Try.func25, Try.ntmps25
      go_wp2
      go_ret
      exact ⟨rfl, rfl⟩

/-- A prime within the limits. -/
def isP (n : Int) : Bool := decide (1 ≤ n ∧ n ≤ 1048576) && prB n.toNat

theorem isP_iff (n : Int) : isP n = true ↔ ∃ m : Nat, n = (m : Int) ∧ Pr m ∧ m ≤ 1048576 := by
  unfold isP
  rw [Bool.and_eq_true, decide_eq_true_iff, prB_iff]
  constructor
  · rintro ⟨⟨h1, h2⟩, h3⟩; exact ⟨n.toNat, by omega, h3, by omega⟩
  · rintro ⟨m, rfl, h, h2⟩; have := h.1; exact ⟨⟨by omega, by omega⟩, by simpa using h⟩

theorem Is_any (n : Int) : ∃ c : Int, ∀ w, Calls Try.prog 27 #[.int .i64 n] w fun e w' => e = .returned (.tuple #[.bool (isP n), .int .i64 c]) ∧ Below w.heap.size w w' := by
  by_cases h : 1 ≤ n ∧ n ≤ 1048576
  · obtain ⟨m, rfl⟩ : ∃ m : Nat, n = (m : Int) := ⟨n.toNat, by omega⟩
    have e : isP (m : Int) = prB m := by unfold isP; rw [decide_eq_true h]; simp
    exact ⟨0, fun w => by rw [e]; exact Is_yes m (by omega) (by omega) w⟩
  · have e : isP n = false := by unfold isP; rw [decide_eq_false h]; rfl
    exact ⟨2, fun w => by rw [e]; exact Is_no n h w⟩

/-- Two primes that are not the same. -/
def twoP (p q : Int) : Bool := isP p && isP q && (p != q)

theorem twoP_iff (p q : Int) : twoP p q = true ↔ ∃ a b : Nat, p = (a : Int) ∧ q = (b : Int) ∧ Pr a ∧ Pr b ∧ a ≠ b ∧ a ≤ 1048576 ∧ b ≤ 1048576 := by
  unfold twoP
  rw [Bool.and_eq_true, Bool.and_eq_true, isP_iff, isP_iff, bne_iff_ne]
  constructor
  · rintro ⟨⟨⟨a, rfl, h1, h2⟩, b, rfl, h3, h4⟩, h5⟩; exact ⟨a, b, rfl, rfl, h1, h3, fun e => h5 (by rw [e]), h2, h4⟩
  · rintro ⟨a, b, rfl, rfl, h1, h2, h3, h4, h5⟩; exact ⟨⟨⟨a, rfl, h1, h4⟩, b, rfl, h2, h5⟩, fun e => h3 (by omega)⟩

set_option maxRecDepth 100000 in
theorem differ_any (p q : Int) (w : World) :
    Calls Try.prog 19 #[.int .i64 p, .int .i64 q] w fun e w' => e = .returned (.bool (twoP p q)) ∧ Below w.heap.size w w' := by
  have i0 : ∀ w, (Instr.index 41 (.agg #[.int .i64 p, .int .i64 q]) (.int .i64 0)).run Try.prog w = .ok (.int .i64 p) w := fun _ => by kernel_rfl
  have i1 : ∀ w, (Instr.index 41 (.agg #[.int .i64 p, .int .i64 q]) (.int .i64 1)).run Try.prog w = .ok (.int .i64 q) w := fun _ => by kernel_rfl
  obtain ⟨c, hI⟩ := Is_any p
  obtain ⟨d, hJ⟩ := Is_any q
  unfold twoP
  generalize isP p = bp at *
  generalize isP q = bq at *
  cases bp
  · clear hJ
    go_enter Try.func19, Try.ntmps19
    go_wp2
    go_loopw [12] (fun i wr => i = .int .i64 0 ∧ Below w.heap.size w wr) (fun i wr => 2 - (intOf i).toNat)
    case atStart => exact ⟨rfl, Below.refl _ _⟩
    case round =>
      obtain ⟨rfl, hB⟩ := hrel
      go_wp2_with (go_at_call 27; refine (hI _).mono ?_; rintro e w1 ⟨rfl, hB1⟩)
      go_ret
      exact ⟨by simp, below_trans hB hB1⟩
  · cases bq
    · go_enter Try.func19, Try.ntmps19
      go_wp2
      go_loopw [12] (fun i wr => (i = .int .i64 0 ∨ i = .int .i64 1) ∧ Below w.heap.size w wr) (fun i wr => 2 - (intOf i).toNat)
      case atStart => exact ⟨.inl rfl, Below.refl _ _⟩
      case round =>
        obtain ⟨rfl | rfl, hB⟩ := hrel
        · clear hJ
          go_wp2_with (go_at_call 27; refine (hI _).mono ?_; rintro e w1 ⟨rfl, hB1⟩)
          go_roundw
          case rel => exact ⟨.inr rfl, below_trans hB hB1⟩
          case measure => simp [intOf]
        · clear hI
          go_wp2_with (go_at_call 27; refine (hJ _).mono ?_; rintro e w1 ⟨rfl, hB1⟩)
          go_ret
          exact ⟨by simp, below_trans hB hB1⟩
    · go_enter Try.func19, Try.ntmps19
      go_wp2
      go_loopw [12] (fun i wr => (i = .int .i64 0 ∨ i = .int .i64 1 ∨ i = .int .i64 2) ∧ Below w.heap.size w wr) (fun i wr => 2 - (intOf i).toNat)
      case atStart => exact ⟨.inl rfl, Below.refl _ _⟩
      case round =>
        obtain ⟨rfl | rfl | rfl, hB⟩ := hrel
        · clear hJ
          go_wp2_with (go_at_call 27; refine (hI _).mono ?_; rintro e w1 ⟨rfl, hB1⟩)
          go_roundw
          case rel => exact ⟨.inr (.inl rfl), below_trans hB hB1⟩
          case measure => simp [intOf]
        · clear hI
          go_wp2_with (go_at_call 27; refine (hJ _).mono ?_; rintro e w1 ⟨rfl, hB1⟩)
          go_roundw
          case rel => exact ⟨.inr (.inr rfl), below_trans hB hB1⟩
          case measure => simp [intOf]
        · clear hI hJ
          go_wp2
          go_ret
          exact ⟨by simp, hB⟩

/-- What is wrong with two primes and what is public; 0: nothing. -/
def mkC (p q n : Int) : Int :=
  if ((1 ≤ p ∧ p ≤ 1048576) ∧ (1 ≤ q ∧ q ≤ 1048576)) ∧ (1 ≤ n ∧ n ≤ 1048576) then if twoP p q = true then if p * q ≤ 1048576 then if n ≤ p * q then 0 else 2 else 1 else 3 else 2

set_option maxRecDepth 100000 in
theorem checkMake_any (p q n : Int) (w : World) :
    Calls Try.prog 23 #[.int .i64 p, .int .i64 q, .int .i64 n] w fun e w' => e = .returned (.int .i64 (mkC p q n)) ∧ Below w.heap.size w w' := by
  have cP := fun w => inR_any p w
  have cQ := fun w => inR_any q w
  have cN := fun w => inR_any n w
  have cD := fun w => differ_any p q w
  unfold mkC
  by_cases hp : 1 ≤ p ∧ p ≤ 1048576
  · rw [decide_eq_true hp] at cP
    by_cases hq : 1 ≤ q ∧ q ≤ 1048576
    · rw [decide_eq_true hq] at cQ
      by_cases hn : 1 ≤ n ∧ n ≤ 1048576
      · rw [decide_eq_true hn] at cN
        rw [if_pos ⟨⟨hp, hq⟩, hn⟩]
        have hm : 0 ≤ p * q ∧ p * q ≤ 1099511627776 := by
          obtain ⟨a, rfl⟩ : ∃ a : Nat, p = (a : Int) := ⟨p.toNat, by omega⟩
          obtain ⟨b, rfl⟩ : ∃ b : Nat, q = (b : Int) := ⟨q.toNat, by omega⟩
          have : a * b ≤ 1048576 * 1048576 := Nat.mul_le_mul (by omega) (by omega)
          have e : (a : Int) * (b : Int) = ((a * b : Nat) : Int) := by simp
          omega
        obtain ⟨m1, m2⟩ := hm
        cases ht : twoP p q
        · rw [if_neg (by simp)]
          rw [ht] at cD
          clear ht hp hq hn m1 m2
          go_enter Try.func23, Try.ntmps23
          go_wp2_with (first
            | (go_at_call 25; (first | (refine (cP _).mono ?_; clear cP) | (refine (cQ _).mono ?_; clear cQ) | (refine (cN _).mono ?_; clear cN)); rintro e w' ⟨rfl, hw⟩; subst w')
            | (go_at_call 19; refine (cD _).mono ?_; rintro e w1 ⟨rfl, hB⟩))
          go_ret
          exact ⟨rfl, hB⟩
        · rw [if_pos rfl]
          rw [ht] at cD
          clear ht
          by_cases h1 : p * q ≤ 1048576
          · rw [if_pos h1]
            by_cases h2 : n ≤ p * q
            · rw [if_pos h2]
              have h1' : ¬ 1048576 < p * q := by omega
              have h2' : ¬ p * q < n := by omega
              go_enter Try.func23, Try.ntmps23
              go_wp2_with (first
                | (go_at_call 25; (first | (refine (cP _).mono ?_; clear cP) | (refine (cQ _).mono ?_; clear cQ) | (refine (cN _).mono ?_; clear cN)); rintro e w' ⟨rfl, hw⟩; subst w')
                | (go_at_call 19; refine (cD _).mono ?_; rintro e w1 ⟨rfl, hB⟩))
              go_ret
              exact ⟨rfl, hB⟩
            · rw [if_neg h2]
              have h1' : ¬ 1048576 < p * q := by omega
              have h2' : p * q < n := by omega
              go_enter Try.func23, Try.ntmps23
              go_wp2_with (first
                | (go_at_call 25; (first | (refine (cP _).mono ?_; clear cP) | (refine (cQ _).mono ?_; clear cQ) | (refine (cN _).mono ?_; clear cN)); rintro e w' ⟨rfl, hw⟩; subst w')
                | (go_at_call 19; refine (cD _).mono ?_; rintro e w1 ⟨rfl, hB⟩))
              go_ret
              exact ⟨rfl, hB⟩
          · rw [if_neg h1]
            have h1' : 1048576 < p * q := by omega
            go_enter Try.func23, Try.ntmps23
            go_wp2_with (first
              | (go_at_call 25; (first | (refine (cP _).mono ?_; clear cP) | (refine (cQ _).mono ?_; clear cQ) | (refine (cN _).mono ?_; clear cN)); rintro e w' ⟨rfl, hw⟩; subst w')
              | (go_at_call 19; refine (cD _).mono ?_; rintro e w1 ⟨rfl, hB⟩))
            go_ret
            exact ⟨rfl, hB⟩
      · rw [decide_eq_false hn] at cN
        rw [if_neg (fun h => hn h.2)]
        clear cD hp hq hn
        go_enter Try.func23, Try.ntmps23
        go_wp2_with (go_at_call 25; (first | (refine (cP _).mono ?_; clear cP) | (refine (cQ _).mono ?_; clear cQ) | (refine (cN _).mono ?_; clear cN)); rintro e w' ⟨rfl, hw⟩; subst w')
        go_ret
        exact ⟨rfl, Below.refl _ _⟩
    · rw [decide_eq_false hq] at cQ
      rw [if_neg (fun h => hq h.1.2)]
      clear cD cN hp hq
      go_enter Try.func23, Try.ntmps23
      go_wp2_with (go_at_call 25; (first | (refine (cP _).mono ?_; clear cP) | (refine (cQ _).mono ?_; clear cQ)); rintro e w' ⟨rfl, hw⟩; subst w')
      go_ret
      exact ⟨rfl, Below.refl _ _⟩
  · rw [decide_eq_false hp] at cP
    rw [if_neg (fun h => hp h.1.1)]
    clear cD cN cQ hp
    go_enter Try.func23, Try.ntmps23
    go_wp2_with (go_at_call 25; refine (cP _).mono ?_; rintro e w' ⟨rfl, hw⟩; subst w')
    go_ret
    exact ⟨rfl, Below.refl _ _⟩

end Go.Proofs.Ytoohnfcikapmlaa.Calls150
