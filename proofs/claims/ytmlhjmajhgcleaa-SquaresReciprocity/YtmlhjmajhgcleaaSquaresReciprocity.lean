/-
  For all numbers m and n: of odd m and n in range what Jacobi has of the one by the other and of the other by the one is the same, but for the sign if both are 1 less than a multiple of 4, and 0 if they have something in common; what it has of 2 and of -1; and an even n is refused.
-/
import Derived.Test.YtmlhjmajhgcleaaRows
import Derived.Test.YtmlhjmajhgcleaaCalls4
import Derived.Test.YtmlhjmajhgcleaaCalls30
import Derived.Test.YtmlhjmajhgcleaaCalls31
import Derived.WalkKit
import Derived.ProofKit
import Derived.OpenShut
namespace Go.Proofs.Ytmlhjmajhgcleaa.squaresReciprocity
open Go.Proofs.Ytmlhjmajhgcleaa.Num Go.Proofs.Ytmlhjmajhgcleaa.Num9 Go.Proofs.Ytmlhjmajhgcleaa.Num10 Go.Proofs.Ytmlhjmajhgcleaa.Num13 Go.Proofs.Ytmlhjmajhgcleaa.Num29 Go.Proofs.Ytmlhjmajhgcleaa.Calls4 Go.Proofs.Ytmlhjmajhgcleaa.Calls8 Go.Proofs.Ytmlhjmajhgcleaa.Calls9 Go.Proofs.Ytmlhjmajhgcleaa.Calls11 Go.Proofs.Ytmlhjmajhgcleaa.Calls19 Go.Proofs.Ytmlhjmajhgcleaa.Calls20 Go.Proofs.Ytmlhjmajhgcleaa.Calls29 Go.Proofs.Ytmlhjmajhgcleaa.Calls30 Go.Proofs.Ytmlhjmajhgcleaa.Calls31
open Go.ChangeShapes Go.WideShapes Go.ChangeAt Go.RowKit
set_option linter.unusedVariables false      -- a walk need not use every 'w<i>' (that an integer argument fits its kind)

theorem own : ownKnob Try.prog.godebug = none := by kernel_rfl

theorem Jacobi_some (a n : Int) : ∃ j e : Int, ∀ w, Calls Try.prog 9 #[.int .i64 a, .int .i64 n] w fun x w' => x = .returned (.tuple #[.int .i64 j, .int .i64 e]) ∧ w' = w := by
  by_cases h : Nr a ∧ Md n ∧ n % 2 = 1
  · obtain ⟨h1, h2, h3⟩ := h
    obtain ⟨m, rfl⟩ : ∃ m : Nat, n = (m : Int) := ⟨n.toNat, by have := h2.1; omega⟩
    obtain ⟨j, hj⟩ := JJ.ex a (n := m) (by have := h2.1; omega)
    exact ⟨j, 0, fun w => Jacobi_yes a m j h1 (by omega) (by have := h2.2; omega) hj w⟩
  · exact ⟨0, 2, fun w => Jacobi_no a n h w⟩

theorem gg_nats (m n : Nat) : Go.Proofs.Ytmlhjmajhgcleaa.Math.gg (m : Int) (n : Int) = ((Nat.gcd m n : Nat) : Int) := rfl

theorem chi8_p {n : Nat} (h : n % 8 = 1 ∨ n % 8 = 7) : chi8 n = 1 := if_pos h
theorem chi8_m {n : Nat} (h : ¬ (n % 8 = 1 ∨ n % 8 = 7)) : chi8 n = -1 := if_neg h
theorem chi4_p {n : Nat} (h : n % 4 = 1) : chi4 n = 1 := if_pos h
theorem chi4_m {n : Nat} (h : ¬ n % 4 = 1) : chi4 n = -1 := if_neg h

set_option maxHeartbeats 8000000 in
theorem walk (a0 : Int) (a1 : Int) (w0 : (Lit.int .i64 a0).wf = true) (w1 : (Lit.int .i64 a1).wf = true) (w : World) :
    Calls Try.prog 6 #[.int .i64 a0, .int .i64 a1] w fun e w' => e = .returned (.bool true) ∧ Below w.heap.size w w' := by
  by_cases t1 : a1 < 1
  · have cJ := fun w => Jacobi_no a0 a1 (fun h => by have := h.2.1.1; omega) w
    have cN := fun w => kmodulus_no a1 (fun h => by have := h.1; omega) w
    by_cases hM : Md a0
    · have cM := fun w => kmodulus_yes a0 hM.1 hM.2 w
      clear hM
      go_enter Try.func6, Try.ntmps6
      go_wp2_with (first | (go_at_call 18; refine (cM _).mono ?_; rintro e w' ⟨rfl, hw⟩; subst w'; clear cM) | (go_at_call 18; refine (cN _).mono ?_; rintro e w' ⟨rfl, hw⟩; subst w'; clear cN) | (go_at_call 9; refine (cJ _).mono ?_; rintro e w' ⟨rfl, hw⟩; subst w'))
      go_ret
      exact ⟨rfl, Below.refl _ _⟩
    · have cM := fun w => kmodulus_no a0 hM w
      clear hM
      go_enter Try.func6, Try.ntmps6
      go_wp2_with (first | (go_at_call 18; refine (cM _).mono ?_; rintro e w' ⟨rfl, hw⟩; subst w'; clear cM) | (go_at_call 9; refine (cJ _).mono ?_; rintro e w' ⟨rfl, hw⟩; subst w'))
      go_ret
      exact ⟨rfl, Below.refl _ _⟩
  obtain ⟨n, rfl⟩ : ∃ n : Nat, a1 = (n : Int) := ⟨a1.toNat, by omega⟩
  have hn1 : 1 ≤ n := by omega
  by_cases hno : n % 2 = 1
  rotate_left
  · have cJ := fun w => Jacobi_no a0 (n : Int) (fun h => hno (by have := h.2.2; omega)) w
    have o1 := beq_f (show ¬ (n : Int) % 2 = 1 by omega)
    have o2 := beq_t (show (n : Int) % 2 = 0 by omega)
    clear hno
    by_cases hM : Md a0
    rotate_left
    · have cM := fun w => kmodulus_no a0 hM w
      clear hM
      go_enter Try.func6, Try.ntmps6
      go_wp2_with (first | (go_at_call 18; refine (cM _).mono ?_; rintro e w' ⟨rfl, hw⟩; subst w'; clear cM) | (go_at_call 9; refine (cJ _).mono ?_; rintro e w' ⟨rfl, hw⟩; subst w'))
      go_ret
      exact ⟨rfl, Below.refl _ _⟩
    obtain ⟨u1, u2⟩ := hM
    have cM := fun w => kmodulus_yes a0 u1 u2 w
    obtain ⟨m, rfl⟩ : ∃ m : Nat, a0 = (m : Int) := ⟨a0.toNat, by omega⟩
    by_cases hN : (n : Int) ≤ 1048576
    rotate_left
    · have cN := fun w => kmodulus_no (n : Int) (fun h => hN h.2) w
      clear hN
      go_enter Try.func6, Try.ntmps6
      go_wp2_with (first | (go_at_call 18; refine (cM _).mono ?_; rintro e w' ⟨rfl, hw⟩; subst w'; clear cM) | (go_at_call 18; refine (cN _).mono ?_; rintro e w' ⟨rfl, hw⟩; subst w'; clear cN) | (go_at_call 9; refine (cJ _).mono ?_; rintro e w' ⟨rfl, hw⟩; subst w'))
      go_ret
      exact ⟨rfl, Below.refl _ _⟩
    have cN := fun w => kmodulus_yes (n : Int) (by omega) hN w
    by_cases hmo : m % 2 = 1
    · have o3 := beq_f (show ¬ (m : Int) % 2 = 0 by omega)
      clear hmo
      go_enter Try.func6, Try.ntmps6
      go_wp2_with (first | (go_at_call 18; refine (cM _).mono ?_; rintro e w' ⟨rfl, hw⟩; subst w'; clear cM) | (go_at_call 18; refine (cN _).mono ?_; rintro e w' ⟨rfl, hw⟩; subst w'; clear cN) | (go_at_call 9; refine (cJ _).mono ?_; rintro e w' ⟨rfl, hw⟩; subst w'))
      go_ret
      exact ⟨rfl, Below.refl _ _⟩
    · have o3 := beq_t (show (m : Int) % 2 = 0 by omega)
      clear hmo
      go_enter Try.func6, Try.ntmps6
      go_wp2_with (first | (go_at_call 18; refine (cM _).mono ?_; rintro e w' ⟨rfl, hw⟩; subst w'; clear cM) | (go_at_call 18; refine (cN _).mono ?_; rintro e w' ⟨rfl, hw⟩; subst w'; clear cN) | (go_at_call 9; refine (cJ _).mono ?_; rintro e w' ⟨rfl, hw⟩; subst w'))
      go_ret
      exact ⟨rfl, Below.refl _ _⟩
  have o1 := beq_t (show (n : Int) % 2 = 1 by omega)
  have o2 := beq_f (show ¬ (n : Int) % 2 = 0 by omega)
  by_cases hM : Md a0
  rotate_left
  · have cM := fun w => kmodulus_no a0 hM w
    obtain ⟨j, e, cJ⟩ := Jacobi_some a0 (n : Int)
    clear hM hno
    go_enter Try.func6, Try.ntmps6
    go_wp2_with (first | (go_at_call 18; refine (cM _).mono ?_; rintro e w' ⟨rfl, hw⟩; subst w'; clear cM) | (go_at_call 9; refine (cJ _).mono ?_; rintro e w' ⟨rfl, hw⟩; subst w'))
    go_ret
    exact ⟨rfl, Below.refl _ _⟩
  obtain ⟨u1, u2⟩ := hM
  have cM := fun w => kmodulus_yes a0 u1 u2 w
  obtain ⟨m, rfl⟩ : ∃ m : Nat, a0 = (m : Int) := ⟨a0.toNat, by omega⟩
  by_cases hN : (n : Int) ≤ 1048576
  rotate_left
  · have cN := fun w => kmodulus_no (n : Int) (fun h => hN h.2) w
    obtain ⟨j, e, cJ⟩ := Jacobi_some (m : Int) (n : Int)
    clear hN hno
    go_enter Try.func6, Try.ntmps6
    go_wp2_with (first | (go_at_call 18; refine (cM _).mono ?_; rintro e w' ⟨rfl, hw⟩; subst w'; clear cM) | (go_at_call 18; refine (cN _).mono ?_; rintro e w' ⟨rfl, hw⟩; subst w'; clear cN) | (go_at_call 9; refine (cJ _).mono ?_; rintro e w' ⟨rfl, hw⟩; subst w'))
    go_ret
    exact ⟨rfl, Below.refl _ _⟩
  have cN := fun w => kmodulus_yes (n : Int) (by omega) hN w
  by_cases hmo : m % 2 = 1
  rotate_left
  · have o3 := beq_t (show (m : Int) % 2 = 0 by omega)
    obtain ⟨j, e, cJ⟩ := Jacobi_some (m : Int) (n : Int)
    clear hmo hno
    go_enter Try.func6, Try.ntmps6
    go_wp2_with (first | (go_at_call 18; refine (cM _).mono ?_; rintro e w' ⟨rfl, hw⟩; subst w'; clear cM) | (go_at_call 18; refine (cN _).mono ?_; rintro e w' ⟨rfl, hw⟩; subst w'; clear cN) | (go_at_call 9; refine (cJ _).mono ?_; rintro e w' ⟨rfl, hw⟩; subst w'))
    go_ret
    exact ⟨rfl, Below.refl _ _⟩
  have o3 := beq_f (show ¬ (m : Int) % 2 = 0 by omega)
  have hn2 : n ≤ 1048576 := by omega
  have hm1 : 1 ≤ m := by omega
  have hm2 : m ≤ 1048576 := by omega
  obtain ⟨a, ha⟩ := JJ.ex (m : Int) hn1
  obtain ⟨b, hb⟩ := JJ.ex (n : Int) hm1
  obtain ⟨tw, htw⟩ := JJ.ex 2 hn1
  obtain ⟨mi, hmi⟩ := JJ.ex (-1) hn1
  have c1 := fun w => Jacobi_yes (m : Int) n a ⟨by omega, by omega⟩ hno hn2 ha w
  have c2 := fun w => Jacobi_yes (n : Int) m b ⟨by omega, by omega⟩ hmo hm2 hb w
  have c3 := fun w => Jacobi_yes 2 n tw ⟨by omega, by omega⟩ hno hn2 htw w
  have c4 := fun w => Jacobi_yes (-1) n mi ⟨by omega, by omega⟩ hno hn2 hmi w
  have cG := fun w => refGcd_any (m : Int) (n : Int) w (by omega) (by omega) (by omega) (by omega)
  have hR := JJ.recip hmo hno ha hb
  have etw := htw.two hno
  have emi := hmi.minus hno
  have tb := hb.three
  subst etw emi
  clear ha hb htw hmi
  rw [gg_nats] at cG
  have h8 : n % 8 = 1 ∨ n % 8 = 3 ∨ n % 8 = 5 ∨ n % 8 = 7 := by omega
  rcases h8 with h8 | h8 | h8 | h8
  · have f1 := beq_t (show (n : Int) % 8 = 1 by omega)
    have f2 := beq_f (show ¬ (n : Int) % 8 = 7 by omega)
    have f3 := beq_t (show (n : Int) % 4 = 1 by omega)
    have f4 := beq_f (show ¬ (n : Int) % 4 = 3 by omega)
    rw [chi8_p (by omega)] at c3
    rw [chi4_p (by omega)] at c4
    by_cases hg : Nat.gcd m n = 1
    rotate_left
    · rw [if_neg hg] at hR
      obtain ⟨e1, e2⟩ := hR
      subst e1 e2
      have g1 := bne_t (show ¬ ((Nat.gcd m n : Nat) : Int) = 1 by omega)
      clear hg h8 tb hmo hno
      go_enter Try.func6, Try.ntmps6
      go_wp2_with (first | (go_at_call 18; refine (cM _).mono ?_; rintro e w' ⟨rfl, hw⟩; subst w'; clear cM) | (go_at_call 18; refine (cN _).mono ?_; rintro e w' ⟨rfl, hw⟩; subst w'; clear cN) | (go_at_call 9; refine (c1 _).mono ?_; rintro e w' ⟨rfl, hw⟩; subst w'; clear c1) | (go_at_call 9; refine (c2 _).mono ?_; rintro e w' ⟨rfl, hw⟩; subst w'; clear c2) | (go_at_call 9; refine (c3 _).mono ?_; rintro e w' ⟨rfl, hw⟩; subst w'; clear c3) | (go_at_call 9; refine (c4 _).mono ?_; rintro e w' ⟨rfl, hw⟩; subst w'; clear c4) | (go_at_call 21; refine (cG _).mono ?_; rintro e w' ⟨rfl, hw⟩; subst w'))
      go_ret
      exact ⟨rfl, Below.refl _ _⟩
    rw [if_pos hg] at hR
    rw [hg] at cG
    rw [if_neg (fun h => by have := h.2; omega)] at hR
    obtain ⟨e1, e2⟩ := hR
    subst e1
    rcases tb with tb | tb | tb
    · exact absurd tb e2
    · subst tb
      clear e2 hg h8 hmo hno
      go_enter Try.func6, Try.ntmps6
      go_wp2_with (first | (go_at_call 18; refine (cM _).mono ?_; rintro e w' ⟨rfl, hw⟩; subst w'; clear cM) | (go_at_call 18; refine (cN _).mono ?_; rintro e w' ⟨rfl, hw⟩; subst w'; clear cN) | (go_at_call 9; refine (c1 _).mono ?_; rintro e w' ⟨rfl, hw⟩; subst w'; clear c1) | (go_at_call 9; refine (c2 _).mono ?_; rintro e w' ⟨rfl, hw⟩; subst w'; clear c2) | (go_at_call 9; refine (c3 _).mono ?_; rintro e w' ⟨rfl, hw⟩; subst w'; clear c3) | (go_at_call 9; refine (c4 _).mono ?_; rintro e w' ⟨rfl, hw⟩; subst w'; clear c4) | (go_at_call 21; refine (cG _).mono ?_; rintro e w' ⟨rfl, hw⟩; subst w'))
      all_goals go_ret
      all_goals exact ⟨rfl, Below.refl _ _⟩
    · subst tb
      clear e2 hg h8 hmo hno
      go_enter Try.func6, Try.ntmps6
      go_wp2_with (first | (go_at_call 18; refine (cM _).mono ?_; rintro e w' ⟨rfl, hw⟩; subst w'; clear cM) | (go_at_call 18; refine (cN _).mono ?_; rintro e w' ⟨rfl, hw⟩; subst w'; clear cN) | (go_at_call 9; refine (c1 _).mono ?_; rintro e w' ⟨rfl, hw⟩; subst w'; clear c1) | (go_at_call 9; refine (c2 _).mono ?_; rintro e w' ⟨rfl, hw⟩; subst w'; clear c2) | (go_at_call 9; refine (c3 _).mono ?_; rintro e w' ⟨rfl, hw⟩; subst w'; clear c3) | (go_at_call 9; refine (c4 _).mono ?_; rintro e w' ⟨rfl, hw⟩; subst w'; clear c4) | (go_at_call 21; refine (cG _).mono ?_; rintro e w' ⟨rfl, hw⟩; subst w'))
      all_goals go_ret
      all_goals exact ⟨rfl, Below.refl _ _⟩
  · have f1 := beq_f (show ¬ (n : Int) % 8 = 1 by omega)
    have f2 := beq_f (show ¬ (n : Int) % 8 = 7 by omega)
    have f3 := beq_f (show ¬ (n : Int) % 4 = 1 by omega)
    have f4 := beq_t (show (n : Int) % 4 = 3 by omega)
    rw [chi8_m (by omega)] at c3
    rw [chi4_m (by omega)] at c4
    by_cases hg : Nat.gcd m n = 1
    rotate_left
    · rw [if_neg hg] at hR
      obtain ⟨e1, e2⟩ := hR
      subst e1 e2
      have g1 := bne_t (show ¬ ((Nat.gcd m n : Nat) : Int) = 1 by omega)
      clear hg h8 tb hmo hno
      go_enter Try.func6, Try.ntmps6
      go_wp2_with (first | (go_at_call 18; refine (cM _).mono ?_; rintro e w' ⟨rfl, hw⟩; subst w'; clear cM) | (go_at_call 18; refine (cN _).mono ?_; rintro e w' ⟨rfl, hw⟩; subst w'; clear cN) | (go_at_call 9; refine (c1 _).mono ?_; rintro e w' ⟨rfl, hw⟩; subst w'; clear c1) | (go_at_call 9; refine (c2 _).mono ?_; rintro e w' ⟨rfl, hw⟩; subst w'; clear c2) | (go_at_call 9; refine (c3 _).mono ?_; rintro e w' ⟨rfl, hw⟩; subst w'; clear c3) | (go_at_call 9; refine (c4 _).mono ?_; rintro e w' ⟨rfl, hw⟩; subst w'; clear c4) | (go_at_call 21; refine (cG _).mono ?_; rintro e w' ⟨rfl, hw⟩; subst w'))
      go_ret
      exact ⟨rfl, Below.refl _ _⟩
    rw [if_pos hg] at hR
    rw [hg] at cG
    by_cases hm4 : m % 4 = 3
    · rw [if_pos ⟨hm4, by omega⟩] at hR
      obtain ⟨e1, e2⟩ := hR
      have f5 := beq_t (show (m : Int) % 4 = 3 by omega)
      rcases tb with tb | tb | tb
      · exact absurd (show a = 0 by omega) e2
      · subst tb
        subst e1
        clear e2 hg h8 hmo hno hm4
        go_enter Try.func6, Try.ntmps6
        go_wp2_with (first | (go_at_call 18; refine (cM _).mono ?_; rintro e w' ⟨rfl, hw⟩; subst w'; clear cM) | (go_at_call 18; refine (cN _).mono ?_; rintro e w' ⟨rfl, hw⟩; subst w'; clear cN) | (go_at_call 9; refine (c1 _).mono ?_; rintro e w' ⟨rfl, hw⟩; subst w'; clear c1) | (go_at_call 9; refine (c2 _).mono ?_; rintro e w' ⟨rfl, hw⟩; subst w'; clear c2) | (go_at_call 9; refine (c3 _).mono ?_; rintro e w' ⟨rfl, hw⟩; subst w'; clear c3) | (go_at_call 9; refine (c4 _).mono ?_; rintro e w' ⟨rfl, hw⟩; subst w'; clear c4) | (go_at_call 21; refine (cG _).mono ?_; rintro e w' ⟨rfl, hw⟩; subst w'))
        go_ret
        exact ⟨rfl, Below.refl _ _⟩
      · subst tb
        subst e1
        clear e2 hg h8 hmo hno hm4
        go_enter Try.func6, Try.ntmps6
        go_wp2_with (first | (go_at_call 18; refine (cM _).mono ?_; rintro e w' ⟨rfl, hw⟩; subst w'; clear cM) | (go_at_call 18; refine (cN _).mono ?_; rintro e w' ⟨rfl, hw⟩; subst w'; clear cN) | (go_at_call 9; refine (c1 _).mono ?_; rintro e w' ⟨rfl, hw⟩; subst w'; clear c1) | (go_at_call 9; refine (c2 _).mono ?_; rintro e w' ⟨rfl, hw⟩; subst w'; clear c2) | (go_at_call 9; refine (c3 _).mono ?_; rintro e w' ⟨rfl, hw⟩; subst w'; clear c3) | (go_at_call 9; refine (c4 _).mono ?_; rintro e w' ⟨rfl, hw⟩; subst w'; clear c4) | (go_at_call 21; refine (cG _).mono ?_; rintro e w' ⟨rfl, hw⟩; subst w'))
        go_ret
        exact ⟨rfl, Below.refl _ _⟩
    rw [if_neg (fun h => hm4 h.1)] at hR
    have f5 := beq_f (show ¬ (m : Int) % 4 = 3 by omega)
    clear hm4
    obtain ⟨e1, e2⟩ := hR
    subst e1
    rcases tb with tb | tb | tb
    · exact absurd tb e2
    · subst tb
      clear e2 hg h8 hmo hno
      go_enter Try.func6, Try.ntmps6
      go_wp2_with (first | (go_at_call 18; refine (cM _).mono ?_; rintro e w' ⟨rfl, hw⟩; subst w'; clear cM) | (go_at_call 18; refine (cN _).mono ?_; rintro e w' ⟨rfl, hw⟩; subst w'; clear cN) | (go_at_call 9; refine (c1 _).mono ?_; rintro e w' ⟨rfl, hw⟩; subst w'; clear c1) | (go_at_call 9; refine (c2 _).mono ?_; rintro e w' ⟨rfl, hw⟩; subst w'; clear c2) | (go_at_call 9; refine (c3 _).mono ?_; rintro e w' ⟨rfl, hw⟩; subst w'; clear c3) | (go_at_call 9; refine (c4 _).mono ?_; rintro e w' ⟨rfl, hw⟩; subst w'; clear c4) | (go_at_call 21; refine (cG _).mono ?_; rintro e w' ⟨rfl, hw⟩; subst w'))
      all_goals go_ret
      all_goals exact ⟨rfl, Below.refl _ _⟩
    · subst tb
      clear e2 hg h8 hmo hno
      go_enter Try.func6, Try.ntmps6
      go_wp2_with (first | (go_at_call 18; refine (cM _).mono ?_; rintro e w' ⟨rfl, hw⟩; subst w'; clear cM) | (go_at_call 18; refine (cN _).mono ?_; rintro e w' ⟨rfl, hw⟩; subst w'; clear cN) | (go_at_call 9; refine (c1 _).mono ?_; rintro e w' ⟨rfl, hw⟩; subst w'; clear c1) | (go_at_call 9; refine (c2 _).mono ?_; rintro e w' ⟨rfl, hw⟩; subst w'; clear c2) | (go_at_call 9; refine (c3 _).mono ?_; rintro e w' ⟨rfl, hw⟩; subst w'; clear c3) | (go_at_call 9; refine (c4 _).mono ?_; rintro e w' ⟨rfl, hw⟩; subst w'; clear c4) | (go_at_call 21; refine (cG _).mono ?_; rintro e w' ⟨rfl, hw⟩; subst w'))
      all_goals go_ret
      all_goals exact ⟨rfl, Below.refl _ _⟩
  · have f1 := beq_f (show ¬ (n : Int) % 8 = 1 by omega)
    have f2 := beq_f (show ¬ (n : Int) % 8 = 7 by omega)
    have f3 := beq_t (show (n : Int) % 4 = 1 by omega)
    have f4 := beq_f (show ¬ (n : Int) % 4 = 3 by omega)
    rw [chi8_m (by omega)] at c3
    rw [chi4_p (by omega)] at c4
    by_cases hg : Nat.gcd m n = 1
    rotate_left
    · rw [if_neg hg] at hR
      obtain ⟨e1, e2⟩ := hR
      subst e1 e2
      have g1 := bne_t (show ¬ ((Nat.gcd m n : Nat) : Int) = 1 by omega)
      clear hg h8 tb hmo hno
      go_enter Try.func6, Try.ntmps6
      go_wp2_with (first | (go_at_call 18; refine (cM _).mono ?_; rintro e w' ⟨rfl, hw⟩; subst w'; clear cM) | (go_at_call 18; refine (cN _).mono ?_; rintro e w' ⟨rfl, hw⟩; subst w'; clear cN) | (go_at_call 9; refine (c1 _).mono ?_; rintro e w' ⟨rfl, hw⟩; subst w'; clear c1) | (go_at_call 9; refine (c2 _).mono ?_; rintro e w' ⟨rfl, hw⟩; subst w'; clear c2) | (go_at_call 9; refine (c3 _).mono ?_; rintro e w' ⟨rfl, hw⟩; subst w'; clear c3) | (go_at_call 9; refine (c4 _).mono ?_; rintro e w' ⟨rfl, hw⟩; subst w'; clear c4) | (go_at_call 21; refine (cG _).mono ?_; rintro e w' ⟨rfl, hw⟩; subst w'))
      go_ret
      exact ⟨rfl, Below.refl _ _⟩
    rw [if_pos hg] at hR
    rw [hg] at cG
    rw [if_neg (fun h => by have := h.2; omega)] at hR
    obtain ⟨e1, e2⟩ := hR
    subst e1
    rcases tb with tb | tb | tb
    · exact absurd tb e2
    · subst tb
      clear e2 hg h8 hmo hno
      go_enter Try.func6, Try.ntmps6
      go_wp2_with (first | (go_at_call 18; refine (cM _).mono ?_; rintro e w' ⟨rfl, hw⟩; subst w'; clear cM) | (go_at_call 18; refine (cN _).mono ?_; rintro e w' ⟨rfl, hw⟩; subst w'; clear cN) | (go_at_call 9; refine (c1 _).mono ?_; rintro e w' ⟨rfl, hw⟩; subst w'; clear c1) | (go_at_call 9; refine (c2 _).mono ?_; rintro e w' ⟨rfl, hw⟩; subst w'; clear c2) | (go_at_call 9; refine (c3 _).mono ?_; rintro e w' ⟨rfl, hw⟩; subst w'; clear c3) | (go_at_call 9; refine (c4 _).mono ?_; rintro e w' ⟨rfl, hw⟩; subst w'; clear c4) | (go_at_call 21; refine (cG _).mono ?_; rintro e w' ⟨rfl, hw⟩; subst w'))
      all_goals go_ret
      all_goals exact ⟨rfl, Below.refl _ _⟩
    · subst tb
      clear e2 hg h8 hmo hno
      go_enter Try.func6, Try.ntmps6
      go_wp2_with (first | (go_at_call 18; refine (cM _).mono ?_; rintro e w' ⟨rfl, hw⟩; subst w'; clear cM) | (go_at_call 18; refine (cN _).mono ?_; rintro e w' ⟨rfl, hw⟩; subst w'; clear cN) | (go_at_call 9; refine (c1 _).mono ?_; rintro e w' ⟨rfl, hw⟩; subst w'; clear c1) | (go_at_call 9; refine (c2 _).mono ?_; rintro e w' ⟨rfl, hw⟩; subst w'; clear c2) | (go_at_call 9; refine (c3 _).mono ?_; rintro e w' ⟨rfl, hw⟩; subst w'; clear c3) | (go_at_call 9; refine (c4 _).mono ?_; rintro e w' ⟨rfl, hw⟩; subst w'; clear c4) | (go_at_call 21; refine (cG _).mono ?_; rintro e w' ⟨rfl, hw⟩; subst w'))
      all_goals go_ret
      all_goals exact ⟨rfl, Below.refl _ _⟩
  · have f1 := beq_f (show ¬ (n : Int) % 8 = 1 by omega)
    have f2 := beq_t (show (n : Int) % 8 = 7 by omega)
    have f3 := beq_f (show ¬ (n : Int) % 4 = 1 by omega)
    have f4 := beq_t (show (n : Int) % 4 = 3 by omega)
    rw [chi8_p (by omega)] at c3
    rw [chi4_m (by omega)] at c4
    by_cases hg : Nat.gcd m n = 1
    rotate_left
    · rw [if_neg hg] at hR
      obtain ⟨e1, e2⟩ := hR
      subst e1 e2
      have g1 := bne_t (show ¬ ((Nat.gcd m n : Nat) : Int) = 1 by omega)
      clear hg h8 tb hmo hno
      go_enter Try.func6, Try.ntmps6
      go_wp2_with (first | (go_at_call 18; refine (cM _).mono ?_; rintro e w' ⟨rfl, hw⟩; subst w'; clear cM) | (go_at_call 18; refine (cN _).mono ?_; rintro e w' ⟨rfl, hw⟩; subst w'; clear cN) | (go_at_call 9; refine (c1 _).mono ?_; rintro e w' ⟨rfl, hw⟩; subst w'; clear c1) | (go_at_call 9; refine (c2 _).mono ?_; rintro e w' ⟨rfl, hw⟩; subst w'; clear c2) | (go_at_call 9; refine (c3 _).mono ?_; rintro e w' ⟨rfl, hw⟩; subst w'; clear c3) | (go_at_call 9; refine (c4 _).mono ?_; rintro e w' ⟨rfl, hw⟩; subst w'; clear c4) | (go_at_call 21; refine (cG _).mono ?_; rintro e w' ⟨rfl, hw⟩; subst w'))
      go_ret
      exact ⟨rfl, Below.refl _ _⟩
    rw [if_pos hg] at hR
    rw [hg] at cG
    by_cases hm4 : m % 4 = 3
    · rw [if_pos ⟨hm4, by omega⟩] at hR
      obtain ⟨e1, e2⟩ := hR
      have f5 := beq_t (show (m : Int) % 4 = 3 by omega)
      rcases tb with tb | tb | tb
      · exact absurd (show a = 0 by omega) e2
      · subst tb
        subst e1
        clear e2 hg h8 hmo hno hm4
        go_enter Try.func6, Try.ntmps6
        go_wp2_with (first | (go_at_call 18; refine (cM _).mono ?_; rintro e w' ⟨rfl, hw⟩; subst w'; clear cM) | (go_at_call 18; refine (cN _).mono ?_; rintro e w' ⟨rfl, hw⟩; subst w'; clear cN) | (go_at_call 9; refine (c1 _).mono ?_; rintro e w' ⟨rfl, hw⟩; subst w'; clear c1) | (go_at_call 9; refine (c2 _).mono ?_; rintro e w' ⟨rfl, hw⟩; subst w'; clear c2) | (go_at_call 9; refine (c3 _).mono ?_; rintro e w' ⟨rfl, hw⟩; subst w'; clear c3) | (go_at_call 9; refine (c4 _).mono ?_; rintro e w' ⟨rfl, hw⟩; subst w'; clear c4) | (go_at_call 21; refine (cG _).mono ?_; rintro e w' ⟨rfl, hw⟩; subst w'))
        go_ret
        exact ⟨rfl, Below.refl _ _⟩
      · subst tb
        subst e1
        clear e2 hg h8 hmo hno hm4
        go_enter Try.func6, Try.ntmps6
        go_wp2_with (first | (go_at_call 18; refine (cM _).mono ?_; rintro e w' ⟨rfl, hw⟩; subst w'; clear cM) | (go_at_call 18; refine (cN _).mono ?_; rintro e w' ⟨rfl, hw⟩; subst w'; clear cN) | (go_at_call 9; refine (c1 _).mono ?_; rintro e w' ⟨rfl, hw⟩; subst w'; clear c1) | (go_at_call 9; refine (c2 _).mono ?_; rintro e w' ⟨rfl, hw⟩; subst w'; clear c2) | (go_at_call 9; refine (c3 _).mono ?_; rintro e w' ⟨rfl, hw⟩; subst w'; clear c3) | (go_at_call 9; refine (c4 _).mono ?_; rintro e w' ⟨rfl, hw⟩; subst w'; clear c4) | (go_at_call 21; refine (cG _).mono ?_; rintro e w' ⟨rfl, hw⟩; subst w'))
        go_ret
        exact ⟨rfl, Below.refl _ _⟩
    rw [if_neg (fun h => hm4 h.1)] at hR
    have f5 := beq_f (show ¬ (m : Int) % 4 = 3 by omega)
    clear hm4
    obtain ⟨e1, e2⟩ := hR
    subst e1
    rcases tb with tb | tb | tb
    · exact absurd tb e2
    · subst tb
      clear e2 hg h8 hmo hno
      go_enter Try.func6, Try.ntmps6
      go_wp2_with (first | (go_at_call 18; refine (cM _).mono ?_; rintro e w' ⟨rfl, hw⟩; subst w'; clear cM) | (go_at_call 18; refine (cN _).mono ?_; rintro e w' ⟨rfl, hw⟩; subst w'; clear cN) | (go_at_call 9; refine (c1 _).mono ?_; rintro e w' ⟨rfl, hw⟩; subst w'; clear c1) | (go_at_call 9; refine (c2 _).mono ?_; rintro e w' ⟨rfl, hw⟩; subst w'; clear c2) | (go_at_call 9; refine (c3 _).mono ?_; rintro e w' ⟨rfl, hw⟩; subst w'; clear c3) | (go_at_call 9; refine (c4 _).mono ?_; rintro e w' ⟨rfl, hw⟩; subst w'; clear c4) | (go_at_call 21; refine (cG _).mono ?_; rintro e w' ⟨rfl, hw⟩; subst w'))
      all_goals go_ret
      all_goals exact ⟨rfl, Below.refl _ _⟩
    · subst tb
      clear e2 hg h8 hmo hno
      go_enter Try.func6, Try.ntmps6
      go_wp2_with (first | (go_at_call 18; refine (cM _).mono ?_; rintro e w' ⟨rfl, hw⟩; subst w'; clear cM) | (go_at_call 18; refine (cN _).mono ?_; rintro e w' ⟨rfl, hw⟩; subst w'; clear cN) | (go_at_call 9; refine (c1 _).mono ?_; rintro e w' ⟨rfl, hw⟩; subst w'; clear c1) | (go_at_call 9; refine (c2 _).mono ?_; rintro e w' ⟨rfl, hw⟩; subst w'; clear c2) | (go_at_call 9; refine (c3 _).mono ?_; rintro e w' ⟨rfl, hw⟩; subst w'; clear c3) | (go_at_call 9; refine (c4 _).mono ?_; rintro e w' ⟨rfl, hw⟩; subst w'; clear c4) | (go_at_call 21; refine (cG _).mono ?_; rintro e w' ⟨rfl, hw⟩; subst w'))
      all_goals go_ret
      all_goals exact ⟨rfl, Below.refl _ _⟩

/-! ### THE ROW's STEP: WRITTEN OUT: LEAVE IT -/
set_option maxRecDepth 100000 in
theorem lifted (os : Os) (started : os.Started) (H : Type) (enc : TypeId × Value → H) :
    ReturnsInHanded {} Try.checked os 6 .any (Rows.squaresReciprocitySpec.pre6 enc Try.prog Try.f6 Rows.squaresReciprocityRow.domain false) (Rows.squaresReciprocitySpec.post enc Try.prog Try.f6 false true false false) := by
  refine returnsInHanded_of_change (C := Try.checked) own started (by kernel_rfl) Try.func6
    (ChangeSpec.witness6 (enc := enc) (C := Try.checked) false ⟨#[], #[.int .i64 0, .int .i64 0], []⟩ 8 (by kernel_rfl) (by kernel_rfl) (by kernel_rfl) (by kernel_rfl)) ?_
  intro W base args ds gs before hval0 hW hcnd _
  have hval : ∀ (j : Nat) t v, Try.f6.params[j]? = some t → args[j]? = some v → Value.okWide Try.prog W .any base t v := hval0
  have hW' := hW
  obtain ⟨p, q, hA0, hV, rfl, hfz, hnd⟩ := hW
  have hA : DataW.TrodAll enc Try.prog W 0 (fun _ => true) true Try.f6.params.toList args.toList ds p := hA0
  rw [Try.params6] at hA hval
  obtain ⟨v0, vs0, d0, ds0, p0, q0, hargs, rfl, rfl, h0, r0⟩ := trodAll_cons hA
  obtain ⟨v1, vs1, d1, ds1, p1, q1, rfl, rfl, rfl, h1, r1⟩ := trodAll_cons r0
  obtain ⟨rfl, rfl, rfl⟩ := trodAll_nil r1
  obtain rfl : args = #[v0, v1] := by cases args; simp_all
  obtain ⟨rfl, rfl⟩ := trodVars_none hV
  obtain ⟨a0, rfl, rfl, rfl, w0⟩ := open_int Try.underlying2 (hval 0 2 v0 rfl rfl) h0
  obtain ⟨a1, rfl, rfl, rfl, w1⟩ := open_int Try.underlying2 (hval 1 2 v1 rfl rfl) h1
  clear hA0 hval0
  simp only [List.append_nil] at hW'
  refine (walk a0 a1 w0 w1 W).mono fun e W' ⟨he, hg⟩ => ?_
  subst he
  exact ⟨_, rfl, post_of_kept (pa := []) (pv := []) hW' (fun _ _ _ => (trodAll_cons_mk (shut_bool Try.underlying4 _) trodAll_mk0)) (fun sp _ => (trodAll_cons_mk (shut_int Try.underlying2 w0) (trodAll_cons_mk (shut_int Try.underlying2 w1) trodAll_mk0))) (fun _ _ => rfl) rfl
    (hg.frame _)⟩

theorem over : Rows.squaresReciprocityRow.holds Try.pinned (OpenSpec.ofChange Rows.squaresReciprocitySpec) :=
  OpenClaim.holds_of_wide 6 Try.f6 rfl rfl rfl rfl rfl rfl rfl ⟨rfl, rfl, rfl, rfl, rfl⟩ rfl rfl rfl rfl rfl (by kernel_rfl) Try.func6 (by kernel_rfl)
    (of_decide_eq_true (by kernel_rfl)) (by unfold Func.isWrapper; first | (rw [if_pos (by decide +kernel)]; kernel_rfl) | (rw [if_neg (by decide +kernel)]; exact ⟨rfl, rfl⟩))
    (fun os started H enc _ => lifted os started H enc)

/-- ████ THE STATEMENT ████ -/
theorem proved : Rows.SquaresReciprocitySaid :=
  over
end Go.Proofs.Ytmlhjmajhgcleaa.squaresReciprocity
