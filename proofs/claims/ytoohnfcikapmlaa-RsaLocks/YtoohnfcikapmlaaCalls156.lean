/-
  The statements' gates of rsa: is the key within its limits, and are two numbers different primes.
-/
import Derived.Test.YtoohnfcikapmlaaCalls155
namespace Go.Proofs.Ytoohnfcikapmlaa.Calls156
set_option linter.unusedVariables false
open Go.ChangeShapes Go.WideShapes Go.ChangeAt Go.RowKit Go.Deep Go.Proofs.Ytoohnfcikapmlaa.Base Go.Proofs.Ytoohnfcikapmlaa.Num Go.Proofs.Ytoohnfcikapmlaa.Num8 Go.Proofs.Ytoohnfcikapmlaa.Num13 Go.Proofs.Ytoohnfcikapmlaa.Num56 Go.Proofs.Ytoohnfcikapmlaa.Calls150 Go.Proofs.Ytoohnfcikapmlaa.Calls151 Go.Proofs.Ytoohnfcikapmlaa.Calls152
open Go.Proofs.Ytoohnfcikapmlaa.Calls9 (prB prB_iff modulus_yes modulus_no refIs_any)
open Go.Proofs.Ytoohnfcikapmlaa.Calls19 (refPow_any)

set_option maxRecDepth 100000 in
set_option maxHeartbeats 1000000 in
theorem keyCheck_yes (N E D x : Int) (h : Cr x E D N) (w : World) :
    Calls Try.prog 9 #[.agg #[.int .i64 N, .int .i64 E, .int .i64 D], .int .i64 x] w fun e w' => e = .returned (.int .i64 0) ∧ Below w.heap.size w w' := by
  have K := hid (Kb.new w N E D)
  obtain ⟨c0, c1, c2⟩ := K.out.cells
  obtain ⟨⟨h1, h2⟩, ⟨h3, h4⟩, ⟨h5, h6⟩, h7, h8⟩ := h
  have n1 : ¬ N < 1 := by omega
  have n2 : ¬ 1048576 < N := by omega
  have n3 : ¬ E < 1 := by omega
  have n4 : ¬ 2147483648 < E := by omega
  have n5 : ¬ D < 1 := by omega
  have n6 : ¬ 2147483648 < D := by omega
  have n7 : ¬ x < 0 := by omega
  have n8 : ¬ N ≤ x := by omega
  clear h1 h2 h3 h4 h5 h6 h7 h8
  go_enter Try.func9, Try.ntmps9
  go_wp2
  go_ret
  exact ⟨rfl, K.out.2⟩

set_option maxRecDepth 100000 in
set_option maxHeartbeats 4000000 in
theorem keyCheck_no (N E D x : Int) (h : ¬ Cr x E D N) (w : World) :
    Calls Try.prog 9 #[.agg #[.int .i64 N, .int .i64 E, .int .i64 D], .int .i64 x] w fun e w' => e = .returned (.int .i64 2) ∧ Below w.heap.size w w' := by
  have K := hid (Kb.new w N E D)
  obtain ⟨c0, c1, c2⟩ := K.out.cells
  have hh : N < 1 ∨ (¬ N < 1 ∧ (1048576 < N ∨ (¬ 1048576 < N ∧ (E < 1 ∨ (¬ E < 1 ∧ (2147483648 < E ∨ (¬ 2147483648 < E ∧ (D < 1 ∨ (¬ D < 1 ∧ (2147483648 < D ∨ (¬ 2147483648 < D ∧ (x < 0 ∨ (¬ x < 0 ∧ N ≤ x))))))))))))) := by
    have := h; unfold Cr at this; omega
  clear h
  rcases hh with n1 | ⟨n1, n2 | ⟨n2, n3 | ⟨n3, n4 | ⟨n4, n5 | ⟨n5, n6 | ⟨n6, n7 | ⟨n7, n8⟩⟩⟩⟩⟩⟩⟩
  all_goals
    go_enter Try.func9, Try.ntmps9
    go_wp2
    go_ret
    exact ⟨rfl, K.out.2⟩

/-- What a prime within the limits is told by the statements' gate. -/
theorem primal_yes (p : Int) (h : isP p = true) (w : World) :
    Calls Try.prog 14 #[.int .i64 p] w fun e w' => e = .returned (.int .i64 0) ∧ w' = w := by
  obtain ⟨m, rfl, hm, h2⟩ := (isP_iff p).1 h
  have h1 := hm.1
  have cM := fun w => modulus_yes (m : Int) (by omega) (by omega) w
  have cI := fun w => refIs_any m (by omega) w
  rw [(prB_iff m).2 hm] at cI
  clear h hm
  go_enter Try.func14, Try.ntmps14
  go_wp2_with (first | (go_at_call 21; refine (cM _).mono ?_; rintro e w' ⟨rfl, hw⟩; subst w') | (go_at_call 22; refine (cI _).mono ?_; rintro e w' ⟨rfl, hw⟩; subst w'))
  go_ret
  exact ⟨rfl, rfl⟩

theorem primal_no (p : Int) (h : isP p = false) : ∃ c : Int, c ≠ 0 ∧ ∀ w, Calls Try.prog 14 #[.int .i64 p] w fun e w' => e = .returned (.int .i64 c) ∧ w' = w := by
  by_cases hM : 1 ≤ p ∧ p ≤ 1048576
  · obtain ⟨m, rfl⟩ : ∃ m : Nat, p = (m : Int) := ⟨p.toNat, by omega⟩
    refine ⟨3, by decide, fun w => ?_⟩
    have cM := fun w => modulus_yes (m : Int) hM.1 hM.2 w
    have cI := fun w => refIs_any m (by omega) w
    have hb : prB m = false := by
      unfold isP at h; rw [decide_eq_true hM] at h; simpa using h
    rw [hb] at cI
    clear h hM hb
    go_enter Try.func14, Try.ntmps14
    go_wp2_with (first | (go_at_call 21; refine (cM _).mono ?_; rintro e w' ⟨rfl, hw⟩; subst w') | (go_at_call 22; refine (cI _).mono ?_; rintro e w' ⟨rfl, hw⟩; subst w'))
    go_ret
    exact ⟨rfl, rfl⟩
  · refine ⟨2, by decide, fun w => ?_⟩
    have cM := fun w => modulus_no p hM w
    clear h hM
    go_enter Try.func14, Try.ntmps14
    go_wp2_with (go_at_call 21; refine (cM _).mono ?_; rintro e w' ⟨rfl, hw⟩; subst w')
    go_ret
    exact ⟨rfl, rfl⟩

theorem first_zero (b : Int) (w : World) :
    Calls Try.prog 13 #[.int .i64 0, .int .i64 b] w fun e w' => e = .returned (.int .i64 b) ∧ w' = w := by
  go_enter Try.func13, Try.ntmps13
  go_wp2
  go_ret
  exact ⟨rfl, rfl⟩

theorem first_not (a b : Int) (h : a ≠ 0) (w : World) :
    Calls Try.prog 13 #[.int .i64 a, .int .i64 b] w fun e w' => e = .returned (.int .i64 a) ∧ w' = w := by
  have h1 : (a != 0) = true := by simpa using h
  go_enter Try.func13, Try.ntmps13
  go_wp2
  go_ret
  exact ⟨rfl, rfl⟩

/-- The two gates together: none is wrong just where both are primes within the limits. -/
theorem gates (p q : Int) : ∃ a b c : Int, (c = 0 ↔ isP p = true ∧ isP q = true) ∧ (∀ w, Calls Try.prog 14 #[.int .i64 p] w fun e w' => e = .returned (.int .i64 a) ∧ w' = w) ∧ (∀ w, Calls Try.prog 14 #[.int .i64 q] w fun e w' => e = .returned (.int .i64 b) ∧ w' = w) ∧ (∀ w, Calls Try.prog 13 #[.int .i64 a, .int .i64 b] w fun e w' => e = .returned (.int .i64 c) ∧ w' = w) := by
  have one : ∀ p : Int, ∃ a : Int, (a = 0 ↔ isP p = true) ∧ ∀ w, Calls Try.prog 14 #[.int .i64 p] w fun e w' => e = .returned (.int .i64 a) ∧ w' = w := by
    intro p
    cases h : isP p
    · obtain ⟨c, hc, hC⟩ := primal_no p h
      exact ⟨c, by simp [hc], hC⟩
    · exact ⟨0, by simp, primal_yes p h⟩
  obtain ⟨a, ha, cA⟩ := one p
  obtain ⟨b, hb, cB⟩ := one q
  by_cases h : a = 0
  · subst h
    exact ⟨0, b, b, by rw [hb]; simp [← ha], cA, cB, first_zero b⟩
  · exact ⟨a, b, a, by rw [← ha]; simp [h], cA, cB, first_not a b h⟩

theorem refPow_nat (x k m : Nat) (hm1 : 1 ≤ m) (hm2 : m ≤ 1048576) (hk : k ≤ 2147483648) (w : World) :
    Calls Try.prog 10 #[.int .i64 (x : Int), .int .i64 (k : Int), .int .i64 (m : Int)] w fun e w' => e = .returned (.int .i64 (x ^ k % m : Nat)) ∧ w' = w := by
  have h := refPow_any (x : Int) m hm1 hm2 k w hk
  rwa [pw_n] at h

end Go.Proofs.Ytoohnfcikapmlaa.Calls156
