/-
  What the statements' own gates answer at every input.
-/
import Derived.Test.YtjfgnpgbphdalaaCalls19
namespace Go.Proofs.Ytjfgnpgbphdalaa.Calls20
set_option linter.unusedVariables false
open Go.ChangeShapes Go.WideShapes Go.ChangeAt Go.RowKit Go.Proofs.Ytjfgnpgbphdalaa.Num Go.Proofs.Ytjfgnpgbphdalaa.Num13 Go.Proofs.Ytjfgnpgbphdalaa.Calls9 Go.Proofs.Ytjfgnpgbphdalaa.Calls19

abbrev Nr (a : Int) : Prop := -2147483648 ≤ a ∧ a ≤ 2147483648
abbrev Md (m : Int) : Prop := 1 ≤ m ∧ m ≤ 1048576

theorem far_of {a : Int} (h : ¬ Nr a) : a < -2147483648 ∨ 2147483648 < a := by unfold Nr at h; omega

theorem first_any (a b : Int) (w : World) :
    Calls Try.prog 8 #[.int .i64 a, .int .i64 b] w fun e w' => e = .returned (.int .i64 (if a = 0 then b else a)) ∧ w' = w := by
  by_cases h : a = 0
  · subst h
    go_enter Try.func8, Try.ntmps8
    go_wp2
    go_ret
    exact ⟨rfl, rfl⟩
  · rw [if_neg h]
    have h' : (a == 0) = false := by simpa using h
    go_enter Try.func8, Try.ntmps8
    go_wp2
    go_ret
    exact ⟨rfl, rfl⟩

theorem both_yes (a : Int) (h : Nr a) (w : World) :
    Calls Try.prog 9 #[.int .i64 a, .int .i64 0] w fun e w' => e = .returned (.int .i64 0) ∧ w' = w := by
  obtain ⟨h1, h2⟩ := h
  go_enter Try.func9, Try.ntmps9
  go_wp2_with (go_at_call 22; refine (Far_no _ _ (by omega) (by omega)).mono ?_; rintro e w' ⟨rfl, hw⟩; subst w')
  go_ret
  exact ⟨rfl, rfl⟩

theorem both_no (a : Int) (h : ¬ Nr a) (w : World) :
    Calls Try.prog 9 #[.int .i64 a, .int .i64 0] w fun e w' => e = .returned (.int .i64 2) ∧ w' = w := by
  have H := hid (far_of h)
  clear h
  go_enter Try.func9, Try.ntmps9
  go_wp2_with (go_at_call 22; refine (Far_yes _ _ H.out).mono ?_; rintro e w' ⟨rfl, hw⟩; subst w')
  go_ret
  exact ⟨rfl, rfl⟩

/-- A code that a gate tells: 0 just if all is well, else 2. -/
theorem gate_any (a m : Int) : ∃ c1 c2 : Int, (∀ w, Calls Try.prog 9 #[.int .i64 a, .int .i64 0] w fun e w' => e = .returned (.int .i64 c1) ∧ w' = w) ∧ (∀ w, Calls Try.prog 10 #[.int .i64 m] w fun e w' => e = .returned (.int .i64 c2) ∧ w' = w) ∧
    (∀ w, Calls Try.prog 8 #[.int .i64 c1, .int .i64 c2] w fun e w' => e = .returned (.int .i64 (if Nr a ∧ Md m then 0 else 2)) ∧ w' = w) := by
  by_cases h1 : Nr a
  · by_cases h2 : Md m
    · refine ⟨0, 0, both_yes a h1, fun w => modulus_yes m h2.1 h2.2 w, fun w => ?_⟩
      have := first_any 0 0 w
      rw [if_pos ⟨h1, h2⟩]; simpa using this
    · refine ⟨0, 2, both_yes a h1, fun w => modulus_no m h2 w, fun w => ?_⟩
      have := first_any 0 2 w
      rw [if_neg (fun h => h2 h.2)]; simpa using this
  · by_cases h2 : Md m
    · refine ⟨2, 0, both_no a h1, fun w => modulus_yes m h2.1 h2.2 w, fun w => ?_⟩
      have := first_any 2 0 w
      rw [if_neg (fun h => h1 h.1)]; simpa using this
    · refine ⟨2, 2, both_no a h1, fun w => modulus_no m h2 w, fun w => ?_⟩
      have := first_any 2 2 w
      rw [if_neg (fun h => h1 h.1)]; simpa using this

end Go.Proofs.Ytjfgnpgbphdalaa.Calls20
