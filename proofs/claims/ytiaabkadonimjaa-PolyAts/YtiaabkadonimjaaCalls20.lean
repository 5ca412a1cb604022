/-
  What the statements' own gates answer at every input.
-/
import Derived.Test.YtiaabkadonimjaaCalls19
namespace Go.Proofs.Ytiaabkadonimjaa.Calls20
set_option linter.unusedVariables false
open Go.ChangeShapes Go.WideShapes Go.ChangeAt Go.RowKit Go.Proofs.Ytiaabkadonimjaa.Num Go.Proofs.Ytiaabkadonimjaa.Num13 Go.Proofs.Ytiaabkadonimjaa.Calls9 Go.Proofs.Ytiaabkadonimjaa.Calls19

abbrev Nr (a : Int) : Prop := -2147483648 ≤ a ∧ a ≤ 2147483648
abbrev Md (m : Int) : Prop := 1 ≤ m ∧ m ≤ 1048576

theorem far_of {a : Int} (h : ¬ Nr a) : a < -2147483648 ∨ 2147483648 < a := by unfold Nr at h; omega

theorem first_any (a b : Int) (w : World) :
    Calls Try.prog 22 #[.int .i64 a, .int .i64 b] w fun e w' => e = .returned (.int .i64 (if a = 0 then b else a)) ∧ w' = w := by
  by_cases h : a = 0
  · subst h
    go_enter Try.func22, Try.ntmps22
    go_wp2
    go_ret
    exact ⟨rfl, rfl⟩
  · rw [if_neg h]
    have h' : (a == 0) = false := by simpa using h
    go_enter Try.func22, Try.ntmps22
    go_wp2
    go_ret
    exact ⟨rfl, rfl⟩

theorem both_yes (a : Int) (h : Nr a) (w : World) :
    Calls Try.prog 23 #[.int .i64 a, .int .i64 0] w fun e w' => e = .returned (.int .i64 0) ∧ w' = w := by
  obtain ⟨h1, h2⟩ := h
  go_enter Try.func23, Try.ntmps23
  go_wp2_with (go_at_call 41; refine (Far_no _ _ (by omega) (by omega)).mono ?_; rintro e w' ⟨rfl, hw⟩; subst w')
  go_ret
  exact ⟨rfl, rfl⟩

theorem both_no (a : Int) (h : ¬ Nr a) (w : World) :
    Calls Try.prog 23 #[.int .i64 a, .int .i64 0] w fun e w' => e = .returned (.int .i64 2) ∧ w' = w := by
  have H := hid (far_of h)
  clear h
  go_enter Try.func23, Try.ntmps23
  go_wp2_with (go_at_call 41; refine (Far_yes _ _ H.out).mono ?_; rintro e w' ⟨rfl, hw⟩; subst w')
  go_ret
  exact ⟨rfl, rfl⟩

end Go.Proofs.Ytiaabkadonimjaa.Calls20
