/-
  What the statements' own helpers answer: the range tests, the least common multiple of the document's answer, the first code of two.
-/
import Derived.Test.YtiaabkadonimjaaCalls4
namespace Go.Proofs.Ytiaabkadonimjaa.Calls5
set_option linter.unusedVariables false
open Go.ChangeShapes Go.WideShapes Go.ChangeAt Go.RowKit Go.Proofs.Ytiaabkadonimjaa.Math Go.Proofs.Ytiaabkadonimjaa.Calls1 Go.Proofs.Ytiaabkadonimjaa.Calls2 Go.Proofs.Ytiaabkadonimjaa.Calls3 Go.Proofs.Ytiaabkadonimjaa.Calls4

theorem both_ok (a b : Int) (w : World) (ha1 : -2147483648 ≤ a) (ha2 : a ≤ 2147483648) (hb1 : -2147483648 ≤ b) (hb2 : b ≤ 2147483648) :
    Calls Try.prog 23 #[.int .i64 a, .int .i64 b] w fun e w' => e = .returned (.int .i64 0) ∧ w' = w := by
  go_enter Try.func23, Try.ntmps23
  go_wp2_with (go_at_call 41; refine (Far_no _ _ (by omega) (by omega)).mono ?_; rintro e w' ⟨rfl, rfl⟩)
  go_ret
  exact ⟨rfl, rfl⟩

theorem both_no (a b : Int) (w : World) (h : (a < -2147483648 ∨ 2147483648 < a) ∨ (b < -2147483648 ∨ 2147483648 < b)) :
    Calls Try.prog 23 #[.int .i64 a, .int .i64 b] w fun e w' => e = .returned (.int .i64 2) ∧ w' = w := by
  by_cases h1 : a < -2147483648 ∨ 2147483648 < a
  · have H : Hid (a < -2147483648 ∨ 2147483648 < a) := h1
    clear h h1
    go_enter Try.func23, Try.ntmps23
    go_wp2_with (go_at_call 41; refine (Far_yes _ _ H.out).mono ?_; rintro e w' ⟨rfl, rfl⟩)
    go_ret
    exact ⟨rfl, rfl⟩
  · have hh : b < -2147483648 ∨ 2147483648 < b := by omega
    have H : Hid (b < -2147483648 ∨ 2147483648 < b) := hh
    clear hh
    have a1 : -2147483648 ≤ a := by omega
    have a2 : a ≤ 2147483648 := by omega
    clear h h1
    go_enter Try.func23, Try.ntmps23
    go_wp2_with fail
    refine (Far_no _ _ (by omega) (by omega)).mono ?_
    rintro e w' ⟨rfl, rfl⟩
    go_wp2_with fail
    refine (Far_yes _ _ H.out).mono ?_
    rintro e w' ⟨rfl, rfl⟩
    go_wp2_with fail
    go_ret
    exact ⟨rfl, rfl⟩

end Go.Proofs.Ytiaabkadonimjaa.Calls5
