/-
  What the statements' own helpers answer: the range tests, the least common multiple of the document's answer, the first code of two.
-/
import Derived.Test.YtiaabkadonimjabCalls4
namespace Go.Proofs.Ytiaabkadonimjab.Calls5
set_option linter.unusedVariables false
open Go.ChangeShapes Go.WideShapes Go.ChangeAt Go.RowKit Go.Proofs.Ytiaabkadonimjab.Math Go.Proofs.Ytiaabkadonimjab.Calls1 Go.Proofs.Ytiaabkadonimjab.Calls2 Go.Proofs.Ytiaabkadonimjab.Calls3 Go.Proofs.Ytiaabkadonimjab.Calls4

theorem near_yes (a : Int) (w : World) (ha1 : -2147483648 ≤ a) (ha2 : a ≤ 2147483648) :
    Calls Try.prog 20 #[.int .i64 a] w fun e w' => e = .returned (.bool true) ∧ w' = w := by
  go_enter Try.func20, Try.ntmps20
  go_wp2_with (go_at_call 43; refine (Far_no _ _ (by omega) (by omega)).mono ?_; rintro e w' ⟨rfl, rfl⟩)
  go_ret
  exact ⟨rfl, rfl⟩

theorem near_no (a : Int) (w : World) (h : a < -2147483648 ∨ 2147483648 < a) :
    Calls Try.prog 20 #[.int .i64 a] w fun e w' => e = .returned (.bool false) ∧ w' = w := by
  have H : Hid (a < -2147483648 ∨ 2147483648 < a) := h
  clear h
  go_enter Try.func20, Try.ntmps20
  go_wp2_with (go_at_call 43; refine (Far_yes _ _ H.out).mono ?_; rintro e w' ⟨rfl, rfl⟩)
  go_ret
  exact ⟨rfl, rfl⟩

end Go.Proofs.Ytiaabkadonimjab.Calls5
