/-
  What the statements' own helpers answer: the range tests, the least common multiple of the document's answer, the first code of two.
-/
import Derived.Test.YtmfcfjjcgkfblabCalls4
namespace Go.Proofs.Ytmfcfjjcgkfblab.Calls5
set_option linter.unusedVariables false
open Go.ChangeShapes Go.WideShapes Go.ChangeAt Go.RowKit Go.Proofs.Ytmfcfjjcgkfblab.Math Go.Proofs.Ytmfcfjjcgkfblab.Calls1 Go.Proofs.Ytmfcfjjcgkfblab.Calls2 Go.Proofs.Ytmfcfjjcgkfblab.Calls3 Go.Proofs.Ytmfcfjjcgkfblab.Calls4

theorem near_yes (a : Int) (w : World) (ha1 : -2147483648 ≤ a) (ha2 : a ≤ 2147483648) :
    Calls Try.prog 7 #[.int .i64 a] w fun e w' => e = .returned (.bool true) ∧ w' = w := by
  go_enter Try.func7, Try.ntmps7
  go_wp2_with (go_at_call 16; refine (Far_no _ _ (by omega) (by omega)).mono ?_; rintro e w' ⟨rfl, rfl⟩)
  go_ret
  exact ⟨rfl, rfl⟩

theorem near_no (a : Int) (w : World) (h : a < -2147483648 ∨ 2147483648 < a) :
    Calls Try.prog 7 #[.int .i64 a] w fun e w' => e = .returned (.bool false) ∧ w' = w := by
  have H : Hid (a < -2147483648 ∨ 2147483648 < a) := h
  clear h
  go_enter Try.func7, Try.ntmps7
  go_wp2_with (go_at_call 16; refine (Far_yes _ _ H.out).mono ?_; rintro e w' ⟨rfl, rfl⟩)
  go_ret
  exact ⟨rfl, rfl⟩

end Go.Proofs.Ytmfcfjjcgkfblab.Calls5
