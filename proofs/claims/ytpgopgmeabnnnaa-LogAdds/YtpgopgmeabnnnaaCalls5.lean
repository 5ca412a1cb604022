/-
  What the statements' own helpers answer: the range tests, the least common multiple of the document's answer, the first code of two.
-/
import Derived.Test.YtpgopgmeabnnnaaCalls4
namespace Go.Proofs.Ytpgopgmeabnnnaa.Calls5
set_option linter.unusedVariables false
open Go.ChangeShapes Go.WideShapes Go.ChangeAt Go.RowKit Go.Proofs.Ytpgopgmeabnnnaa.Math Go.Proofs.Ytpgopgmeabnnnaa.Calls1 Go.Proofs.Ytpgopgmeabnnnaa.Calls2 Go.Proofs.Ytpgopgmeabnnnaa.Calls3 Go.Proofs.Ytpgopgmeabnnnaa.Calls4

theorem both_ok (a b : Int) (w : World) (ha1 : -2147483648 ≤ a) (ha2 : a ≤ 2147483648) (hb1 : -2147483648 ≤ b) (hb2 : b ≤ 2147483648) :
    Calls Try.prog 12 #[.int .i64 a, .int .i64 b] w fun e w' => e = .returned (.int .i64 0) ∧ w' = w := by
  go_enter Try.func12, Try.ntmps12
  go_wp2_with (go_at_call 26; refine (Far_no _ _ (by omega) (by omega)).mono ?_; rintro e w' ⟨rfl, rfl⟩)
  go_ret
  exact ⟨rfl, rfl⟩

theorem both_no (a b : Int) (w : World) (h : (a < -2147483648 ∨ 2147483648 < a) ∨ (b < -2147483648 ∨ 2147483648 < b)) :
    Calls Try.prog 12 #[.int .i64 a, .int .i64 b] w fun e w' => e = .returned (.int .i64 2) ∧ w' = w := by
  by_cases h1 : a < -2147483648 ∨ 2147483648 < a
  · have H : Hid (a < -2147483648 ∨ 2147483648 < a) := h1
    clear h h1
    go_enter Try.func12, Try.ntmps12
    go_wp2_with (go_at_call 26; refine (Far_yes _ _ H.out).mono ?_; rintro e w' ⟨rfl, rfl⟩)
    go_ret
    exact ⟨rfl, rfl⟩
  · have hh : b < -2147483648 ∨ 2147483648 < b := by omega
    have H : Hid (b < -2147483648 ∨ 2147483648 < b) := hh
    clear hh
    have a1 : -2147483648 ≤ a := by omega
    have a2 : a ≤ 2147483648 := by omega
    clear h h1
    go_enter Try.func12, Try.ntmps12
    go_wp2_with fail
    refine (Far_no _ _ (by omega) (by omega)).mono ?_
    rintro e w' ⟨rfl, rfl⟩
    go_wp2_with fail
    refine (Far_yes _ _ H.out).mono ?_
    rintro e w' ⟨rfl, rfl⟩
    go_wp2_with fail
    go_ret
    exact ⟨rfl, rfl⟩

theorem near_yes (a : Int) (w : World) (ha1 : -2147483648 ≤ a) (ha2 : a ≤ 2147483648) :
    Calls Try.prog 17 #[.int .i64 a] w fun e w' => e = .returned (.bool true) ∧ w' = w := by
  go_enter Try.func17, Try.ntmps17
  go_wp2_with (go_at_call 26; refine (Far_no _ _ (by omega) (by omega)).mono ?_; rintro e w' ⟨rfl, rfl⟩)
  go_ret
  exact ⟨rfl, rfl⟩

theorem near_no (a : Int) (w : World) (h : a < -2147483648 ∨ 2147483648 < a) :
    Calls Try.prog 17 #[.int .i64 a] w fun e w' => e = .returned (.bool false) ∧ w' = w := by
  have H : Hid (a < -2147483648 ∨ 2147483648 < a) := h
  clear h
  go_enter Try.func17, Try.ntmps17
  go_wp2_with (go_at_call 26; refine (Far_yes _ _ H.out).mono ?_; rintro e w' ⟨rfl, rfl⟩)
  go_ret
  exact ⟨rfl, rfl⟩

end Go.Proofs.Ytpgopgmeabnnnaa.Calls5
