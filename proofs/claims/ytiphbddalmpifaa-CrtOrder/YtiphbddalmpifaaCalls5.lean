/-
  What the statements' own helpers answer: the range tests, the least common multiple of the document's answer, the first code of two.
-/
import Derived.Test.YtiphbddalmpifaaCalls4
namespace Go.Proofs.Ytiphbddalmpifaa.Calls5
set_option linter.unusedVariables false
open Go.ChangeShapes Go.WideShapes Go.ChangeAt Go.RowKit Go.Proofs.Ytiphbddalmpifaa.Math Go.Proofs.Ytiphbddalmpifaa.Calls1 Go.Proofs.Ytiphbddalmpifaa.Calls2 Go.Proofs.Ytiphbddalmpifaa.Calls3 Go.Proofs.Ytiphbddalmpifaa.Calls4

theorem refLcm_any (a b : Int) (w : World) (ha1 : -2147483648 ≤ a) (ha2 : a ≤ 2147483648) (hb1 : -2147483648 ≤ b) (hb2 : b ≤ 2147483648) :
    Calls Try.prog 9 #[.int .i64 a, .int .i64 b] w fun e w' => e = .returned (.int .i64 (ll a b)) ∧ Grown w w' := by
  by_cases h1 : a = 0
  · subst h1; rw [ll_zero_left]
    go_enter Try.func9, Try.ntmps9
    go_wp2
    go_ret
    exact ⟨rfl, Grown.refl _⟩
  · have h1' : (a == 0) = false := by simpa using h1
    by_cases h2 : b = 0
    · subst h2; rw [ll_zero_right]
      go_enter Try.func9, Try.ntmps9
      go_wp2
      go_ret
      exact ⟨rfl, Grown.refl _⟩
    · have h2' : (b == 0) = false := by simpa using h2
      obtain ⟨g1, q0, q1, l0, l1⟩ := ll_bd (Or.inl h1) ha1 ha2 hb1 hb2
      unfold ll at l0 l1 ⊢
      clear h1 h2
      go_enter Try.func9, Try.ntmps9
      go_wp2_with fail
      go_quiet ((first | (go_at_call 17; exact Calls.quiet_of_same (refAbs_any _ _ (by omega) (by omega))) | (go_at_call 11; exact Calls.quiet_of_same (refGcd_any _ _ _ (by omega) (by omega) (by omega) (by omega)))))
      go_wp2
      go_ret
      exact ⟨rfl, grown_drewN (Grown.refl _) _⟩

theorem near_yes (a : Int) (w : World) (ha1 : -2147483648 ≤ a) (ha2 : a ≤ 2147483648) :
    Calls Try.prog 12 #[.int .i64 a] w fun e w' => e = .returned (.bool true) ∧ w' = w := by
  go_enter Try.func12, Try.ntmps12
  go_wp2_with (go_at_call 16; refine (Far_no _ _ (by omega) (by omega)).mono ?_; rintro e w' ⟨rfl, rfl⟩)
  go_ret
  exact ⟨rfl, rfl⟩

theorem near_no (a : Int) (w : World) (h : a < -2147483648 ∨ 2147483648 < a) :
    Calls Try.prog 12 #[.int .i64 a] w fun e w' => e = .returned (.bool false) ∧ w' = w := by
  have H : Hid (a < -2147483648 ∨ 2147483648 < a) := h
  clear h
  go_enter Try.func12, Try.ntmps12
  go_wp2_with (go_at_call 16; refine (Far_yes _ _ H.out).mono ?_; rintro e w' ⟨rfl, rfl⟩)
  go_ret
  exact ⟨rfl, rfl⟩

end Go.Proofs.Ytiphbddalmpifaa.Calls5
