/-
  The statements' own gate of an odd modulus.
-/
import Derived.Test.YtnciahbpmajhdaaCalls32
namespace Go.Proofs.Ytnciahbpmajhdaa.Calls33
set_option linter.unusedVariables false
open Go.ChangeShapes Go.WideShapes Go.ChangeAt Go.RowKit Go.Proofs.Ytnciahbpmajhdaa.Num13 Go.Proofs.Ytnciahbpmajhdaa.Num30 Go.Proofs.Ytnciahbpmajhdaa.Calls9 Go.Proofs.Ytnciahbpmajhdaa.Calls19 Go.Proofs.Ytnciahbpmajhdaa.Calls20 Go.Proofs.Ytnciahbpmajhdaa.Calls29 Go.Proofs.Ytnciahbpmajhdaa.Calls32

theorem odd_yes (a n : Int) (ha : Nr a) (hn : Om n) (w : World) :
    Calls Try.prog 10 #[.int .i64 a, .int .i64 n] w fun e w' => e = .returned (.int .i64 0) ∧ w' = w := by
  have cF := fun w => Far_no a w ha.1 ha.2
  obtain ⟨h1, h2, h3⟩ := hn
  obtain ⟨m, rfl⟩ : ∃ m : Nat, n = (m : Int) := ⟨n.toNat, by omega⟩
  have h5 := beq_f (show ¬ (m : Int) % 2 = 0 by omega)
  clear ha h3
  go_enter Try.func10, Try.ntmps10
  go_wp2_with (go_at_call 23; refine (cF _).mono ?_; rintro e w' ⟨rfl, hw⟩; subst w')
  go_ret
  exact ⟨rfl, rfl⟩

theorem odd_no (a n : Int) (h : ¬ (Nr a ∧ Om n)) (w : World) :
    Calls Try.prog 10 #[.int .i64 a, .int .i64 n] w fun e w' => e = .returned (.int .i64 2) ∧ w' = w := by
  by_cases ha : Nr a
  · have cF := fun w => Far_no a w ha.1 ha.2
    by_cases h1 : n < 3
    · clear h ha
      go_enter Try.func10, Try.ntmps10
      go_wp2_with (go_at_call 23; refine (cF _).mono ?_; rintro e w' ⟨rfl, hw⟩; subst w')
      go_ret
      exact ⟨rfl, rfl⟩
    · by_cases h2 : 1048576 < n
      · clear h ha
        go_enter Try.func10, Try.ntmps10
        go_wp2_with (go_at_call 23; refine (cF _).mono ?_; rintro e w' ⟨rfl, hw⟩; subst w')
        go_ret
        exact ⟨rfl, rfl⟩
      · obtain ⟨m, rfl⟩ : ∃ m : Nat, n = (m : Int) := ⟨n.toNat, by omega⟩
        have h5 := beq_t (show (m : Int) % 2 = 0 by
          have : ¬ Om (m : Int) := fun h' => h ⟨ha, h'⟩
          unfold Om at this
          omega)
        clear h ha
        go_enter Try.func10, Try.ntmps10
        go_wp2_with (go_at_call 23; refine (cF _).mono ?_; rintro e w' ⟨rfl, hw⟩; subst w')
        go_ret
        exact ⟨rfl, rfl⟩
  · have cF := fun w => Far_yes a w (far_of ha)
    clear h ha
    go_enter Try.func10, Try.ntmps10
    go_wp2_with (go_at_call 23; refine (cF _).mono ?_; rintro e w' ⟨rfl, hw⟩; subst w')
    go_ret
    exact ⟨rfl, rfl⟩

end Go.Proofs.Ytnciahbpmajhdaa.Calls33
