/-
  Euler's count: what primes.Phi answers.
-/
import Derived.Test.YtnciahbpmajhdabCalls9
import Derived.Test.YtnciahbpmajhdabNum3
namespace Go.Proofs.Ytnciahbpmajhdab.Calls34
set_option linter.unusedVariables false
open Go.ChangeShapes Go.WideShapes Go.ChangeAt Go.RowKit Go.Proofs.Ytnciahbpmajhdab.Num Go.Proofs.Ytnciahbpmajhdab.Num3 Go.Proofs.Ytnciahbpmajhdab.Calls7 Go.Proofs.Ytnciahbpmajhdab.Calls8 Go.Proofs.Ytnciahbpmajhdab.Calls9

theorem phf_tot {n : Nat} {l : List (Nat × Nat)} (h : Fac n l) : phf n l = tot n := fold_tot h

theorem Phi_at (z : Int) (h1 : 1 ≤ z) (h2 : z ≤ 1048576) (w : World) :
    Calls Try.prog 8 #[.int .i64 z] w fun e w' => e = .returned (.tuple #[.int .i64 (tot z.toNat : Int), .int .i64 0]) ∧ Below w.heap.size w w' := by
  obtain ⟨m, rfl⟩ : ∃ m : Nat, z = (m : Int) := ⟨z.toNat, by omega⟩
  refine (Phi_yes m (by omega) (by omega) w).mono ?_
  rintro e w' ⟨⟨l, hl, rfl⟩, h⟩
  rw [phf_tot hl]
  exact ⟨by simp, h⟩

end Go.Proofs.Ytnciahbpmajhdab.Calls34
