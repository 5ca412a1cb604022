/-
  What goes through the primes of a number: primes.powers, and the function value that it answers: each prime power comes once, rising.
-/
import Derived.RangeFuncNested
import Derived.RangeFuncBound
import Derived.RangeFuncCalls
import Derived.RangeFuncLeaves
import Derived.Shelf.Abstract
import Derived.Shelf.RegionOpen
import Derived.WalkKit
import Derived.OwnWalkIn
import Derived.TacticsInMore
import Derived.LoopNIn
import Derived.LoopIn
import Derived.Test.YtjfgnpgbphdalaaRows
import Derived.Test.YtjfgnpgbphdalaaNum
namespace Go.Proofs.Ytjfgnpgbphdalaa.Calls7
set_option linter.unusedVariables false
open Go.RowKit Go.Shelf Go.Proofs.Ytjfgnpgbphdalaa.Num

attribute [local go_sem] Oper.semAt_some

/-- A prime power as it comes: the bounds that every one keeps. -/
abbrev PK := { x : Nat × Nat // 2 ≤ x.1 ∧ x.1 ≤ 1048576 ∧ 1 ≤ x.2 ∧ x.2 ≤ 20 }

def vals (l : List PK) : List (Nat × Nat) := l.map (·.1)

theorem vals_snoc (l : List PK) (x : PK) : vals (l ++ [x]) = vals l ++ [x.1] := by simp [vals]

theorem vals_length (l : List PK) : (vals l).length = l.length := by simp [vals]

abbrev encP (x : PK) : Value := .agg #[.int .i64 (x.1.1 : Int), .int .i64 (x.1.2 : Int)]

theorem tmod_nat (a b : Nat) : Int.tmod (a : Int) (b : Int) = ((a % b : Nat) : Int) := by
  rw [Int.ofNat_tmod]

theorem tdiv_nat (a b : Nat) : Int.tdiv (a : Int) (b : Int) = ((a / b : Nat) : Int) := by
  rw [Int.ofNat_tdiv]

theorem meas {p : Nat} (h : p ≤ 1024) : (1048577 - ((p : Int) + 1)).toNat < (1048577 - (p : Int)).toNat := by omega

end Go.Proofs.Ytjfgnpgbphdalaa.Calls7
