/-
  What Gcd and Lcm of the program answer at every two 64-bit numbers.
-/
import Derived.Test.YtpnmepobdnclkaaCalls2
import Derived.Deep.QuietTactic
import Derived.BigQuiet
namespace Go.Proofs.Ytpnmepobdnclkaa.Calls3
set_option linter.unusedVariables false
open Go.ChangeShapes Go.WideShapes Go.ChangeAt Go.RowKit Go.Proofs.Ytpnmepobdnclkaa.Math Go.Proofs.Ytpnmepobdnclkaa.Calls1 Go.Proofs.Ytpnmepobdnclkaa.Calls2

theorem grown_trans {a b c : World} (h1 : Grown a b) (h2 : Grown b c) : Grown a c :=
  ⟨World.keptBut_trans h1.1 h2.1, fun x => (h2.2.1 x).trans (h1.2.1 x), Nat.le_trans h1.2.2 h2.2.2⟩
theorem grown_drewN {a b : World} (h : Grown a b) (n : Nat) : Grown a (b.drewN n) := by
  induction n generalizing b with
  | zero => exact h
  | succ n ih => exact ih h.drew

def near (a : Int) : Prop := -2147483648 ≤ a ∧ a ≤ 2147483648
def far (a : Int) : Prop := a < -2147483648 ∨ 2147483648 < a

def pair (a b : Int) (k : Nat) : Int := if k = 0 then a else b

theorem two_yes (a b : Int) (w : World) (ha1 : -2147483648 ≤ a) (ha2 : a ≤ 2147483648) (hb1 : -2147483648 ≤ b) (hb2 : b ≤ 2147483648) :
    Calls Try.prog 80 #[.slice (some ⟨w.heap.size, 0, none⟩) 2 2] (w.alloc (.cells #[.int .i64 a, .int .i64 b] 2)) fun e w' => e = .returned (.bool true) ∧ w' = w.alloc (.cells #[.int .i64 a, .int .i64 b] 2) := by
  refine inRange_yes w.heap.size 2 (pair a b) _ (Nat.le_refl _) ?_ ?_
  · intro k hk
    match k, hk with
    | 0, _ => simp [pair]
    | 1, _ => simp [pair]
  · intro k hk
    unfold pair; split <;> omega

theorem two_no (a b : Int) (w : World) (h : (a < -2147483648 ∨ 2147483648 < a) ∨ (b < -2147483648 ∨ 2147483648 < b)) :
    Calls Try.prog 80 #[.slice (some ⟨w.heap.size, 0, none⟩) 2 2] (w.alloc (.cells #[.int .i64 a, .int .i64 b] 2)) fun e w' => e = .returned (.bool false) ∧ w' = w.alloc (.cells #[.int .i64 a, .int .i64 b] 2) := by
  refine inRange_no w.heap.size 2 (pair a b) _ (Nat.le_refl _) ?_ ?_
  · intro k hk
    match k, hk with
    | 0, _ => simp [pair]
    | 1, _ => simp [pair]
  · rcases h with h | h
    · exact ⟨0, by omega, by simpa [pair] using h⟩
    · exact ⟨1, by omega, by simpa [pair] using h⟩

/-- The least common multiple, as the program reckons it. -/
def ll (a b : Int) : Int := (a.natAbs : Int) / gg a b * (b.natAbs : Int)

theorem ll_bd {a b : Int} (h : a ≠ 0 ∨ b ≠ 0) (ha1 : -2147483648 ≤ a) (ha2 : a ≤ 2147483648) (hb1 : -2147483648 ≤ b) (hb2 : b ≤ 2147483648) :
    1 ≤ gg a b ∧ 0 ≤ (a.natAbs : Int) / gg a b ∧ (a.natAbs : Int) / gg a b ≤ 2147483648 ∧ 0 ≤ ll a b ∧ ll a b ≤ 4611686018427387904 := by
  have g := gg_pos h
  have q0 : 0 ≤ (a.natAbs : Int) / gg a b := Int.ediv_nonneg (by omega) (by omega)
  have q1 : (a.natAbs : Int) / gg a b ≤ a.natAbs := Int.ediv_le_self _ (by omega)
  refine ⟨g, q0, by omega, Int.mul_nonneg q0 (by omega), ?_⟩
  have := Int.mul_le_mul (show (a.natAbs : Int) / gg a b ≤ 2147483648 by omega) (show (b.natAbs : Int) ≤ 2147483648 by omega) (by omega) (by omega)
  unfold ll; omega

theorem ll_zero_left (b : Int) : ll 0 b = 0 := by unfold ll; simp
theorem ll_zero_right (a : Int) : ll a 0 = 0 := by unfold ll; simp

end Go.Proofs.Ytpnmepobdnclkaa.Calls3
