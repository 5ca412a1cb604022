/-
  What the small functions of the program answer, each at every input that is named in its statement: sign, absolute value, rest, range tests.
-/
import Derived.Test.YtjpmkcijkcnfiaaRows
import Derived.Test.YtjpmkcijkcnfiaaMath
import Derived.WalkKit
import Derived.ProofKit
import Derived.OpenShut
import Derived.WalkSpells
namespace Go.Proofs.Ytjpmkcijkcnfiaa.Calls1
set_option linter.unusedVariables false
open Go.ChangeShapes Go.WideShapes Go.ChangeAt Go.RowKit Go.Proofs.Ytjpmkcijkcnfiaa.Math

def sg (n : Int) : Int := if n < 0 then -1 else if 0 < n then 1 else 0

theorem sg_neg {n : Int} (h : n < 0) : sg n = -1 := by unfold sg; rw [if_pos h]
theorem sg_pos {n : Int} (h : 0 < n) : sg n = 1 := by unfold sg; rw [if_neg (by omega), if_pos h]
theorem sg_zero : sg 0 = 0 := rfl

theorem ret_int {k : IntKind} {a b : Int} (h : a = b) : Ending.returned (.int k a) = .returned (.int k b) := by rw [h]

theorem ret_bool {a b : Bool} (h : a = b) : Ending.returned (.bool a) = .returned (.bool b) := by rw [h]

theorem tmod_neg_lt {n m : Int} (hm : 1 ≤ m) (h : n.tmod m < 0) : n.tmod m + m = n % m := by
  have hn : n < 0 := by
    rcases Int.lt_or_le n 0 with h' | h'
    · exact h'
    · have := Int.tmod_nonneg m h'; omega
  have e := Int.emod_eq_tmod (a := n) (b := m)
  rw [e, if_neg]
  · omega
  · intro h'
    rcases h' with h' | h'
    · omega
    · have := Int.tmod_eq_zero_of_dvd h'; omega

theorem tmod_not_lt {n m : Int} (hm : 1 ≤ m) (h : ¬ n.tmod m < 0) : n.tmod m = n % m := by
  have e := Int.emod_eq_tmod (a := n) (b := m)
  rw [e]
  split
  · omega
  · rename_i h'
    exfalso; apply h'
    rcases Int.lt_or_le n 0 with h2 | h2
    · right
      have h3 : n.tmod m ≤ 0 := by
        have := Int.tmod_nonneg m (show 0 ≤ -n by omega)
        rw [Int.neg_tmod] at this; omega
      exact Int.dvd_of_tmod_eq_zero (by omega)
    · left; exact h2

theorem tmod_bd {n m : Int} (hm : 1 ≤ m) : -m < n.tmod m ∧ n.tmod m < m := by
  constructor
  · have h := Int.lt_tmod_of_pos n (show 0 < m by omega); exact h
  · exact Int.tmod_lt_of_pos n (by omega)

theorem refMod_any (n m : Int) (w : World) (h1 : 1 ≤ m) (h2 : m ≤ 2147483648) :
    Calls Try.prog 47 #[.int .i64 n, .int .i64 m] w fun e w' => e = .returned (.int .i64 (n % m)) ∧ w' = w := by
  have hb := tmod_bd (n := n) h1
  by_cases h : n.tmod m < 0
  · have H : Hid (n.tmod m + m = n % m) := tmod_neg_lt h1 h
    go_enter Try.func47, Try.ntmps47
    go_wp2
    go_ret
    exact ⟨ret_int H.out, rfl⟩
  · have H : Hid (n.tmod m = n % m) := tmod_not_lt h1 h
    go_enter Try.func47, Try.ntmps47
    go_wp2
    go_ret
    exact ⟨ret_int H.out, rfl⟩

end Go.Proofs.Ytjpmkcijkcnfiaa.Calls1
