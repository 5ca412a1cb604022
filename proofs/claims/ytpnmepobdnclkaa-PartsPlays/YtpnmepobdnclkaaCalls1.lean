/-
  What the small functions of the program answer, each at every input that is named in its statement: sign, absolute value, rest, range tests.
-/
import Derived.Test.YtpnmepobdnclkaaRows
import Derived.Test.YtpnmepobdnclkaaMath
import Derived.WalkKit
import Derived.ProofKit
import Derived.OpenShut
import Derived.WalkSpells
namespace Go.Proofs.Ytpnmepobdnclkaa.Calls1
set_option linter.unusedVariables false
open Go.ChangeShapes Go.WideShapes Go.ChangeAt Go.RowKit Go.Proofs.Ytpnmepobdnclkaa.Math

def sg (n : Int) : Int := if n < 0 then -1 else if 0 < n then 1 else 0

theorem sg_neg {n : Int} (h : n < 0) : sg n = -1 := by unfold sg; rw [if_pos h]
theorem sg_pos {n : Int} (h : 0 < n) : sg n = 1 := by unfold sg; rw [if_neg (by omega), if_pos h]
theorem sg_zero : sg 0 = 0 := rfl

theorem sign_any (n : Int) (w : World) :
    Calls Try.prog 86 #[.int .i64 n] w fun e w' => e = .returned (.int .i64 (sg n)) ∧ w' = w := by
  by_cases h : n < 0
  · rw [sg_neg h]
    go_enter Try.func86, Try.ntmps86
    go_wp2
    go_ret
    exact ⟨rfl, rfl⟩
  · by_cases h2 : 0 < n
    · rw [sg_pos h2]
      go_enter Try.func86, Try.ntmps86
      go_wp2
      go_ret
      exact ⟨rfl, rfl⟩
    · have e : n = 0 := by omega
      subst e
      rw [sg_zero]
      go_enter Try.func86, Try.ntmps86
      go_wp2
      go_ret
      exact ⟨rfl, rfl⟩

theorem ret_int {k : IntKind} {a b : Int} (h : a = b) : Ending.returned (.int k a) = .returned (.int k b) := by rw [h]

theorem ret_bool {a b : Bool} (h : a = b) : Ending.returned (.bool a) = .returned (.bool b) := by rw [h]

theorem abs_any (n : Int) (w : World) (h1 : -2147483648 ≤ n) (h2 : n ≤ 2147483648) :
    Calls Try.prog 84 #[.int .i64 n] w fun e w' => e = .returned (.int .i64 (n.natAbs : Int)) ∧ w' = w := by
  have hs : n * sg n = (n.natAbs : Int) := by
    unfold sg; split
    · omega
    · split <;> omega
  have hb : n * sg n ≤ 2147483648 := by omega
  have hc : 0 ≤ n * sg n := by omega
  rw [← hs]; clear hs
  go_enter Try.func84, Try.ntmps84
  go_wp2_with (go_at_call 86; refine (sign_any _ _).mono ?_; rintro e w' ⟨rfl, rfl⟩)
  go_ret
  exact ⟨rfl, rfl⟩

theorem tmod_neg_lt {n m : Int} (hm : 1 ≤ m) (h : n.tmod m < 0) : n.tmod m + m = n % m := by
  have hn : n < 0 := by
    rcases Int.lt_or_le n 0 with h' | h'
    · exact h'
    · have := Int.tmod_nonneg m h'; omega
  have e := Int.emod_eq_tmod (a := n) (b := m)
  rw [e, if_neg]
  · omega
  · intro h'
    rcases h' with h' | h'
    · omega
    · have := Int.tmod_eq_zero_of_dvd h'; omega

theorem tmod_not_lt {n m : Int} (hm : 1 ≤ m) (h : ¬ n.tmod m < 0) : n.tmod m = n % m := by
  have e := Int.emod_eq_tmod (a := n) (b := m)
  rw [e]
  split
  · omega
  · rename_i h'
    exfalso; apply h'
    rcases Int.lt_or_le n 0 with h2 | h2
    · right
      have h3 : n.tmod m ≤ 0 := by
        have := Int.tmod_nonneg m (show 0 ≤ -n by omega)
        rw [Int.neg_tmod] at this; omega
      exact Int.dvd_of_tmod_eq_zero (by omega)
    · left; exact h2

theorem tmod_bd {n m : Int} (hm : 1 ≤ m) : -m < n.tmod m ∧ n.tmod m < m := by
  constructor
  · have h := Int.lt_tmod_of_pos n (show 0 < m by omega); exact h
  · exact Int.tmod_lt_of_pos n (by omega)

theorem refMod_any (n m : Int) (w : World) (h1 : 1 ≤ m) (h2 : m ≤ 2147483648) :
    Calls Try.prog 24 #[.int .i64 n, .int .i64 m] w fun e w' => e = .returned (.int .i64 (n % m)) ∧ w' = w := by
  have hb := tmod_bd (n := n) h1
  by_cases h : n.tmod m < 0
  · have H : Hid (n.tmod m + m = n % m) := tmod_neg_lt h1 h
    go_enter Try.func24, Try.ntmps24
    go_wp2
    go_ret
    exact ⟨ret_int H.out, rfl⟩
  · have H : Hid (n.tmod m = n % m) := tmod_not_lt h1 h
    go_enter Try.func24, Try.ntmps24
    go_wp2
    go_ret
    exact ⟨ret_int H.out, rfl⟩

theorem left_any (n m : Int) (w : World) (h1 : 1 ≤ m) (h2 : m ≤ 2147483648) :
    Calls Try.prog 85 #[.int .i64 n, .int .i64 m] w fun e w' => e = .returned (.int .i64 (n % m)) ∧ w' = w := by
  have hb := tmod_bd (n := n) h1
  by_cases h : n.tmod m < 0
  · have H : Hid (n.tmod m + m = n % m) := tmod_neg_lt h1 h
    go_enter Try.func85, Try.ntmps85
    go_wp2
    go_ret
    exact ⟨ret_int H.out, rfl⟩
  · have H : Hid (n.tmod m = n % m) := tmod_not_lt h1 h
    go_enter Try.func85, Try.ntmps85
    go_wp2
    go_ret
    exact ⟨ret_int H.out, rfl⟩

/-! ### inRange: any number of numbers, which lie in a slice of 'n' cells. -/
theorem inRange_yes (b n : Nat) (f : Nat → Int) (w : World) (hn : n ≤ 2)
    (hc : ∀ k, k < n → w.cell? ⟨b, k, none⟩ = some (.int .i64 (f k)))
    (hf : ∀ k, k < n → -2147483648 ≤ f k ∧ f k ≤ 2147483648) :
    Calls Try.prog 80 #[.slice (some ⟨b, 0, none⟩) n n] w fun e w' => e = .returned (.bool true) ∧ w' = w := by
  go_enter Try.func80, Try.ntmps80
  go_wp2
  go_loop [7] (fun i => ∃ k : Nat, k ≤ n ∧ i = .int .i64 k) (fun i => n - (intOf i).toNat)
  case atStart => exact ⟨0, Nat.zero_le _, rfl⟩
  case round =>
    obtain ⟨k, hk, rfl⟩ := hrel
    by_cases hlt : k < n
    · have hcell := hc k hlt
      obtain ⟨hl, hu⟩ := hf k hlt
      clear hc hf
      go_wp2
      go_round
      case rel => exact ⟨k + 1, by omega, by go_num⟩
      case measure => simp [intOf]; omega
    · clear hc hf
      go_wp2
      go_ret
      exact ⟨rfl, rfl⟩

theorem inRange_no (b n : Nat) (f : Nat → Int) (w : World) (hn : n ≤ 2)
    (hc : ∀ k, k < n → w.cell? ⟨b, k, none⟩ = some (.int .i64 (f k)))
    (hf : ∃ k, k < n ∧ (f k < -2147483648 ∨ 2147483648 < f k)) :
    Calls Try.prog 80 #[.slice (some ⟨b, 0, none⟩) n n] w fun e w' => e = .returned (.bool false) ∧ w' = w := by
  go_enter Try.func80, Try.ntmps80
  go_wp2
  go_loop [7] (fun i => ∃ k : Nat, k ≤ n ∧ (∀ j, j < k → -2147483648 ≤ f j ∧ f j ≤ 2147483648) ∧ i = .int .i64 k) (fun i => n - (intOf i).toNat)
  case atStart => exact ⟨0, Nat.zero_le _, fun j hj => absurd hj (Nat.not_lt_zero j), rfl⟩
  case round =>
    obtain ⟨k, hk, hall, rfl⟩ := hrel
    by_cases hlt : k < n
    · have hcell := hc k hlt
      clear hc hf
      by_cases h1 : f k < -2147483648
      · clear hall
        go_wp2
        go_ret
        exact ⟨rfl, rfl⟩
      · by_cases h2 : 2147483648 < f k
        · clear hall
          go_wp2
          go_ret
          exact ⟨rfl, rfl⟩
        · have HA : Hid (∀ j, j < k → -2147483648 ≤ f j ∧ f j ≤ 2147483648) := hall
          clear hall
          go_wp2
          go_round
          case rel =>
            refine ⟨k + 1, by omega, ?_, by go_num⟩
            intro j hj
            rcases Nat.lt_succ_iff_lt_or_eq.mp hj with h | h
            · exact HA.out j h
            · subst h; exact ⟨by omega, by omega⟩
          case measure => simp [intOf]; omega
    · exfalso
      obtain ⟨j, hj, hv⟩ := hf
      have := hall j (by omega)
      omega

end Go.Proofs.Ytpnmepobdnclkaa.Calls1
