/-
  Folded: Math, Calls1, Calls2, Calls3, Calls4, Calls5, Calls6, Calls7, Calls8, Calls9, Calls19, Calls20.
-/
import Derived.Test.YtpnmepobdnclkaaRows
import Derived.WalkKit
import Derived.ProofKit
import Derived.OpenShut
import Derived.WalkSpells
import Derived.Deep.QuietTactic
import Derived.BigQuiet
import Derived.RangeFuncNested
import Derived.RangeFuncBound
import Derived.RangeFuncCalls
import Derived.RangeFuncLeaves
import Derived.Shelf.Abstract
import Derived.Shelf.RegionOpen
import Derived.OwnWalkIn
import Derived.TacticsInMore
import Derived.LoopNIn
import Derived.LoopIn
import Derived.Test.YtpnmepobdnclkaaFoldA
import Derived.Test.YtpnmepobdnclkaaFoldB
namespace Go.Proofs.Ytpnmepobdnclkaa.Math

/-- The greatest common divisor of two integers, as an integer. -/
def gg (a b : Int) : Int := (Int.gcd a b : Nat)

theorem gg_nonneg (a b : Int) : 0 ≤ gg a b := by unfold gg; omega
theorem gg_left (a b : Int) : gg a b ∣ a := Int.gcd_dvd_left a b
theorem gg_right (a b : Int) : gg a b ∣ b := Int.gcd_dvd_right a b
theorem gg_great {a b c : Int} (h1 : c ∣ a) (h2 : c ∣ b) : c ∣ gg a b := Int.dvd_coe_gcd h1 h2
theorem gg_comm (a b : Int) : gg a b = gg b a := by unfold gg; rw [Int.gcd_comm]

theorem gg_uniq {a b g : Int} (hg : 0 ≤ g) (h1 : g ∣ a) (h2 : g ∣ b) (h : ∀ c, c ∣ a → c ∣ b → c ∣ g) : gg a b = g :=
  Int.dvd_antisymm (gg_nonneg a b) hg (h _ (gg_left a b) (gg_right a b)) (gg_great h1 h2)

theorem gg_zero_right {a : Int} (h : 0 ≤ a) : gg a 0 = a :=
  gg_uniq h (Int.dvd_refl a) (Int.dvd_zero a) (fun _ h _ => h)
theorem gg_zero_left {a : Int} (h : 0 ≤ a) : gg 0 a = a := by rw [gg_comm]; exact gg_zero_right h
theorem gg_self {a : Int} (h : 0 ≤ a) : gg a a = a :=
  gg_uniq h (Int.dvd_refl a) (Int.dvd_refl a) (fun _ h _ => h)

theorem gg_step (a b q : Int) : gg b (a - q * b) = gg a b := by
  apply gg_uniq (gg_nonneg a b) (gg_right a b)
  · exact Int.dvd_sub (gg_left a b) (Int.dvd_mul_of_dvd_right (gg_right a b))
  · intro c h1 h2
    have h3 : c ∣ a := by
      have := Int.dvd_add h2 (Int.dvd_mul_of_dvd_right (b := q) h1)
      rwa [Int.sub_add_cancel] at this
    exact gg_great h3 h1

theorem gg_sub_left (a b : Int) : gg (a - b) b = gg a b := by
  have := gg_step a b 1; rw [Int.one_mul, gg_comm] at this; exact this
theorem gg_sub_right (a b : Int) : gg a (b - a) = gg a b := by
  rw [gg_comm, gg_sub_left, gg_comm]

theorem gg_pos {a b : Int} (h : a ≠ 0 ∨ b ≠ 0) : 0 < gg a b := by
  unfold gg
  rcases h with h | h
  · have := Int.gcd_pos_of_ne_zero_left b h; omega
  · have := Int.gcd_pos_of_ne_zero_right a h; omega

theorem gg_le_left {a b : Int} (h : 0 < a) : gg a b ≤ a := Int.le_of_dvd h (gg_left a b)
theorem gg_le_right {a b : Int} (h : 0 < b) : gg a b ≤ b := Int.le_of_dvd h (gg_right a b)

theorem gg_le {a b m : Int} (ha : 0 ≤ a) (hb : 0 ≤ b) (h1 : a ≤ m) (h2 : b ≤ m) : gg a b ≤ m := by
  by_cases h : a = 0
  · subst h; rw [gg_zero_left hb]; exact h2
  · have := gg_le_left (a := a) (b := b) (by omega); omega

theorem gg_abs (a b : Int) : gg (a.natAbs : Int) (b.natAbs : Int) = gg a b := by
  unfold gg; simp [Int.gcd]

theorem half_mul {a : Int} (h : a % 2 = 0) : a = 2 * (a / 2) := by omega

theorem gg_half_both {a b : Int} (ha : a % 2 = 0) (hb : b % 2 = 0) : gg a b = 2 * gg (a / 2) (b / 2) := by
  have h := Int.gcd_mul_left 2 (a / 2) (b / 2)
  rw [← half_mul ha, ← half_mul hb] at h
  unfold gg; rw [h]; simp

/-- An odd number that divides twice another divides that other. -/
theorem odd_dvd_half {g a : Int} (ho : g % 2 = 1) (ha : a % 2 = 0) (h : g ∣ a) : g ∣ a / 2 := by
  obtain ⟨k, rfl⟩ := h
  have hk : k % 2 = 0 := by
    rcases Int.emod_two_eq k with h | h
    · exact h
    · rw [Int.mul_emod, ho, h] at ha; simp at ha
  refine ⟨k / 2, ?_⟩
  have e := half_mul hk
  generalize k / 2 = m at e
  subst e
  rw [show g * (2 * m) = 2 * (g * m) by rw [← Int.mul_assoc, Int.mul_comm g 2, Int.mul_assoc]]
  omega

theorem half_dvd {a : Int} (ha : a % 2 = 0) : a / 2 ∣ a := ⟨2, by omega⟩

theorem gg_half_left {a b : Int} (ha : a % 2 = 0) (ho : gg a b % 2 = 1) : gg (a / 2) b = gg a b := by
  apply gg_uniq (gg_nonneg a b)
  · exact odd_dvd_half ho ha (gg_left a b)
  · exact gg_right a b
  · intro c h1 h2; exact gg_great (Int.dvd_trans h1 (half_dvd ha)) h2

theorem gg_half_right {a b : Int} (hb : b % 2 = 0) (ho : gg a b % 2 = 1) : gg a (b / 2) = gg a b := by
  rw [gg_comm, gg_half_left hb (by rw [gg_comm]; exact ho), gg_comm]

/-- If one of two numbers is odd, so is what divides both. -/
theorem gg_odd {a b : Int} (h : a % 2 ≠ 0 ∨ b % 2 ≠ 0) : gg a b % 2 = 1 := by
  rcases Int.emod_two_eq (gg a b) with e | e
  · have d : (2 : Int) ∣ gg a b := Int.dvd_of_emod_eq_zero e
    have d1 := Int.emod_eq_zero_of_dvd (Int.dvd_trans d (gg_left a b))
    have d2 := Int.emod_eq_zero_of_dvd (Int.dvd_trans d (gg_right a b))
    omega
  · exact e

/-! ### Euclid's extended loop -/

/-- What holds at each round's head: 'a0', 'b0' came in; 'a', 'b', 'x', 'n' are the loop's own. -/
structure Ext (a0 b0 a b x n : Int) : Prop where
  ha : 0 ≤ a
  hb : 0 ≤ b
  ga : a ≤ 2147483648
  gb : b ≤ 2147483648
  g : gg a b = gg a0 b0
  da : b0 ∣ x * a0 - a
  db : b0 ∣ n * a0 - b
  sx : (0 ≤ x ∧ n ≤ 0 ∧ x * b - n * a = b0) ∨ (x ≤ 0 ∧ 0 ≤ n ∧ n * a - x * b = b0)
  xl : -2147483648 ≤ x
  xu : x ≤ 2147483648
  nl : -2147483648 ≤ n
  nu : n ≤ 2147483648

theorem Ext.start {a b : Int} (ha : 0 ≤ a) (hb : 0 ≤ b) (ga : a ≤ 2147483648) (gb : b ≤ 2147483648) : Ext a b a b 1 0 where
  ha := ha
  hb := hb
  ga := ga
  gb := gb
  g := rfl
  da := by rw [Int.one_mul, Int.sub_self]; exact Int.dvd_zero _
  db := ⟨-1, by omega⟩
  sx := Or.inl ⟨by omega, by omega, by omega⟩
  xl := by omega
  xu := by omega
  nl := by omega
  nu := by omega

theorem mul_le_one {x y c : Int} (hx : 0 ≤ x) (hy : 1 ≤ y) (h : x * y ≤ c) : x ≤ c := by
  have h1 : x * 1 ≤ x * y := Int.mul_le_mul_of_nonneg_left hy hx
  omega

theorem Ext.next {a0 b0 a b x n : Int} (h : Ext a0 b0 a b x n) (hb : b ≠ 0) (hb0 : b0 ≤ 2147483648) :
    0 ≤ a / b ∧ a / b ≤ 2147483648 ∧ 0 ≤ a / b * b ∧ a / b * b ≤ a ∧ a - a / b * b < b ∧ -2147483648 ≤ a / b * n ∧ a / b * n ≤ 2147483648 ∧ -2147483648 ≤ x - a / b * n ∧ x - a / b * n ≤ 2147483648 ∧ Ext a0 b0 b (a - a / b * b) n (x - a / b * n) := by
  obtain ⟨ha, hb', ga, gb, g, da, db, sx, xl, xu, nl, nu⟩ := h
  have bp : 0 < b := by omega
  have q0 : 0 ≤ a / b := Int.ediv_nonneg ha hb'
  have q1 : a / b ≤ a := Int.ediv_le_self b ha
  have em : a - a / b * b = a % b := by rw [Int.mul_comm, Int.emod_def]
  have r0 : 0 ≤ a % b := Int.emod_nonneg a hb
  have r1 : a % b < b := Int.emod_lt_of_pos a bp
  generalize hq : a / b = q at *
  have qb : 0 ≤ q * b := Int.mul_nonneg q0 hb'
  have core : ((0 ≤ n ∧ x - q * n ≤ 0 ∧ n * (a - q * b) - (x - q * n) * b = b0 ∧ 0 ≤ q * n ∧ -2147483648 ≤ x - q * n ∧ x ≤ 0)
      ∨ (n ≤ 0 ∧ 0 ≤ x - q * n ∧ (x - q * n) * b - n * (a - q * b) = b0 ∧ q * n ≤ 0 ∧ x - q * n ≤ 2147483648 ∧ 0 ≤ x)) := by
    have e1 : (x - q * n) * b - n * (a - q * b) = x * b - n * a := by
      rw [Int.sub_mul, Int.mul_sub, show q * n * b = n * (q * b) by rw [Int.mul_comm q n, Int.mul_assoc]]; omega
    rcases sx with ⟨s1, s2, s3⟩ | ⟨s1, s2, s3⟩
    · right
      have qn : q * n ≤ 0 := by
        have := Int.mul_nonneg q0 (show 0 ≤ -n by omega); rw [Int.mul_neg] at this; omega
      refine ⟨s2, by omega, by omega, qn, ?_, s1⟩
      have nr : n * (a - q * b) ≤ 0 := by
        have := Int.mul_nonneg (show 0 ≤ -n by omega) (show 0 ≤ a - q * b by omega); rw [Int.neg_mul] at this; omega
      have := mul_le_one (x := x - q * n) (y := b) (c := b0) (by omega) (by omega) (by omega)
      omega
    · left
      have qn : 0 ≤ q * n := Int.mul_nonneg q0 s2
      refine ⟨s2, by omega, by omega, qn, ?_, s1⟩
      have nr : 0 ≤ n * (a - q * b) := Int.mul_nonneg s2 (by omega)
      have e2 : -(x - q * n) * b = -((x - q * n) * b) := Int.neg_mul _ _
      have := mul_le_one (x := -(x - q * n)) (y := b) (c := b0) (by omega) (by omega) (by omega)
      omega
  have dn : b0 ∣ (x - q * n) * a0 - (a - q * b) := by
    have e3 : (x - q * n) * a0 - (a - q * b) = (x * a0 - a) - q * (n * a0 - b) := by
      rw [Int.sub_mul, Int.mul_sub, Int.mul_assoc]; omega
    rw [e3]; exact Int.dvd_sub da (Int.dvd_mul_of_dvd_right db)
  have gn : gg b (a - q * b) = gg a0 b0 := by rw [gg_step]; exact g
  refine ⟨q0, by omega, qb, by omega, by omega, by omega, by omega, by omega, by omega, ?_⟩
  refine ⟨by omega, by omega, by omega, by omega, gn, db, dn, ?_, by omega, by omega, by omega, by omega⟩
  rcases core with ⟨c1, c2, c3, _, _⟩ | ⟨c1, c2, c3, _, _⟩
  · exact Or.inl ⟨c1, c2, c3⟩
  · exact Or.inr ⟨c1, c2, c3⟩

end Go.Proofs.Ytpnmepobdnclkaa.Math

namespace Go.Proofs.Ytpnmepobdnclkaa.Calls1
set_option linter.unusedVariables false
open Go.ChangeShapes Go.WideShapes Go.ChangeAt Go.RowKit Go.Proofs.Ytpnmepobdnclkaa.Math

def sg (n : Int) : Int := if n < 0 then -1 else if 0 < n then 1 else 0

theorem sg_neg {n : Int} (h : n < 0) : sg n = -1 := by unfold sg; rw [if_pos h]
theorem sg_pos {n : Int} (h : 0 < n) : sg n = 1 := by unfold sg; rw [if_neg (by omega), if_pos h]
theorem sg_zero : sg 0 = 0 := rfl

theorem sign_any (n : Int) (w : World) :
    Calls Try.prog 86 #[.int .i64 n] w fun e w' => e = .returned (.int .i64 (sg n)) ∧ w' = w := by
  by_cases h : n < 0
  · rw [sg_neg h]
    go_enter Try.func86, Try.ntmps86
    go_wp2
    go_ret
    exact ⟨rfl, rfl⟩
  · by_cases h2 : 0 < n
    · rw [sg_pos h2]
      go_enter Try.func86, Try.ntmps86
      go_wp2
      go_ret
      exact ⟨rfl, rfl⟩
    · have e : n = 0 := by omega
      subst e
      rw [sg_zero]
      go_enter Try.func86, Try.ntmps86
      go_wp2
      go_ret
      exact ⟨rfl, rfl⟩

theorem ret_int {k : IntKind} {a b : Int} (h : a = b) : Ending.returned (.int k a) = .returned (.int k b) := by rw [h]

theorem ret_bool {a b : Bool} (h : a = b) : Ending.returned (.bool a) = .returned (.bool b) := by rw [h]

theorem abs_any (n : Int) (w : World) (h1 : -2147483648 ≤ n) (h2 : n ≤ 2147483648) :
    Calls Try.prog 84 #[.int .i64 n] w fun e w' => e = .returned (.int .i64 (n.natAbs : Int)) ∧ w' = w := by
  have hs : n * sg n = (n.natAbs : Int) := by
    unfold sg; split
    · omega
    · split <;> omega
  have hb : n * sg n ≤ 2147483648 := by omega
  have hc : 0 ≤ n * sg n := by omega
  rw [← hs]; clear hs
  go_enter Try.func84, Try.ntmps84
  go_wp2_with (go_at_call 86; refine (sign_any _ _).mono ?_; rintro e w' ⟨rfl, rfl⟩)
  go_ret
  exact ⟨rfl, rfl⟩

theorem tmod_neg_lt {n m : Int} (hm : 1 ≤ m) (h : n.tmod m < 0) : n.tmod m + m = n % m := by
  have hn : n < 0 := by
    rcases Int.lt_or_le n 0 with h' | h'
    · exact h'
    · have := Int.tmod_nonneg m h'; omega
  have e := Int.emod_eq_tmod (a := n) (b := m)
  rw [e, if_neg]
  · omega
  · intro h'
    rcases h' with h' | h'
    · omega
    · have := Int.tmod_eq_zero_of_dvd h'; omega

theorem tmod_not_lt {n m : Int} (hm : 1 ≤ m) (h : ¬ n.tmod m < 0) : n.tmod m = n % m := by
  have e := Int.emod_eq_tmod (a := n) (b := m)
  rw [e]
  split
  · omega
  · rename_i h'
    exfalso; apply h'
    rcases Int.lt_or_le n 0 with h2 | h2
    · right
      have h3 : n.tmod m ≤ 0 := by
        have := Int.tmod_nonneg m (show 0 ≤ -n by omega)
        rw [Int.neg_tmod] at this; omega
      exact Int.dvd_of_tmod_eq_zero (by omega)
    · left; exact h2

theorem tmod_bd {n m : Int} (hm : 1 ≤ m) : -m < n.tmod m ∧ n.tmod m < m := by
  constructor
  · have h := Int.lt_tmod_of_pos n (show 0 < m by omega); exact h
  · exact Int.tmod_lt_of_pos n (by omega)

theorem refMod_any (n m : Int) (w : World) (h1 : 1 ≤ m) (h2 : m ≤ 2147483648) :
    Calls Try.prog 24 #[.int .i64 n, .int .i64 m] w fun e w' => e = .returned (.int .i64 (n % m)) ∧ w' = w := by
  have hb := tmod_bd (n := n) h1
  by_cases h : n.tmod m < 0
  · have H : Hid (n.tmod m + m = n % m) := tmod_neg_lt h1 h
    go_enter Try.func24, Try.ntmps24
    go_wp2
    go_ret
    exact ⟨ret_int H.out, rfl⟩
  · have H : Hid (n.tmod m = n % m) := tmod_not_lt h1 h
    go_enter Try.func24, Try.ntmps24
    go_wp2
    go_ret
    exact ⟨ret_int H.out, rfl⟩

theorem left_any (n m : Int) (w : World) (h1 : 1 ≤ m) (h2 : m ≤ 2147483648) :
    Calls Try.prog 85 #[.int .i64 n, .int .i64 m] w fun e w' => e = .returned (.int .i64 (n % m)) ∧ w' = w := by
  have hb := tmod_bd (n := n) h1
  by_cases h : n.tmod m < 0
  · have H : Hid (n.tmod m + m = n % m) := tmod_neg_lt h1 h
    go_enter Try.func85, Try.ntmps85
    go_wp2
    go_ret
    exact ⟨ret_int H.out, rfl⟩
  · have H : Hid (n.tmod m = n % m) := tmod_not_lt h1 h
    go_enter Try.func85, Try.ntmps85
    go_wp2
    go_ret
    exact ⟨ret_int H.out, rfl⟩

/-! ### inRange: any number of numbers, which lie in a slice of 'n' cells. -/
theorem inRange_yes (b n : Nat) (f : Nat → Int) (w : World) (hn : n ≤ 2)
    (hc : ∀ k, k < n → w.cell? ⟨b, k, none⟩ = some (.int .i64 (f k)))
    (hf : ∀ k, k < n → -2147483648 ≤ f k ∧ f k ≤ 2147483648) :
    Calls Try.prog 80 #[.slice (some ⟨b, 0, none⟩) n n] w fun e w' => e = .returned (.bool true) ∧ w' = w := by
  go_enter Try.func80, Try.ntmps80
  go_wp2
  go_loop [7] (fun i => ∃ k : Nat, k ≤ n ∧ i = .int .i64 k) (fun i => n - (intOf i).toNat)
  case atStart => exact ⟨0, Nat.zero_le _, rfl⟩
  case round =>
    obtain ⟨k, hk, rfl⟩ := hrel
    by_cases hlt : k < n
    · have hcell := hc k hlt
      obtain ⟨hl, hu⟩ := hf k hlt
      clear hc hf
      go_wp2
      go_round
      case rel => exact ⟨k + 1, by omega, by go_num⟩
      case measure => simp [intOf]; omega
    · clear hc hf
      go_wp2
      go_ret
      exact ⟨rfl, rfl⟩

theorem inRange_no (b n : Nat) (f : Nat → Int) (w : World) (hn : n ≤ 2)
    (hc : ∀ k, k < n → w.cell? ⟨b, k, none⟩ = some (.int .i64 (f k)))
    (hf : ∃ k, k < n ∧ (f k < -2147483648 ∨ 2147483648 < f k)) :
    Calls Try.prog 80 #[.slice (some ⟨b, 0, none⟩) n n] w fun e w' => e = .returned (.bool false) ∧ w' = w := by
  go_enter Try.func80, Try.ntmps80
  go_wp2
  go_loop [7] (fun i => ∃ k : Nat, k ≤ n ∧ (∀ j, j < k → -2147483648 ≤ f j ∧ f j ≤ 2147483648) ∧ i = .int .i64 k) (fun i => n - (intOf i).toNat)
  case atStart => exact ⟨0, Nat.zero_le _, fun j hj => absurd hj (Nat.not_lt_zero j), rfl⟩
  case round =>
    obtain ⟨k, hk, hall, rfl⟩ := hrel
    by_cases hlt : k < n
    · have hcell := hc k hlt
      clear hc hf
      by_cases h1 : f k < -2147483648
      · clear hall
        go_wp2
        go_ret
        exact ⟨rfl, rfl⟩
      · by_cases h2 : 2147483648 < f k
        · clear hall
          go_wp2
          go_ret
          exact ⟨rfl, rfl⟩
        · have HA : Hid (∀ j, j < k → -2147483648 ≤ f j ∧ f j ≤ 2147483648) := hall
          clear hall
          go_wp2
          go_round
          case rel =>
            refine ⟨k + 1, by omega, ?_, by go_num⟩
            intro j hj
            rcases Nat.lt_succ_iff_lt_or_eq.mp hj with h | h
            · exact HA.out j h
            · subst h; exact ⟨by omega, by omega⟩
          case measure => simp [intOf]; omega
    · exfalso
      obtain ⟨j, hj, hv⟩ := hf
      have := hall j (by omega)
      omega

end Go.Proofs.Ytpnmepobdnclkaa.Calls1

namespace Go.Proofs.Ytpnmepobdnclkaa.Calls2
set_option linter.unusedVariables false
open Go.ChangeShapes Go.WideShapes Go.ChangeAt Go.RowKit Go.Proofs.Ytpnmepobdnclkaa.Math Go.Proofs.Ytpnmepobdnclkaa.Calls1

theorem extend_any (a b : Int) (w : World) (ha : 0 ≤ a) (hb : 0 ≤ b) (ga : a ≤ 2147483648) (gb : b ≤ 2147483648) :
    Calls Try.prog 83 #[.int .i64 a, .int .i64 b] w fun e w' =>
      ∃ x : Int, e = .returned (.tuple #[.int .i64 (gg a b), .int .i64 x]) ∧ -2147483648 ≤ x ∧ x ≤ 2147483648 ∧ b ∣ x * a - gg a b ∧ w' = w := by
  have H0 : Hid (Ext a b a b 1 0) := Ext.start ha hb ga gb
  go_enter Try.func83, Try.ntmps83
  go_wp2
  go_loop [0, 1, 6, 7] (fun ta tb tx tn => ∃ p q x n : Int, ta = .int .i64 p ∧ tb = .int .i64 q ∧ tx = .int .i64 x ∧ tn = .int .i64 n ∧ Hid (Ext a b p q x n)) (fun _ tb _ _ => (intOf tb).toNat)
  case atStart => exact ⟨a, b, 1, 0, rfl, rfl, rfl, rfl, H0⟩
  case round =>
    obtain ⟨p, q, x, n, rfl, rfl, rfl, rfl, H⟩ := hrel
    clear H0
    by_cases hq : q = 0
    · subst hq
      have hg : Hid (p = gg a b) := by
        have := H.out.g; rw [gg_zero_right H.out.ha] at this; exact this
      go_wp2
      go_ret2
      refine ⟨x, ?_, H.out.xl, H.out.xu, ?_, rfl⟩
      · rw [← hg.out]; rfl
      · rw [← hg.out]; exact H.out.da
    · obtain ⟨q0, q1, qb0, qb1, r1, qn0, qn1, xn0, xn1, hx⟩ := H.out.next hq gb
      have hp0 := H.out.ha
      have hp1 := H.out.ga
      have hq0 := H.out.hb
      have hq1 := H.out.gb
      have H2 : Hid (Ext a b q (p - p / q * q) n (x - p / q * n)) := hx
      clear hx
      go_wp2
      go_round
      case rel => exact ⟨q, p - p / q * q, n, x - p / q * n, rfl, rfl, rfl, rfl, H2⟩
      case measure => simp [intOf]; omega

end Go.Proofs.Ytpnmepobdnclkaa.Calls2

namespace Go.Proofs.Ytpnmepobdnclkaa.Calls3
set_option linter.unusedVariables false
open Go.ChangeShapes Go.WideShapes Go.ChangeAt Go.RowKit Go.Proofs.Ytpnmepobdnclkaa.Math Go.Proofs.Ytpnmepobdnclkaa.Calls1 Go.Proofs.Ytpnmepobdnclkaa.Calls2

theorem grown_trans {a b c : World} (h1 : Grown a b) (h2 : Grown b c) : Grown a c :=
  ⟨World.keptBut_trans h1.1 h2.1, fun x => (h2.2.1 x).trans (h1.2.1 x), Nat.le_trans h1.2.2 h2.2.2⟩
theorem grown_drewN {a b : World} (h : Grown a b) (n : Nat) : Grown a (b.drewN n) := by
  induction n generalizing b with
  | zero => exact h
  | succ n ih => exact ih h.drew

def near (a : Int) : Prop := -2147483648 ≤ a ∧ a ≤ 2147483648
def far (a : Int) : Prop := a < -2147483648 ∨ 2147483648 < a

def pair (a b : Int) (k : Nat) : Int := if k = 0 then a else b

theorem two_yes (a b : Int) (w : World) (ha1 : -2147483648 ≤ a) (ha2 : a ≤ 2147483648) (hb1 : -2147483648 ≤ b) (hb2 : b ≤ 2147483648) :
    Calls Try.prog 80 #[.slice (some ⟨w.heap.size, 0, none⟩) 2 2] (w.alloc (.cells #[.int .i64 a, .int .i64 b] 2)) fun e w' => e = .returned (.bool true) ∧ w' = w.alloc (.cells #[.int .i64 a, .int .i64 b] 2) := by
  refine inRange_yes w.heap.size 2 (pair a b) _ (Nat.le_refl _) ?_ ?_
  · intro k hk
    match k, hk with
    | 0, _ => simp [pair]
    | 1, _ => simp [pair]
  · intro k hk
    unfold pair; split <;> omega

theorem two_no (a b : Int) (w : World) (h : (a < -2147483648 ∨ 2147483648 < a) ∨ (b < -2147483648 ∨ 2147483648 < b)) :
    Calls Try.prog 80 #[.slice (some ⟨w.heap.size, 0, none⟩) 2 2] (w.alloc (.cells #[.int .i64 a, .int .i64 b] 2)) fun e w' => e = .returned (.bool false) ∧ w' = w.alloc (.cells #[.int .i64 a, .int .i64 b] 2) := by
  refine inRange_no w.heap.size 2 (pair a b) _ (Nat.le_refl _) ?_ ?_
  · intro k hk
    match k, hk with
    | 0, _ => simp [pair]
    | 1, _ => simp [pair]
  · rcases h with h | h
    · exact ⟨0, by omega, by simpa [pair] using h⟩
    · exact ⟨1, by omega, by simpa [pair] using h⟩

/-- The least common multiple, as the program reckons it. -/
def ll (a b : Int) : Int := (a.natAbs : Int) / gg a b * (b.natAbs : Int)

theorem ll_bd {a b : Int} (h : a ≠ 0 ∨ b ≠ 0) (ha1 : -2147483648 ≤ a) (ha2 : a ≤ 2147483648) (hb1 : -2147483648 ≤ b) (hb2 : b ≤ 2147483648) :
    1 ≤ gg a b ∧ 0 ≤ (a.natAbs : Int) / gg a b ∧ (a.natAbs : Int) / gg a b ≤ 2147483648 ∧ 0 ≤ ll a b ∧ ll a b ≤ 4611686018427387904 := by
  have g := gg_pos h
  have q0 : 0 ≤ (a.natAbs : Int) / gg a b := Int.ediv_nonneg (by omega) (by omega)
  have q1 : (a.natAbs : Int) / gg a b ≤ a.natAbs := Int.ediv_le_self _ (by omega)
  refine ⟨g, q0, by omega, Int.mul_nonneg q0 (by omega), ?_⟩
  have := Int.mul_le_mul (show (a.natAbs : Int) / gg a b ≤ 2147483648 by omega) (show (b.natAbs : Int) ≤ 2147483648 by omega) (by omega) (by omega)
  unfold ll; omega

theorem ll_zero_left (b : Int) : ll 0 b = 0 := by unfold ll; simp
theorem ll_zero_right (a : Int) : ll a 0 = 0 := by unfold ll; simp

end Go.Proofs.Ytpnmepobdnclkaa.Calls3

namespace Go.Proofs.Ytpnmepobdnclkaa.Calls4
set_option linter.unusedVariables false
open Go.ChangeShapes Go.WideShapes Go.ChangeAt Go.RowKit Go.Proofs.Ytpnmepobdnclkaa.Math Go.Proofs.Ytpnmepobdnclkaa.Calls1 Go.Proofs.Ytpnmepobdnclkaa.Calls2 Go.Proofs.Ytpnmepobdnclkaa.Calls3

/-- What holds at the head of each of the two loops. -/
structure Bin (a0 b0 a b t : Int) : Prop where
  ha : 1 ≤ a
  hb : 1 ≤ b
  ht : 1 ≤ t
  ga : a ≤ 2147483648
  gb : b ≤ 2147483648
  gt : a * t ≤ 2147483648
  g : gg a b * t = gg a0 b0

theorem Bin.start {a b : Int} (ha : 1 ≤ a) (hb : 1 ≤ b) (ga : a ≤ 2147483648) (gb : b ≤ 2147483648) : Bin a b a b 1 :=
  ⟨ha, hb, by omega, ga, gb, by omega, by omega⟩

theorem Bin.t_le {a0 b0 a b t : Int} (h : Bin a0 b0 a b t) : t ≤ 2147483648 := by
  have := mul_le_one (x := t) (y := a) (c := 2147483648) (by have := h.ht; omega) h.ha (by rw [Int.mul_comm]; exact h.gt)
  exact this

theorem Bin.both {a0 b0 a b t : Int} (h : Bin a0 b0 a b t) (h1 : a % 2 = 0) (h2 : b % 2 = 0) : Bin a0 b0 (a / 2) (b / 2) (t * 2) := by
  have hg := gg_half_both h1 h2
  have e : a / 2 * (t * 2) = a * t := by
    have := half_mul h1
    rw [show a / 2 * (t * 2) = (2 * (a / 2)) * t by rw [Int.mul_comm t 2, ← Int.mul_assoc, Int.mul_comm (a / 2) 2], ← this]
  have e2 : gg (a / 2) (b / 2) * (t * 2) = gg a b * t := by
    rw [hg, Int.mul_comm t 2, ← Int.mul_assoc, Int.mul_comm _ 2]
  obtain ⟨ha, hb, ht, ga, gb, gt, g⟩ := h
  exact ⟨by omega, by omega, by omega, by omega, by omega, by omega, by omega⟩

theorem mul_mono {a b t : Int} (h : a ≤ b) (ht : 1 ≤ t) : a * t ≤ b * t := Int.mul_le_mul_of_nonneg_right h (by omega)

theorem Bin.left {a0 b0 a b t : Int} (h : Bin a0 b0 a b t) (ho : gg a b % 2 = 1) (h1 : a % 2 = 0) : Bin a0 b0 (a / 2) b t ∧ gg (a / 2) b % 2 = 1 := by
  obtain ⟨ha, hb, ht, ga, gb, gt, g⟩ := h
  have hg := gg_half_left h1 ho
  have m := mul_mono (a := a / 2) (b := a) (by omega) ht
  exact ⟨⟨by omega, by omega, by omega, by omega, by omega, by omega, by rw [hg]; exact g⟩, by rw [hg]; exact ho⟩

theorem Bin.right {a0 b0 a b t : Int} (h : Bin a0 b0 a b t) (ho : gg a b % 2 = 1) (h1 : b % 2 = 0) : Bin a0 b0 a (b / 2) t ∧ gg a (b / 2) % 2 = 1 := by
  obtain ⟨ha, hb, ht, ga, gb, gt, g⟩ := h
  have hg := gg_half_right h1 ho
  exact ⟨⟨by omega, by omega, by omega, by omega, by omega, by omega, by rw [hg]; exact g⟩, by rw [hg]; exact ho⟩

theorem Bin.subl {a0 b0 a b t : Int} (h : Bin a0 b0 a b t) (ho : gg a b % 2 = 1) (h1 : b < a) : Bin a0 b0 (a - b) b t ∧ gg (a - b) b % 2 = 1 := by
  obtain ⟨ha, hb, ht, ga, gb, gt, g⟩ := h
  have hg := gg_sub_left a b
  have m := mul_mono (a := a - b) (b := a) (by omega) ht
  exact ⟨⟨by omega, by omega, by omega, by omega, by omega, by omega, by rw [hg]; exact g⟩, by rw [hg]; exact ho⟩

theorem Bin.subr {a0 b0 a b t : Int} (h : Bin a0 b0 a b t) (ho : gg a b % 2 = 1) (h1 : a < b) : Bin a0 b0 a (b - a) t ∧ gg a (b - a) % 2 = 1 := by
  obtain ⟨ha, hb, ht, ga, gb, gt, g⟩ := h
  have hg := gg_sub_right a b
  exact ⟨⟨by omega, by omega, by omega, by omega, by omega, by omega, by rw [hg]; exact g⟩, by rw [hg]; exact ho⟩

theorem Bin.done {a0 b0 a t : Int} (h : Bin a0 b0 a a t) : a * t = gg a0 b0 := by
  have := h.g; rw [gg_self (by have := h.ha; omega)] at this; exact this

end Go.Proofs.Ytpnmepobdnclkaa.Calls4

namespace Go.Proofs.Ytpnmepobdnclkaa.Calls5
set_option linter.unusedVariables false
open Go.ChangeShapes Go.WideShapes Go.ChangeAt Go.RowKit Go.Proofs.Ytpnmepobdnclkaa.Math Go.Proofs.Ytpnmepobdnclkaa.Calls1 Go.Proofs.Ytpnmepobdnclkaa.Calls2 Go.Proofs.Ytpnmepobdnclkaa.Calls3 Go.Proofs.Ytpnmepobdnclkaa.Calls4

end Go.Proofs.Ytpnmepobdnclkaa.Calls5

namespace Go.Proofs.Ytpnmepobdnclkaa.Calls6
set_option linter.unusedVariables false
open Go.ChangeShapes Go.WideShapes Go.ChangeAt Go.RowKit Go.Proofs.Ytpnmepobdnclkaa.Math Go.Proofs.Ytpnmepobdnclkaa.Calls1 Go.Proofs.Ytpnmepobdnclkaa.Calls2 Go.Proofs.Ytpnmepobdnclkaa.Calls3 Go.Proofs.Ytpnmepobdnclkaa.Calls4 Go.Proofs.Ytpnmepobdnclkaa.Calls5

theorem hid {p : Prop} (h : p) : Hid p := h

/-! ### plain arithmetic -/

theorem sg_mul (a : Int) : sg a * a = (a.natAbs : Int) := by
  unfold sg; split
  · omega
  · split <;> omega

theorem mul_sg_bd {x a : Int} (h1 : -2147483648 ≤ x) (h2 : x ≤ 2147483648) : -2147483648 ≤ x * sg a ∧ x * sg a ≤ 2147483648 := by
  unfold sg; split
  · omega
  · split <;> omega

theorem quot_bd {a b : Int} (hb : b ≠ 0) : 1 ≤ gg a b ∧ 1 ≤ (b.natAbs : Int) / gg a b ∧ (b.natAbs : Int) / gg a b ≤ b.natAbs := by
  have g := gg_pos (a := a) (Or.inr hb)
  have d : gg a b ∣ (b.natAbs : Int) := Int.dvd_natAbs.mpr (gg_right a b)
  refine ⟨g, ?_, Int.ediv_le_self _ (by omega)⟩
  have := Int.ediv_pos_of_pos_of_dvd (a := (b.natAbs : Int)) (b := gg a b) (by omega) (by omega) d
  omega

theorem least_ok {a b x0 : Int} (hb : b ≠ 0) (h : (b.natAbs : Int) ∣ x0 * a.natAbs - gg a b) :
    0 ≤ (x0 * sg a) % ((b.natAbs : Int) / gg a b) ∧ (x0 * sg a) % ((b.natAbs : Int) / gg a b) < (b.natAbs : Int) / gg a b ∧
      b ∣ (x0 * sg a) % ((b.natAbs : Int) / gg a b) * a - gg a b := by
  obtain ⟨g, m1, m2⟩ := quot_bd (a := a) hb
  have d : gg a b ∣ (b.natAbs : Int) := Int.dvd_natAbs.mpr (gg_right a b)
  have em : (b.natAbs : Int) / gg a b * gg a b = (b.natAbs : Int) := Int.ediv_mul_cancel d
  obtain ⟨a', ea⟩ := gg_left a b
  generalize hG : gg a b = G at *
  generalize hM : (b.natAbs : Int) / G = m at *
  refine ⟨Int.emod_nonneg _ (by omega), Int.emod_lt_of_pos _ (by omega), ?_⟩
  apply Int.natAbs_dvd.mp
  have e1 : x0 * sg a * a = x0 * (a.natAbs : Int) := by rw [Int.mul_assoc, sg_mul]
  have e2 : (x0 * sg a) % m * a - G = (x0 * (a.natAbs : Int) - G) - m * (x0 * sg a / m) * a := by
    rw [Int.emod_def, Int.sub_mul, e1]; omega
  rw [e2]
  refine Int.dvd_sub h ⟨x0 * sg a / m * a', ?_⟩
  rw [← em]
  generalize x0 * sg a / m = k
  conv => lhs; rw [ea]
  ac_rfl

/-! ### the program -/

theorem leastFactor_any (a b : Int) (w : World) (hb : b ≠ 0) (ha1 : -2147483648 ≤ a) (ha2 : a ≤ 2147483648) (hb1 : -2147483648 ≤ b) (hb2 : b ≤ 2147483648) :
    Calls Try.prog 81 #[.int .i64 a, .int .i64 b] w fun e w' =>
      ∃ x : Int, e = .returned (.tuple #[.int .i64 (gg a b), .int .i64 x]) ∧ 0 ≤ x ∧ x < (b.natAbs : Int) / gg a b ∧ b ∣ x * a - gg a b ∧ w' = w := by
  obtain ⟨g1, m1, m2⟩ := quot_bd (a := a) hb
  have H := gg_abs a b
  have HL := fun (x0 : Int) (h : (b.natAbs : Int) ∣ x0 * a.natAbs - gg a.natAbs b.natAbs) => least_ok (a := a) (b := b) (x0 := x0) hb (by rw [← gg_abs a b]; exact h)
  rw [← H] at g1 m1 m2 HL ⊢
  have HL' := hid HL
  clear H HL
  have m0 : ¬ gg (a.natAbs : Int) (b.natAbs : Int) = 0 := by omega
  clear hb
  go_enter Try.func81, Try.ntmps81
  go_wp2_with (first
    | (go_at_call 86; refine (sign_any _ _).mono ?_; rintro e w' ⟨rfl, rfl⟩)
    | (go_at_call 85; refine (left_any _ _ _ (by omega) (by omega)).mono ?_; rintro e w' ⟨rfl, rfl⟩)
    | (go_at_call 84; refine (abs_any _ _ (by omega) (by omega)).mono ?_; rintro e w' ⟨rfl, rfl⟩)
    | (go_at_call 83; refine (extend_any _ _ _ (by omega) (by omega) (by omega) (by omega)).mono ?_; rintro e w' ⟨x, rfl, hx1, hx2, hx3, rfl⟩; have HX := hid hx3; clear hx3; obtain ⟨sl, su⟩ := mul_sg_bd (a := a) hx1 hx2))
  go_ret2
  obtain ⟨r1, r2, r3⟩ := HL'.out _ HX.out
  exact ⟨_, rfl, r1, r2, r3, rfl⟩

theorem prod_bd {x a m : Int} (h0 : 0 ≤ x) (h1 : x < m) (h2 : m ≤ 2147483648) (ha1 : -2147483648 ≤ a) (ha2 : a ≤ 2147483648) :
    -4611686018427387904 ≤ x * a ∧ x * a ≤ 4611686018427387904 := by
  have u := Int.mul_le_mul_of_nonneg_left ha2 h0
  have l := Int.mul_le_mul_of_nonneg_left ha1 h0
  omega

theorem quo_bd {z b : Int} (h1 : -9000000000000000000 ≤ z) (h2 : z ≤ 9000000000000000000) : -9000000000000000000 ≤ z.tdiv b ∧ z.tdiv b ≤ 9000000000000000000 := by
  have h : (z.tdiv b).natAbs ≤ z.natAbs := by
    rw [Int.natAbs_tdiv]; exact Nat.div_le_self _ _
  omega

theorem one_yes (a : Int) (w : World) (ha1 : -2147483648 ≤ a) (ha2 : a ≤ 2147483648) :
    Calls Try.prog 80 #[.slice (some ⟨w.heap.size, 0, none⟩) 1 1] (w.alloc (.cells #[.int .i64 a] 2)) fun e w' => e = .returned (.bool true) ∧ w' = w.alloc (.cells #[.int .i64 a] 2) := by
  refine inRange_yes w.heap.size 1 (fun _ => a) _ (by omega) ?_ ?_
  · intro k hk
    match k, hk with
    | 0, _ => simp
  · intro k hk
    exact ⟨ha1, ha2⟩

theorem one_no (a : Int) (w : World) (h : a < -2147483648 ∨ 2147483648 < a) :
    Calls Try.prog 80 #[.slice (some ⟨w.heap.size, 0, none⟩) 1 1] (w.alloc (.cells #[.int .i64 a] 2)) fun e w' => e = .returned (.bool false) ∧ w' = w.alloc (.cells #[.int .i64 a] 2) := by
  refine inRange_no w.heap.size 1 (fun _ => a) _ (by omega) ?_ ?_
  · intro k hk
    match k, hk with
    | 0, _ => simp
  · exact ⟨0, by omega, h⟩

theorem Inverse_far (a m : Int) (w : World) (h : a < -2147483648 ∨ 2147483648 < a) :
    Calls Try.prog 74 #[.int .i64 a, .int .i64 m] w fun e w' =>
      e = .returned (.tuple #[.int .i64 0, .int .i64 2]) ∧ Grown w w' := by
  have H := hid h
  clear h
  go_enter Try.func74, Try.ntmps74
  go_wp2_with (go_at_call 80; refine (one_no a _ H.out).mono ?_; rintro e w' ⟨rfl, rfl⟩)
  go_ret2
  exact ⟨rfl, (Grown.refl _).alloc _ _⟩

theorem Inverse_mod (a m : Int) (w : World) (ha1 : -2147483648 ≤ a) (ha2 : a ≤ 2147483648) (h : m < 1 ∨ 1048576 < m) :
    Calls Try.prog 74 #[.int .i64 a, .int .i64 m] w fun e w' =>
      e = .returned (.tuple #[.int .i64 0, .int .i64 2]) ∧ Grown w w' := by
  by_cases h1 : m < 1
  · have d1 : decide (m < 1) = true := by simpa using h1
    clear h h1
    go_enter Try.func74, Try.ntmps74
    go_wp2_with (go_at_call 80; refine (one_yes a _ ha1 ha2).mono ?_; rintro e w' ⟨rfl, rfl⟩)
    go_ret2
    exact ⟨rfl, (Grown.refl _).alloc _ _⟩
  · have d1 : decide (m < 1) = false := by simpa using h1
    have d2 : decide (1048576 < m) = true := by simp; omega
    clear h h1
    go_enter Try.func74, Try.ntmps74
    go_wp2_with (go_at_call 80; refine (one_yes a _ ha1 ha2).mono ?_; rintro e w' ⟨rfl, rfl⟩)
    go_ret2
    exact ⟨rfl, (Grown.refl _).alloc _ _⟩

theorem Inverse_none (a m : Int) (w : World) (ha1 : -2147483648 ≤ a) (ha2 : a ≤ 2147483648) (h1 : 1 ≤ m) (h2 : m ≤ 1048576) (hg : gg a m ≠ 1) :
    Calls Try.prog 74 #[.int .i64 a, .int .i64 m] w fun e w' =>
      e = .returned (.tuple #[.int .i64 0, .int .i64 5]) ∧ Grown w w' := by
  have d1 : decide (m < 1) = false := by simp; omega
  have d2 : decide (1048576 < m) = false := by simp; omega
  have hg1 : (gg a m == 1) = false := by simpa using hg
  clear hg
  go_enter Try.func74, Try.ntmps74
  go_wp2_with (first
    | (go_at_call 80; refine (one_yes a _ ha1 ha2).mono ?_; rintro e w' ⟨rfl, rfl⟩)
    | (go_at_call 81; refine (leastFactor_any _ _ _ (by omega) ha1 ha2 (by omega) (by omega)).mono ?_; rintro e w' ⟨x, rfl, hx1, hx2, hx3, rfl⟩; clear hx3))
  go_ret2
  exact ⟨rfl, (Grown.refl _).alloc _ _⟩

theorem Inverse_yes (a m : Int) (w : World) (ha1 : -2147483648 ≤ a) (ha2 : a ≤ 2147483648) (h1 : 1 ≤ m) (h2 : m ≤ 1048576) (hg : gg a m = 1) :
    Calls Try.prog 74 #[.int .i64 a, .int .i64 m] w fun e w' =>
      ∃ x : Int, e = .returned (.tuple #[.int .i64 x, .int .i64 0]) ∧ 0 ≤ x ∧ x < m ∧ m ∣ x * a - 1 ∧ Grown w w' := by
  have d1 : decide (m < 1) = false := by simp; omega
  have d2 : decide (1048576 < m) = false := by simp; omega
  have hm : (m.natAbs : Int) / 1 = m := by omega
  have HG := hid hg
  have HM := hid hm
  clear hg hm
  go_enter Try.func74, Try.ntmps74
  go_wp2_with (first
    | (go_at_call 80; refine (one_yes a _ ha1 ha2).mono ?_; rintro e w' ⟨rfl, rfl⟩)
    | (go_at_call 81; refine (leastFactor_any _ _ _ (by omega) ha1 ha2 (by omega) (by omega)).mono ?_; rw [HG.out, HM.out]; rintro e w' ⟨x, rfl, hx1, hx2, hx3, rfl⟩; have HX := hid hx3; clear hx3))
  go_ret2
  exact ⟨x, rfl, hx1, hx2, HX.out, (Grown.refl _).alloc _ _⟩

end Go.Proofs.Ytpnmepobdnclkaa.Calls6

namespace Go.Proofs.Ytpnmepobdnclkaa.Calls7
set_option linter.unusedVariables false
open Go.RowKit Go.Shelf Go.Proofs.Ytpnmepobdnclkaa.Num

attribute [local go_sem] Oper.semAt_some

/-- A prime power as it comes: the bounds that every one keeps. -/
abbrev PK := { x : Nat × Nat // 2 ≤ x.1 ∧ x.1 ≤ 1048576 ∧ 1 ≤ x.2 ∧ x.2 ≤ 20 }

def vals (l : List PK) : List (Nat × Nat) := l.map (·.1)

theorem vals_snoc (l : List PK) (x : PK) : vals (l ++ [x]) = vals l ++ [x.1] := by simp [vals]

theorem vals_length (l : List PK) : (vals l).length = l.length := by simp [vals]

abbrev encP (x : PK) : Value := .agg #[.int .i64 (x.1.1 : Int), .int .i64 (x.1.2 : Int)]

theorem powers_in (F : Fence) (n : Nat) (hf : F.fn 78) (hro : F.round = none) (m : Int) (w : World) :
    CallsIn F n Try.prog 78 #[.int .i64 m] w fun e w' => e = .returned (.func (.func 82) #[] #[.pointer (some ⟨w.heap.size, 0, none⟩)]) ∧ w' = w.alloc (.cells #[.int .i64 m] 2) := by
  refine callsIn_of_wp Try.func78 rfl hf ?_ hro
  simp only [Try.ntmps78, List.size_toArray, List.length_cons, List.length_nil, Nat.reduceAdd, Nat.reduceSub, Array.replicate_succ, Array.replicate_zero, List.push_toArray, List.append_toArray, List.nil_append, List.cons_append]
  gi_wp2
  go_ret
  exact ⟨rfl, rfl⟩

theorem tmod_nat (a b : Nat) : Int.tmod (a : Int) (b : Int) = ((a % b : Nat) : Int) := by
  rw [Int.ofNat_tmod]

theorem tdiv_nat (a b : Nat) : Int.tdiv (a : Int) (b : Int) = ((a / b : Nat) : Int) := by
  rw [Int.ofNat_tdiv]

theorem meas {p : Nat} (h : p ≤ 1024) : (1048577 - ((p : Int) + 1)).toNat < (1048577 - (p : Int)).toNat := by omega

set_option maxRecDepth 100000 in
set_option maxHeartbeats 2000000 in
theorem powers1_in (F : Fence) (n : Nat) (hf : F.fn 82) (hro : F.round = none) (hn : 1 ≤ n) (l Bn m : Nat) (hm1 : 1 ≤ m) (hm2 : m ≤ 1048576) (J Jx : List PK → World → Prop) (Kp : World → World → Prop)
    (hY : ∀ pre x W, J pre W → pre.length < 8 → YieldAt F (n - 1) Try.prog l #[encP x] W fun e W' =>
      (e = .returned (.bool true) ∧ J (pre ++ [x]) W' ∧ Kp W W') ∨ (e = .returned (.bool false) ∧ Jx (pre ++ [x]) W'))
    (W : World) (hBn : W.cell? ⟨Bn, 0, none⟩ = some (.int .i64 (m : Int))) (h0 : J [] W) :
    CallsIn F n Try.prog 82 #[.func (.yield l) #[] #[], .pointer (some ⟨Bn, 0, none⟩)] W fun e W' => (∃ v, e = .returned v) ∧
      ((∃ ys, Fac m (vals ys) ∧ J ys W') ∨ (∃ pre, (∃ rest, Fac m (vals pre ++ rest)) ∧ Jx pre W')) := by
  refine callsIn_of_wp Try.func82 rfl hf ?_ hro
  simp only [Try.ntmps82, List.size_toArray, List.length_cons, List.length_nil, Nat.reduceAdd, Nat.reduceSub, Array.replicate_succ, Array.replicate_zero, List.push_toArray, List.append_toArray, List.nil_append, List.cons_append]
  gi_wp2
  gi_loopw [3, 4] (fun r p wr => ∃ (rr pp : Nat) (pre : List PK), r = .int .i64 (rr : Int) ∧ p = .int .i64 (pp : Int) ∧ pp ≤ 1025 ∧ Trial m (vals pre) rr pp ∧ J pre wr)
    (fun r p wr => (1048577 - intOf p).toNat)
  case atStart =>
    exact ⟨m, 2, [], rfl, rfl, by omega, Trial.start hm1, h0⟩
  case round =>
    obtain ⟨rr, pp, pre, rfl, rfl, hpp, hT, hJ⟩ := hrel
    have hle := hT.le
    have h2 := hT.two
    have hq2 : pp * pp ≤ 1050625 := Nat.mul_le_mul hpp hpp
    have hq2' : (pp : Int) * (pp : Int) ≤ 1050625 := by have h := Int.ofNat_le.2 hq2; rw [Int.natCast_mul] at h; omega
    have hq1' : 0 ≤ (pp : Int) * (pp : Int) := by exact_mod_cast Nat.zero_le (pp * pp)
    have hp0 : ¬ (pp : Int) = 0 := by omega
    by_cases hgo : pp * pp ≤ rr
    · have hgo' : (pp : Int) * (pp : Int) ≤ (rr : Int) := by exact_mod_cast hgo
      have hp1024 : pp ≤ 1024 := by
        by_cases h : pp ≤ 1024
        · exact h
        · have : 1025 * 1025 ≤ pp * pp := Nat.mul_le_mul (by omega) (by omega)
          omega
      gi_wp2
      gi_loop [3, 5] (fun r k => ∃ (r' k' : Nat), r = .int .i64 (r' : Int) ∧ k = .int .i64 (k' : Int) ∧ rr = pp ^ k' * r' ∧ 1 ≤ r')
        (fun r k => (intOf r).toNat)
      case atStart => exact ⟨rr, 0, rfl, rfl, by simp, hT.pos⟩
      case round =>
        obtain ⟨r', k', rfl, rfl, e, hr'⟩ := hrel
        have hk20 := exp_le h2 hr' e.symm (by omega)
        have hr2 : r' ≤ rr := by
          rw [e]; exact Nat.le_mul_of_pos_left r' (Nat.pow_pos (by omega))
        by_cases hd : pp ∣ r'
        · have hm0 : ((r' : Int) % (pp : Int) == 0) = true := by
            rw [show (r' : Int) % (pp : Int) = ((r' % pp : Nat) : Int) by simp, Nat.mod_eq_zero_of_dvd hd]; rfl
          have hle2 : r' / pp ≤ r' := Nat.div_le_self _ _
          have hlt : r' / pp < r' := Nat.div_lt_self (by omega) (by omega)
          have hpos : 1 ≤ r' / pp := Nat.div_pos (Nat.le_of_dvd (by omega) hd) (by omega)
          have e2 : rr = pp ^ (k' + 1) * (r' / pp) := by
            rw [Nat.pow_succ, Nat.mul_assoc, Nat.mul_div_cancel' hd]; exact e
          gi_wp2
          go_round
          case rel => exact ⟨r' / pp, k' + 1, by simp, by simp, e2, hpos⟩
          case measure => simp only [intOf]; rw [show (r' : Int) / (pp : Int) = ((r' / pp : Nat) : Int) by simp]; omega
        · have hm0 : ((r' : Int) % (pp : Int) == 0) = false := by
            rw [show (r' : Int) % (pp : Int) = ((r' % pp : Nat) : Int) by simp]
            have : ¬ r' % pp = 0 := fun h => hd (Nat.dvd_of_mod_eq_zero h)
            simp; omega
          by_cases hk : k' = 0
          · subst hk
            simp at e
            subst e
            have hT2 := hT.skip hd
            gi_wp2
            refine ⟨fun _ h => (by cases h), ?_⟩
            gi_wp2
            go_roundw
            case rel => exact ⟨rr, pp + 1, pre, rfl, by simp, by omega, hT2, hJ⟩
            case measure => exact meas hp1024
          · have hk1 : 1 ≤ k' := by omega
            have hT2 := hT.take hk1 e hd
            have hb : 2 ≤ pp ∧ pp ≤ 1048576 ∧ 1 ≤ k' ∧ k' ≤ 20 := ⟨h2, by omega, hk1, hk20⟩
            have hlen : pre.length < 8 := by have := hT2.len8 hm2; rw [List.length_append, vals_length] at this; simp at this; omega
            obtain ⟨fn, tmps, assign, body, hy, hR⟩ := hY pre ⟨(pp, k'), hb⟩ wr hJ hlen
            dsimp only [encP] at hy
            gi_wp2
            refine hR.mono ?_
            rintro e3 W3 (⟨rfl, hJ3, hk3⟩ | ⟨rfl, hJx3⟩)
            · gi_wp2
              go_roundw
              case rel => exact ⟨r', pp + 1, pre ++ [⟨(pp, k'), hb⟩], rfl, by simp, by omega, by rw [vals_snoc]; exact hT2, hJ3⟩
              case measure => exact meas hp1024
            · gi_wp2
              refine bodyPost_ret (results_none rfl _ _ _) rfl ?_
              exact ⟨⟨_, rfl⟩, .inr ⟨pre ++ [⟨(pp, k'), hb⟩], by rw [vals_snoc]; exact hT2.pre, hJx3⟩⟩
    · have hgo' : ¬ (pp : Int) * (pp : Int) ≤ (rr : Int) := by intro h; exact hgo (by exact_mod_cast h)
      have hlt : rr < pp * pp := by omega
      by_cases hr1 : rr = 1
      · subst hr1
        gi_wp2
        go_end0
        exact ⟨⟨_, rfl⟩, .inl ⟨pre, hT.done1, hJ⟩⟩
      · have hr2 : 2 ≤ rr := by have := hT.pos; omega
        have hF := hT.done hr2 hlt
        have hb : 2 ≤ rr ∧ rr ≤ 1048576 ∧ 1 ≤ 1 ∧ 1 ≤ 20 := ⟨hr2, by omega, by omega, by omega⟩
        have hlen : pre.length < 8 := by have := len8 hF.1 hF.2.1 (by rw [hF.2.2]; exact hm2); rw [List.length_append, vals_length] at this; simp at this; omega
        obtain ⟨fn, tmps, assign, body, hy, hR⟩ := hY pre ⟨(rr, 1), hb⟩ wr hJ hlen
        dsimp only [encP] at hy
        rw [show ((1 : Nat) : Int) = 1 from rfl] at hy
        gi_wp2
        refine hR.mono ?_
        rintro e3 W3 (⟨rfl, hJ3, hk3⟩ | ⟨rfl, hJx3⟩)
        · gi_wp2
          go_end0
          exact ⟨⟨_, rfl⟩, .inl ⟨pre ++ [⟨(rr, 1), hb⟩], by rw [vals_snoc]; exact hF, hJ3⟩⟩
        · gi_wp2
          go_end0
          exact ⟨⟨_, rfl⟩, .inr ⟨pre ++ [⟨(rr, 1), hb⟩], ⟨[], by rw [vals_snoc]; simpa using hF⟩, hJx3⟩⟩

/-- The function value goes through the primes of m, whatever the loop's body does. -/
theorem powers_stops (F : Fence) (n : Nat) (hf : F.fn 82) (hro : F.round = none) (hn : 1 ≤ n) (Bn m : Nat) (hm1 : 1 ≤ m) (hm2 : m ≤ 1048576) (Kp : World → World → Prop) (w : World) (hBn : Bn < w.heap.size)
    (hc : w.cell? ⟨Bn, 0, none⟩ = some (.int .i64 (m : Int))) :
    SeqStopsK F n Try.prog 82 #[.pointer (some ⟨Bn, 0, none⟩)] (fun x : PK => #[encP x]) Kp (fun ys => Fac m (vals ys)) (fun pre => ∃ rest, Fac m (vals pre ++ rest)) 8 w := fun l J Jx W hW _ _ hY h0 =>
  powers1_in F n hf hro hn l Bn m hm1 hm2 J Jx Kp hY W ((hW.cell (p := ⟨Bn, 0, none⟩) hBn).trans hc) h0

end Go.Proofs.Ytpnmepobdnclkaa.Calls7

namespace Go.Proofs.Ytpnmepobdnclkaa.Calls8
set_option linter.unusedVariables false
open Go.RowKit Go.Shelf Go.Proofs.Ytpnmepobdnclkaa.Num Go.Proofs.Ytpnmepobdnclkaa.Calls7

attribute [local go_sem] Oper.semAt_some

/-- A block of cells, whole. -/
def BoxC (W : World) (B : Nat) (t : TypeId) (cs : Array Value) : Prop := W.heap[B]? = some (.cells cs t (0, 0))

theorem BoxC.lt {W : World} {B : Nat} {t : TypeId} {cs : Array Value} (h : BoxC W B t cs) : B < W.heap.size := (Array.getElem?_eq_some_iff.1 h).1

theorem BoxC.cell {W : World} {B : Nat} {t : TypeId} {cs : Array Value} (h : BoxC W B t cs) (i : Nat) : W.cell? ⟨B, i, none⟩ = cs[i]? := by simp [World.cell?, show W.heap[B]? = _ from h]

theorem BoxC.kept {W W' : World} {row : Option Nat} {B : Nat} {t : TypeId} {cs : Array Value} (h : BoxC W B t cs) (hg : W.grownBy W' row) (hne : some B ≠ row) : BoxC W' B t cs := (hg.block B h.lt hne).trans h

theorem BoxC.alloc {W : World} {B : Nat} {t : TypeId} {cs : Array Value} (h : BoxC W B t cs) (o : Obj) : BoxC (W.alloc o) B t cs := h.kept (World.grownBy_alloc W o none) (by simp)

theorem BoxC.new (W : World) (t : TypeId) (cs : Array Value) : BoxC (W.alloc (.cells cs t)) W.heap.size t cs := World.alloc_heap_new W _

theorem BoxC.other {W : World} {B B' : Nat} {t : TypeId} {cs : Array Value} (h : BoxC W B t cs) (hne : B ≠ B') (u : Value) : BoxC (W.setCell ⟨B', 0, none⟩ u) B t cs := h.kept (grownBy_setCell' W B' u) (fun e => hne (by cases e; rfl))

theorem boxC_own {β : Type} (B : Nat) (t : TypeId) (f : β → Array Value) : Own (fun s W => BoxC W B t (f s)) := fun s X Y row hs hg hrow =>
  hs.kept hg (fun e' => by obtain ⟨o, ho, hc⟩ := hrow B e'.symm; rw [show X.heap[B]? = _ from hs] at ho; cases ho; cases hc)

theorem below_trans {a b c : World} (h : Below a.heap.size a b) (k : Below b.heap.size b c) : Below a.heap.size a c := h.trans (k.mono h.size)

theorem pRange_in (F : Fence) (n : Nat) (hf : F.fn 77) (hro : F.round = none) (m : Int) (w : World) :
    CallsIn F n Try.prog 77 #[.int .i64 m] w fun e w' => e = .returned (.bool (decide (1 ≤ m ∧ m ≤ 1048576))) ∧ w' = w := by
  by_cases h1 : 1 ≤ m
  · by_cases h2 : m ≤ 1048576
    · rw [decide_eq_true ⟨h1, h2⟩]
      refine callsIn_of_wp Try.func77 rfl hf ?_ hro
      simp only [Try.ntmps77, List.size_toArray, List.length_cons, List.length_nil, Nat.reduceAdd, Nat.reduceSub, Array.replicate_succ, Array.replicate_zero, List.push_toArray, List.append_toArray, List.nil_append, List.cons_append]
      gi_wp2
      go_ret
      exact ⟨rfl, rfl⟩
    · rw [decide_eq_false (fun h => h2 h.2)]
      refine callsIn_of_wp Try.func77 rfl hf ?_ hro
      simp only [Try.ntmps77, List.size_toArray, List.length_cons, List.length_nil, Nat.reduceAdd, Nat.reduceSub, Array.replicate_succ, Array.replicate_zero, List.push_toArray, List.append_toArray, List.nil_append, List.cons_append]
      gi_wp2
      go_ret
      exact ⟨rfl, rfl⟩
  · rw [decide_eq_false (fun h => h1 h.1)]
    refine callsIn_of_wp Try.func77 rfl hf ?_ hro
    simp only [Try.ntmps77, List.size_toArray, List.length_cons, List.length_nil, Nat.reduceAdd, Nat.reduceSub, Array.replicate_succ, Array.replicate_zero, List.push_toArray, List.append_toArray, List.nil_append, List.cons_append]
    gi_wp2
    go_ret
    exact ⟨rfl, rfl⟩

set_option maxRecDepth 100000 in
set_option maxHeartbeats 2000000 in
theorem Is_in (F : Fence) (n : Nat) (h3 : F.fn 68) (h4 : F.fn 77) (h5 : F.fn 78) (h6 : F.fn 82) (hro : F.round = none) (hn : 3 ≤ n) (m : Nat) (hm1 : 1 ≤ m) (hm2 : m ≤ 1048576) (w : World) :
    CallsIn F n Try.prog 68 #[.int .i64 (m : Int)] w fun e w' => (∃ b : Bool, (b = true ↔ Pr m) ∧ e = .returned (.tuple #[.bool b, .int .i64 0])) ∧ Below w.heap.size w w' := by
  have h1 : 1 ≤ n := by omega
  have hin : decide (1 ≤ (m : Int) ∧ (m : Int) ≤ 1048576) = true := decide_eq_true ⟨by omega, by omega⟩
  have cR := fun w' => pRange_in F (n - 1) h4 hro (m : Int) w'
  rw [hin] at cR
  refine callsIn_of_wp_marks Try.func68 rfl h3 ?_ hro
  simp only [Try.ntmps68, List.size_toArray, List.length_cons, List.length_nil, Nat.reduceAdd, Nat.reduceSub, Array.replicate_succ, Array.replicate_zero, List.push_toArray, List.append_toArray, List.nil_append, List.cons_append]
  gi_wp2_with (first | (gi_at_call 77; refine (cR _).mono ?_; rintro e w' ⟨rfl, hw⟩; subst w') | (gi_at_call 78; refine (powers_in F (n - 1) h5 hro _ _).mono ?_; rintro e w' ⟨rfl, rfl⟩))
  have b0 := (((Boxed.new w 2 (.int .i64 (m : Int))).alloc (.cells #[.bool false] 4)).alloc (.cells #[.int .i64 0] 23)).alloc (.cells #[.int .i64 (m : Int)] 2)
  have b1 := ((Boxed.new (w.alloc (.cells #[.int .i64 (m : Int)] 2)) 4 (.bool false)).alloc (.cells #[.int .i64 0] 23)).alloc (.cells #[.int .i64 (m : Int)] 2)
  have b2 := (Boxed.new ((w.alloc (.cells #[.int .i64 (m : Int)] 2)).alloc (.cells #[.bool false] 4)) 23 (.int .i64 0)).alloc (.cells #[.int .i64 (m : Int)] 2)
  have b3 := Boxed.new (((w.alloc (.cells #[.int .i64 (m : Int)] 2)).alloc (.cells #[.bool false] 4)).alloc (.cells #[.int .i64 0] 23)) 2 (.int .i64 (m : Int))
  simp only [World.size_alloc] at b1 b2 b3
  have hB0 : Below w.heap.size w ((((w.alloc (.cells #[.int .i64 (m : Int)] 2)).alloc (.cells #[.bool false] 4)).alloc (.cells #[.int .i64 0] 23)).alloc (.cells #[.int .i64 (m : Int)] 2)) := ((((Below.refl _ w).alloc (Nat.le_refl _) _).alloc (by simp) _).alloc (by simp; omega) _).alloc (by simp; omega) _
  have hsz : ((((w.alloc (.cells #[.int .i64 (m : Int)] 2)).alloc (.cells #[.bool false] 4)).alloc (.cells #[.int .i64 0] 23)).alloc (.cells #[.int .i64 (m : Int)] 2)).heap.size = w.heap.size + 4 := by simp
  obtain ⟨W0, hW0⟩ : ∃ W0, (((w.alloc (.cells #[.int .i64 (m : Int)] 2)).alloc (.cells #[.bool false] 4)).alloc (.cells #[.int .i64 0] 23)).alloc (.cells #[.int .i64 (m : Int)] 2) = W0 := ⟨_, rfl⟩
  rw [hW0] at b0 b1 b2 b3 hB0 hsz ⊢
  clear hW0
  refine wpIn_rangeFunc_ownH hro h1 (gf := 82) (lb := #[.pointer (some ⟨w.heap.size + 1 + 1 + 1, 0, none⟩)]) rfl h6 (enters_of Try.func82 (by kernel_rfl) rfl)
    (powers_stops F (n - 1) h6 hro (by omega) (w.heap.size + 1 + 1 + 1) m hm1 hm2 (Below w.heap.size) W0 (by omega) b3.cell) belowK_t (belowK_b (by omega)) (Below.refl _ _) (fun _ => rfl)
    (fun pre W => ((pre = [] ∧ Boxed W w.heap.size 2 (.int .i64 (m : Int))) ∧ Boxed W (w.heap.size + 1) 4 (.bool false) ∧ Boxed W (w.heap.size + 1 + 1) 23 (.int .i64 0)) ∧ Below w.heap.size w W)
    (fun c pre W => (((c = .ret ∧ ∃ x : PK, pre = [x]) ∧ Boxed W (w.heap.size + 1) 4 (.bool (((pre.map fun x => x.1.1).headD 0 : Int) == (m : Int)))) ∧ Boxed W (w.heap.size + 1 + 1) 23 (.int .i64 0)) ∧ Below w.heap.size w W)
    (OwnFrom.and (OwnFrom.and (OwnFrom.and (ownFrom_pure _ _) (Own.from (boxed_own _ _ _) _)) (OwnFrom.and (Own.from (boxed_own _ _ _) _) (Own.from (boxed_own _ _ _) _))) (ownFrom_below (Nat.le_refl _) (by omega)))
    (fun c => OwnFrom.and (OwnFrom.and (OwnFrom.and (ownFrom_pure _ _) (Own.from (boxed_own _ _ _) _)) (Own.from (boxed_own _ _ _) _)) (ownFrom_below (Nat.le_refl _) (by omega)))
    ⟨⟨⟨rfl, b0⟩, b1, b2⟩, hB0⟩
    (fun x a' W => ∃ Bx, w.heap.size + 1 + 1 < Bx ∧ BoxC W Bx 107 #[.int .i64 (x.1.1 : Int), .int .i64 (x.1.2 : Int)] ∧ a' = { tmps := #[.int .i64 (m : Int), .pointer (some ⟨w.heap.size, 0, none⟩), .pointer (some ⟨w.heap.size + 1, 0, none⟩), .pointer (some ⟨w.heap.size + 1 + 1, 0, none⟩), .pointer (some ⟨Bx, 0, none⟩), .int .i64 (m : Int), .bool true, .bool false, .int .i64 (m : Int), .func (.func 82) #[] #[.pointer (some ⟨w.heap.size + 1 + 1 + 1, 0, none⟩)], encP x, undef, undef, undef, undef], defers := [] })
    (fun x a' _ X Y row hs hg hr => by obtain ⟨Bx, h1, h2, h3⟩ := hs; exact ⟨Bx, h1, boxC_own Bx 107 (fun (_ : Unit) => #[.int .i64 (x.1.1 : Int), .int .i64 (x.1.2 : Int)]) () X Y row h2 hg (fun r e => (hr r e).2), h3⟩)
    ?assign ?body ?done ?stop
  case assign =>
    rintro l pre x W K ⟨⟨⟨e0, c0⟩, c1, c2⟩, hB1⟩ hK
    gi_wp2
    exact hK _ _ ((KeepsOthers.alloc _ _).from _) ((Below.refl _ W).alloc hB1.size _) ⟨⟨⟨e0, c0.alloc _⟩, c1.alloc _, c2.alloc _⟩, hB1.alloc hB1.size _⟩ ⟨W.heap.size, c2.lt, BoxC.new W 107 _, rfl⟩
  case body =>
    rintro l pre x a' W hl _ ⟨⟨⟨rfl, c0⟩, c1, c2⟩, hB1⟩ ⟨Bx, hBx, bX, rfl⟩ hlt
    have d0 := c0.cell
    have d1 := c1.cell
    have f1 := c1.frozen
    have d2 := c2.cell
    have f2 := c2.frozen
    have dx := bX.cell 0
    simp at dx
    gi_wp2
    refine ⟨((KeepsOthers.setCell _ _ _).trans (KeepsOthers.setCell _ _ _)).from _, ⟨⟨⟨⟨rfl, x, by simp⟩, ?_⟩, ?_⟩, ?_⟩⟩
    · exact (c1.set _).other (by omega) _
    · exact (c2.other (by omega) _).set _
    · exact (hB1.setCell (p := ⟨w.heap.size + 1, 0, none⟩) (by simp) _).setCell (p := ⟨w.heap.size + 1 + 1, 0, none⟩) (by simp; omega) _
  case done =>
    rintro D ys W hD hF ⟨⟨⟨rfl, c0⟩, c1, c2⟩, hB1⟩ hK
    have d1 := c1.cell
    have f1 := c1.frozen
    have d2 := c2.cell
    have f2 := c2.frozen
    gi_wp2
    have g1 := (c1.set (.bool false)).other (show w.heap.size + 1 ≠ w.heap.size + 1 + 1 by omega) (.int .i64 0)
    have g2 := (c2.other (show w.heap.size + 1 + 1 ≠ w.heap.size + 1 by omega) (.bool false)).set (.int .i64 0)
    have hK' := ((KeepsOthers.setCell W ⟨w.heap.size + 1, 0, none⟩ (.bool false)).trans (KeepsOthers.setCell _ ⟨w.heap.size + 1 + 1, 0, none⟩ (.int .i64 0))).same D _ hK rfl
    refine ⟨by simp, .inl ⟨_, _, rfl, run_takeDeferred hK', ?_⟩⟩
    have k1 := (g1.kept (grownBy_putObj' _ D (.deferred none)) (fun e => by cases e; omega)).cell
    have k2 := (g2.kept (grownBy_putObj' _ D (.deferred none)) (fun e => by cases e; omega)).cell
    refine ⟨.tuple #[.bool false, .int .i64 0], ?_, ⟨false, ⟨fun h => (by cases h), fun h => ?_⟩, rfl⟩, ?_⟩
    · simp [results, Try.f68, go_sem, k1, k2]
    · have e1 := hF.unique (Fac.prime h)
      simp [vals] at e1
    · exact ((hB1.setCell (p := ⟨w.heap.size + 1, 0, none⟩) (by simp) _).setCell (p := ⟨w.heap.size + 1 + 1, 0, none⟩) (by simp; omega) _).trans (belowK_b (w := w) (Nat.le_refl _) _ D _ _ (by omega) hK' rfl rfl)
  case stop =>
    rintro D c pre W hD hF ⟨⟨⟨⟨rfl, x, rfl⟩, c1⟩, c2⟩, hB1⟩ hK
    have d1 := c1.cell
    have d2 := c2.cell
    gi_wp2
    refine ⟨by simp, .inl ⟨_, _, rfl, run_takeDeferred hK, ?_⟩⟩
    have k1 := (c1.kept (grownBy_putObj' _ D (.deferred none)) (fun e => by cases e; omega)).cell
    have k2 := (c2.kept (grownBy_putObj' _ D (.deferred none)) (fun e => by cases e; omega)).cell
    obtain ⟨rest, hF⟩ := hF
    refine ⟨.tuple #[.bool ((x.1.1 : Int) == (m : Int)), .int .i64 0], ?_, ⟨_, ⟨fun h => ?_, fun h => ?_⟩, rfl⟩, ?_⟩
    · simp at k1
      simp [results, Try.f68, go_sem, k1, k2]
    · have e1 : (x.1.1 : Int) = (m : Int) := by simpa using h
      have e2 : x.1.1 = m := by omega
      rw [← e2]
      exact (hF.1 x.1 (by simp [vals])).1
    · have e1 := hF.unique (Fac.prime h)
      simp [vals] at e1
      rw [e1.1]; simp
    · exact hB1.trans (belowK_b (w := w) (Nat.le_refl _) _ D _ _ (by omega) hK rfl rfl)

set_option maxRecDepth 100000 in
theorem Is_out (F : Fence) (n : Nat) (h3 : F.fn 68) (h4 : F.fn 77) (hro : F.round = none) (hn : 3 ≤ n) (m : Int) (hm : ¬ (1 ≤ m ∧ m ≤ 1048576)) (w : World) :
    CallsIn F n Try.prog 68 #[.int .i64 m] w fun e w' => e = .returned (.tuple #[.bool false, .int .i64 2]) ∧ Below w.heap.size w w' := by
  have h1 : 1 ≤ n := by omega
  have hin : decide (1 ≤ m ∧ m ≤ 1048576) = false := decide_eq_false hm
  have cR := fun w' => pRange_in F (n - 1) h4 hro m w'
  rw [hin] at cR
  refine callsIn_of_wp Try.func68 rfl h3 ?_ hro
  simp only [Try.ntmps68, List.size_toArray, List.length_cons, List.length_nil, Nat.reduceAdd, Nat.reduceSub, Array.replicate_succ, Array.replicate_zero, List.push_toArray, List.append_toArray, List.nil_append, List.cons_append]
  gi_wp2_with (gi_at_call 77; refine (cR _).mono ?_; rintro e w' ⟨rfl, hw⟩; subst w')
  have k1 := ((Boxed.new (w.alloc (.cells #[.int .i64 m] 2)) 4 (.bool false)).alloc (.cells #[.int .i64 2] 23)).cell
  have k2 := (Boxed.new ((w.alloc (.cells #[.int .i64 m] 2)).alloc (.cells #[.bool false] 4)) 23 (.int .i64 2)).cell
  simp only [World.size_alloc] at k1 k2
  refine bodyPost_ret (v := .tuple #[.bool false, .int .i64 2]) (by simp [results, Try.f68, go_sem, k1, k2]) rfl ⟨rfl, ?_⟩
  exact (((Below.refl _ w).alloc (Nat.le_refl _) _).alloc (by simp) _).alloc (by simp; omega) _

def phf (c : Nat) (l : List (Nat × Nat)) : Nat := l.foldl (fun c x => c - c / x.1) c

theorem phf_snoc (c : Nat) (l : List (Nat × Nat)) (x : Nat × Nat) : phf c (l ++ [x]) = phf c l - phf c l / x.1 := by simp [phf]

theorem phf_le (c : Nat) (l : List (Nat × Nat)) : phf c l ≤ c := by
  induction l generalizing c with
  | nil => simp [phf]
  | cons x xs ih =>
    have h := ih (c - c / x.1)
    simp only [phf, List.foldl_cons] at h ⊢
    exact Nat.le_trans h (Nat.sub_le _ _)

def mob (l : List (Nat × Nat)) : Int := if l.any (fun x => decide (1 < x.2)) then 0 else if l.length % 2 = 1 then -1 else 1

def sgn (l : List PK) : Int := if l.length % 2 = 1 then -1 else 1

theorem sgn_snoc (l : List PK) (x : PK) : sgn (l ++ [x]) = - sgn l := by
  unfold sgn
  simp only [List.length_append, List.length_cons, List.length_nil]
  split <;> split <;> omega

theorem sgn_two (l : List PK) : sgn l = 1 ∨ sgn l = -1 := by unfold sgn; split <;> simp

theorem mob_zero {l : List (Nat × Nat)} (h : ∃ x ∈ l, 1 < x.2) : mob l = 0 := by
  unfold mob
  rw [if_pos]
  obtain ⟨x, hx, hk⟩ := h
  exact List.any_eq_true.2 ⟨x, hx, by simpa using hk⟩

def Ones (l : List PK) : Prop := ∀ x ∈ l, x.1.2 ≤ 1

theorem mob_sgn {l : List PK} (h : Ones l) : mob (vals l) = sgn l := by
  unfold mob
  rw [if_neg, vals_length]; rfl
  intro he
  obtain ⟨x, hx, hk⟩ := List.any_eq_true.1 he
  obtain ⟨y, hy, rfl⟩ := List.mem_map.1 hx
  have := h y hy
  simp at hk
  omega

end Go.Proofs.Ytpnmepobdnclkaa.Calls8

namespace Go.Proofs.Ytpnmepobdnclkaa.Calls9
set_option linter.unusedVariables false
open Go.ChangeShapes Go.WideShapes Go.ChangeAt Go.RowKit Go.Proofs.Ytpnmepobdnclkaa.Num Go.Proofs.Ytpnmepobdnclkaa.Calls7 Go.Proofs.Ytpnmepobdnclkaa.Calls8

theorem hid {p : Prop} (h : p) : Hid p := h

theorem ret_int {k : IntKind} {a b : Int} (h : a = b) : Ending.returned (.int k a) = .returned (.int k b) := by rw [h]

theorem ret_bool {a b : Bool} (h : a = b) : Ending.returned (.bool a) = .returned (.bool b) := by rw [h]

/-- Where an argument holds no memory: what lies below the call's own blocks lies as it lay. -/
theorem post_of_kept {H : Type} {enc : TypeId × Value → H} {P : Program} {f : Func} {s : ChangeSpec} {apart fresh handsOn : Bool} {W W' : World} {args : Array Value} {v : Value} {ds gs : List (DataW H)} {before pa pv : List MemPlace}
    (hW : DataW.Whole enc P f.params.toList s.vars apart W args.toList ds gs before)
    (hres : ∀ (b : Nat) (sp : Nat → Bool) (hd : Bool), DataW.TrodAll enc P W' b sp hd f.resultTypes.toList (v.resultList f.resultTypes.size) (s.fn H (ds ++ gs)).results [])
    (hargs : ∀ sp : Nat → Bool, (∀ p ∈ before, sp p.block = true) → DataW.TrodAll enc P W' 0 sp true f.params.toList args.toList (s.fn H (ds ++ gs)).args pa)
    (hvars : ∀ sp : Nat → Bool, (∀ p ∈ before, sp p.block = true) → DataW.TrodVars enc P W' sp s.vars (s.fn H (ds ++ gs)).vars pv)
    (hps : before = pa ++ pv) (hk : W.keptBut W' (· ∈ before)) :
    s.post enc P f apart fresh handsOn false W args v W' := by
  have hold : ∀ p ∈ before, (fun b => decide (b < W.heap.size)) p.block = true := fun p hp => by simpa using hW.lt p hp
  refine ⟨ds, gs, before, [], pa, pv, hW, hres _ _ _, hargs _ hold, hvars _ hold, World.keptBut_mono (fun p hp => ⟨hp, ?_⟩) hk, fun h => by cases h⟩
  rw [hps, List.mem_append] at hp
  exact Or.inr hp

/-- Is it a prime? By counting. -/
def prB (m : Nat) : Bool := decide (2 ≤ m) && (List.range m).all (fun d => decide (d < 2) || !(m % d == 0))

theorem prB_iff (m : Nat) : prB m = true ↔ Pr m := by
  unfold prB
  rw [Bool.and_eq_true, decide_eq_true_eq, List.all_eq_true]
  constructor
  · rintro ⟨h2, h⟩
    refine pr_of_small h2 (fun d hd hdd hdv => ?_)
    have hlt : d < m := by
      have : 2 * d ≤ d * d := Nat.mul_le_mul_right d hd
      omega
    have := h d (List.mem_range.2 hlt)
    simp at this
    rcases this with h | h
    · omega
    · exact h (Nat.mod_eq_zero_of_dvd hdv)
  · intro h
    refine ⟨h.1, fun d hd => ?_⟩
    have hlt := List.mem_range.1 hd
    simp
    by_cases h2 : d < 2
    · exact .inl h2
    · right
      intro h0
      exact not_pr_of_dvd (by omega) hlt (Nat.dvd_of_mod_eq_zero h0) h

theorem prB_eq {b : Bool} {m : Nat} (h : b = true ↔ Pr m) : b = prB m := by
  have h2 := prB_iff m
  cases b <;> cases hh : prB m <;> simp_all

theorem prB_one : prB 1 = false := rfl

theorem Is_yes (m : Nat) (hm1 : 1 ≤ m) (hm2 : m ≤ 1048576) (w : World) :
    Calls Try.prog 68 #[.int .i64 (m : Int)] w fun e w' => e = .returned (.tuple #[.bool (prB m), .int .i64 0]) ∧ Below w.heap.size w w' := by
  refine ((callsIn_wide (n := 3)).1 (Is_in Fence.wide 3 trivial trivial trivial trivial rfl (by omega) m hm1 hm2 w)).mono ?_
  rintro e w' ⟨⟨b, hb, rfl⟩, h⟩
  rw [prB_eq hb]
  exact ⟨rfl, h⟩

theorem Is_no (m : Int) (hm : ¬ (1 ≤ m ∧ m ≤ 1048576)) (w : World) :
    Calls Try.prog 68 #[.int .i64 m] w fun e w' => e = .returned (.tuple #[.bool false, .int .i64 2]) ∧ Below w.heap.size w w' :=
  (callsIn_wide (n := 3)).1 (Is_out Fence.wide 3 trivial trivial rfl (by omega) m hm w)

theorem mod_zero_iff (a b : Nat) : ((a : Int) % (b : Int) == 0) = decide (b ∣ a) := by
  rw [show (a : Int) % (b : Int) = ((a % b : Nat) : Int) by simp]
  by_cases h : b ∣ a
  · rw [decide_eq_true h, Nat.mod_eq_zero_of_dvd h]; rfl
  · rw [decide_eq_false h]
    have : ¬ a % b = 0 := fun h0 => h (Nat.dvd_of_mod_eq_zero h0)
    simp; omega

set_option maxRecDepth 100000 in
theorem refIs_any (m : Nat) (hm2 : m ≤ 1048576) (w : World) :
    Calls Try.prog 22 #[.int .i64 (m : Int)] w fun e w' => e = .returned (.bool (prB m)) ∧ w' = w := by
  by_cases hs : m < 2
  · have e : prB m = false := by
      unfold prB; rw [decide_eq_false (by omega)]; rfl
    rw [e]
    have hs' : (m : Int) < 2 := by omega
    clear hs
    go_enter Try.func22, Try.ntmps22
    go_wp2
    go_ret
    exact ⟨rfl, rfl⟩
  · have hs' : ¬ (m : Int) < 2 := by omega
    go_enter Try.func22, Try.ntmps22
    go_wp2
    go_loop [3] (fun d => ∃ q : Nat, d = .int .i64 (q : Int) ∧ 2 ≤ q ∧ q ≤ 1025 ∧ Hid (∀ x, 2 ≤ x → x < q → ¬ x ∣ m)) (fun d => (1048577 - intOf d).toNat)
    case atStart => exact ⟨2, rfl, by omega, by omega, fun x h1 h2 => by omega⟩
    case round =>
      obtain ⟨q, rfl, hq2, hq3, hno⟩ := hrel
      have hqq : q * q ≤ 1050625 := Nat.mul_le_mul hq3 hq3
      have hqq' : (q : Int) * (q : Int) ≤ 1050625 := by have h := Int.ofNat_le.2 hqq; rw [Int.natCast_mul] at h; omega
      have hqq0 : 0 ≤ (q : Int) * (q : Int) := by exact_mod_cast Nat.zero_le (q * q)
      have hq0 : ¬ (q : Int) = 0 := by omega
      by_cases hgo : q < m ∧ q * q ≤ m
      · obtain ⟨hg1, hg2⟩ := hgo
        have hg1' : (q : Int) < (m : Int) := by omega
        have hg2' : (q : Int) * (q : Int) ≤ (m : Int) := by exact_mod_cast hg2
        have hq4 : q ≤ 1024 := by
          by_cases h : q ≤ 1024
          · exact h
          · have : 1025 * 1025 ≤ q * q := Nat.mul_le_mul (by omega) (by omega)
            omega
        have hmod := mod_zero_iff m q
        by_cases hd : q ∣ m
        · rw [decide_eq_true hd] at hmod
          have e : prB m = false := by
            cases h : prB m
            · rfl
            · exact absurd ((prB_iff m).1 h) (not_pr_of_dvd hq2 hg1 hd)
          clear hd
          go_wp2
          go_ret
          exact ⟨rfl, rfl⟩
        · rw [decide_eq_false hd] at hmod
          have hno2 : Hid (∀ x, 2 ≤ x → x < q + 1 → ¬ x ∣ m) := fun x h1 h2 => by
            by_cases e : x = q
            · subst e; exact hd
            · exact hno.out x h1 (by omega)
          clear hd
          go_wp2
          go_round
          case rel => exact ⟨q + 1, by simp, by omega, by omega, hno2⟩
          case measure => exact meas hq4
      · have e : prB m = true := by
          rw [prB_iff]
          refine pr_of_small (by omega) (fun d h2 hdd hdv => ?_)
          by_cases hlt : d < q
          · exact hno.out d h2 hlt hdv
          · have h3 : q * q ≤ d * d := Nat.mul_le_mul (by omega) (by omega)
            have h4 : d < m := by
              have : 2 * d ≤ d * d := Nat.mul_le_mul_right d h2
              omega
            exact hgo ⟨by omega, by omega⟩
        by_cases hg1 : q < m
        · have hg1' : (q : Int) < (m : Int) := by omega
          have hg2' : ¬ (q : Int) * (q : Int) ≤ (m : Int) := fun h => hgo ⟨hg1, by exact_mod_cast h⟩
          clear hgo
          go_wp2
          go_ret
          exact ⟨rfl, rfl⟩
        · have hg1' : ¬ (q : Int) < (m : Int) := by omega
          clear hgo
          go_wp2
          go_ret
          exact ⟨rfl, rfl⟩

end Go.Proofs.Ytpnmepobdnclkaa.Calls9

namespace Go.Proofs.Ytpnmepobdnclkaa.Calls19
set_option linter.unusedVariables false
open Go.ChangeShapes Go.WideShapes Go.ChangeAt Go.RowKit Go.Proofs.Ytpnmepobdnclkaa.Num Go.Proofs.Ytpnmepobdnclkaa.Num3 Go.Proofs.Ytpnmepobdnclkaa.Num6 Go.Proofs.Ytpnmepobdnclkaa.Num8 Go.Proofs.Ytpnmepobdnclkaa.Num13 Go.Proofs.Ytpnmepobdnclkaa.Calls9
open Go.Proofs.Ytpnmepobdnclkaa.Calls1 (refMod_any tmod_bd)

theorem and_one {k : Nat} (h : k ≤ 2147483648) : bits .and .i64 (k : Int) 1 = ((k % 2 : Nat) : Int) := by
  have h1 : (BitVec.ofInt 64 (k : Int)).toNat = k := by
    rw [BitVec.ofInt_natCast, BitVec.toNat_ofNat]; exact Nat.mod_eq_of_lt (by omega)
  have h2 : (BitVec.ofInt 64 1).toNat = 1 := by decide
  show IntKind.i64.wrap ((BitVec.ofInt 64 (k : Int) &&& BitVec.ofInt 64 1).toNat : Int) = _
  rw [BitVec.toNat_and, h1, h2, Nat.and_one_is_mod]
  rcases Nat.mod_two_eq_zero_or_one k with e | e <;> rw [e] <;> decide

theorem mul_bd {x y m : Nat} (hx : x < m) (hy : y < m) (hm : m ≤ 1048576) : 0 ≤ (x : Int) * (y : Int) ∧ (x : Int) * (y : Int) ≤ 1099511627776 := by
  have h : x * y ≤ 1048576 * 1048576 := Nat.mul_le_mul (by omega) (by omega)
  have h2 : ((x * y : Nat) : Int) = (x : Int) * (y : Int) := by simp
  omega

theorem two_mod (a : Int) {m : Nat} (hm : 1 ≤ m) : (a.tmod (m : Int) + (m : Int)) % (m : Int) = ((rs a m : Nat) : Int) := by
  rw [rs_cast a hm, Int.add_emod_right]
  by_cases h : a.tmod (m : Int) < 0
  · have := Go.Proofs.Ytpnmepobdnclkaa.Calls1.tmod_neg_lt (n := a) (m := m) (by omega) h
    rw [show a.tmod (m : Int) = a % (m : Int) - (m : Int) by omega, Int.sub_emod_right, Int.emod_emod]
  · rw [Go.Proofs.Ytpnmepobdnclkaa.Calls1.tmod_not_lt (n := a) (m := m) (by omega) h, Int.emod_emod]

theorem refMod_at (n : Int) (m : Nat) (w : World) (h1 : 1 ≤ m) (h2 : m ≤ 1048576) :
    Calls Try.prog 24 #[.int .i64 n, .int .i64 (m : Int)] w fun e w' => e = .returned (.int .i64 (rs n m : Int)) ∧ w' = w := by
  rw [rs_cast n h1]
  exact refMod_any n m w (by omega) (by omega)

set_option maxRecDepth 100000 in
theorem refPow_any (a : Int) (m : Nat) (hm1 : 1 ≤ m) (hm2 : m ≤ 1048576) : ∀ (k : Nat) (w : World), k ≤ 2147483648 →
    Calls Try.prog 38 #[.int .i64 a, .int .i64 (k : Int), .int .i64 (m : Int)] w fun e w' => e = .returned (.int .i64 (pw a k m : Int)) ∧ w' = w := by
  have hm0 : ¬ (m : Int) = 0 := by omega
  intro k
  induction k using Nat.strongRecOn with
  | _ k ih =>
    intro w hk
    by_cases h0 : k = 0
    · subst h0
      have e : Hid ((pw a 0 m : Int) = 1 % (m : Int)) := by show _ = _; rw [pw_zero]; simp
      go_enter Try.func38, Try.ntmps38
      go_wp2
      go_ret
      exact ⟨ret_int e.out.symm, rfl⟩
    · have h0' : ((k : Int) == 0) = false := by
        simpa using h0
      have cP : ∀ w, Calls Try.prog 38 #[.int .i64 a, .int .i64 ((k : Int) / 2), .int .i64 (m : Int)] w fun e w' => e = .returned (.int .i64 (pw a (k / 2) m : Int)) ∧ w' = w := by
        intro w
        rw [show (k : Int) / 2 = ((k / 2 : Nat) : Int) by omega]
        exact ih (k / 2) (by omega) w (by omega)
      have cM := fun w => refMod_at a m w hm1 hm2
      have hl := pw_lt a (k / 2) hm1
      have hr := rs_lt a hm1
      obtain ⟨a1, a2⟩ := mul_bd hl hl hm2
      have l1 : pw a (k / 2) m * pw a (k / 2) m % m < m := Nat.mod_lt _ (by omega)
      obtain ⟨b1, b2⟩ := mul_bd l1 hr hm2
      have e1 := hid (fun h => pw_even a (k := k) m h)
      have e2 := hid (fun h => pw_odd a (k := k) hm1 h)
      have hc1 : ((pw a (k / 2) m * pw a (k / 2) m % m : Nat) : Int) = (pw a (k / 2) m : Int) * (pw a (k / 2) m : Int) % (m : Int) := by simp
      rw [hc1] at b1 b2
      clear hc1
      clear ih
      by_cases ho : k % 2 = 1
      · have ho' : ((k : Int) % 2 == 1) = true := by
          have : (k : Int) % 2 = 1 := by omega
          simp [this]
        have e3 := hid (e2.out ho)
        clear ho
        go_enter Try.func38, Try.ntmps38
        go_wp2_with (first | (go_at_call 38; refine (cP _).mono ?_; rintro e w' ⟨rfl, hw⟩; subst w') | (go_at_call 24; refine (cM _).mono ?_; rintro e w' ⟨rfl, hw⟩; subst w'))
        go_ret
        exact ⟨ret_int (by rw [← e3.out]; push_cast; rfl), rfl⟩
      · have ho' : ((k : Int) % 2 == 1) = false := by
          have : ¬ (k : Int) % 2 = 1 := by omega
          simp [this]
        have e3 := hid (e1.out (by omega))
        clear ho
        go_enter Try.func38, Try.ntmps38
        go_wp2_with (first | (go_at_call 38; refine (cP _).mono ?_; rintro e w' ⟨rfl, hw⟩; subst w') | (go_at_call 24; refine (cM _).mono ?_; rintro e w' ⟨rfl, hw⟩; subst w'))
        go_ret
        exact ⟨ret_int (by rw [← e3.out]; simp), rfl⟩

end Go.Proofs.Ytpnmepobdnclkaa.Calls19

namespace Go.Proofs.Ytpnmepobdnclkaa.Calls20
set_option linter.unusedVariables false
open Go.ChangeShapes Go.WideShapes Go.ChangeAt Go.RowKit Go.Proofs.Ytpnmepobdnclkaa.Num Go.Proofs.Ytpnmepobdnclkaa.Num13 Go.Proofs.Ytpnmepobdnclkaa.Calls9 Go.Proofs.Ytpnmepobdnclkaa.Calls19

abbrev Nr (a : Int) : Prop := -2147483648 ≤ a ∧ a ≤ 2147483648
abbrev Md (m : Int) : Prop := 1 ≤ m ∧ m ≤ 1048576

theorem far_of {a : Int} (h : ¬ Nr a) : a < -2147483648 ∨ 2147483648 < a := by unfold Nr at h; omega

end Go.Proofs.Ytpnmepobdnclkaa.Calls20
