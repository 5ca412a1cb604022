/-
  The small functions of package walsh, and of the document's side: bits, how many are set, whether there is such a function, its values.
-/
import Derived.Test.YtpnjpkmlfbcnjaaBase6
import Derived.Test.YtpnjpkmlfbcnjaaNum57
import Derived.Laws.BitsAllLaws
namespace Go.Proofs.Ytpnjpkmlfbcnjaa.Calls110
set_option linter.unusedVariables false
open Go.ChangeShapes Go.WideShapes Go.ChangeAt Go.RowKit Go.Deep Go.Proofs.Ytpnjpkmlfbcnjaa.Base Go.Proofs.Ytpnjpkmlfbcnjaa.Base2 Go.Proofs.Ytpnjpkmlfbcnjaa.Num34 Go.Proofs.Ytpnjpkmlfbcnjaa.Base4 Go.Proofs.Ytpnjpkmlfbcnjaa.Base6 Go.Proofs.Ytpnjpkmlfbcnjaa.Num41 Go.Proofs.Ytpnjpkmlfbcnjaa.Num57

theorem ones64_any (x : Nat) (hx : x < 32) (w : World) :
    Calls Try.prog 29 #[.int .u64 (x : Int)] w fun e w' => e = .returned (.int .i64 ((on 5 x : Nat) : Int)) ∧ w' = w := by
  go_enter Try.func29, Try.ntmps29
  go_wp2
  go_ret
  refine ⟨ret_int ?_, rfl⟩
  revert hx
  revert x
  decide +kernel

theorem onesCount_any (x : Nat) (hx : x < 32) (w : World) :
    Calls Try.prog 27 #[.int .u64 (x : Int)] w fun e w' => e = .returned (.int .i64 ((on 5 x : Nat) : Int)) ∧ w' = w := by
  have cO := ones64_any x hx w
  go_enter Try.func27, Try.ntmps27
  go_wp2_with (go_at_call 29; refine cO.mono ?_; rintro e w1 ⟨rfl, rfl⟩)
  go_ret
  exact ⟨rfl, rfl⟩

theorem ones_any (x : Nat) (hx : x < 32) (w : World) :
    Calls Try.prog 26 #[.int .i64 (x : Int)] w fun e w' => e = .returned (.int .i64 ((on 5 x : Nat) : Int)) ∧ w' = w := by
  have cO := onesCount_any x hx w
  go_enter Try.func26, Try.ntmps26
  go_wp2_with (go_at_call 27; refine cO.mono ?_; rintro e w1 ⟨rfl, rfl⟩)
  go_ret
  exact ⟨rfl, rfl⟩

theorem pow_pos32 (x : Nat) (hx : x < 32) : 1 ≤ (2 : Int) ^ x ∧ (2 : Int) ^ x ≤ 2147483648 := by
  revert hx
  revert x
  decide +kernel

theorem bit_any (f x : Nat) (hf : f < 4294967296) (hx : x < 32) (w : World) :
    Calls Try.prog 20 #[.int .u32 (f : Int), .int .i64 (x : Int)] w fun e w' => e = .returned (.int .i64 ((bt f x : Nat) : Int)) ∧ w' = w := by
  have hp := pow_pos32 x hx
  have hm : (2 : Int) ^ x % 4294967296 = 2 ^ x := by omega
  have hne : ¬ (2 : Int) ^ x = 0 := by omega
  have hb : ((bt f x : Nat) : Int) = (f : Int) / 2 ^ x % 2 := by unfold bt; simp
  have hb2 := bt_lt f x
  have hdv : 0 ≤ (f : Int) / 2 ^ x ∧ (f : Int) / 2 ^ x ≤ 4294967295 := ⟨Int.ediv_nonneg (by omega) (by omega), Int.le_trans (Int.ediv_le_self _ (by omega)) (by omega)⟩
  have hdm : (f : Int) / 2 ^ x % 4294967296 = (f : Int) / 2 ^ x := by omega
  by_cases h : bt f x = 1
  · have e : Hid ((1 : Int) = ((bt f x : Nat) : Int)) := by rw [h]; rfl
    have hc : ((f : Int) / 2 ^ x % 2 == 1) = true := by rw [← hb, h]; rfl
    clear hb hb2 h hp hdv
    go_enter Try.func20, Try.ntmps20
    go_wp2
    go_ret
    exact ⟨ret_int e.out, rfl⟩
  · have h0 : bt f x = 0 := by omega
    have e : Hid ((0 : Int) = ((bt f x : Nat) : Int)) := by rw [h0]; rfl
    have hc : ((f : Int) / 2 ^ x % 2 == 1) = false := by rw [← hb, h0]; rfl
    clear hb hb2 h hp hdv
    go_enter Try.func20, Try.ntmps20
    go_wp2
    go_ret
    exact ⟨ret_int e.out, rfl⟩

/-- On the way: what is left, and what was found. -/
def OnV (x : Nat) (u v : Value) : Prop := ∃ (y m k : Nat), u = .int .i64 (y : Int) ∧ v = .int .i64 (m : Int) ∧ k ≤ 5 ∧ y < 32 ∧ y < 2 ^ k ∧ m ≤ 5 - k ∧ Hid (m + on k y = on 5 x)

theorem on_next {k y : Nat} (h : y < 2 ^ (k + 1)) : on (k + 1) y = y % 2 + on k (y / 2) := rfl

theorem on_null : ∀ k : Nat, on k 0 = 0
  | 0 => rfl
  | k + 1 => by show 0 % 2 + on k (0 / 2) = 0; rw [show 0 / 2 = 0 from rfl, on_null k]

theorem refOnes_any (x : Nat) (hx : x < 32) (w : World) :
    Calls Try.prog 19 #[.int .i64 (x : Int)] w fun e w' => e = .returned (.int .i64 ((on 5 x : Nat) : Int)) ∧ w' = w := by
  go_enter Try.func19, Try.ntmps19
  go_wp2
  go_loop [0, 3] (fun u v => OnV x u v) (fun u v => (intOf u).toNat)
  case atStart => exact ⟨x, 0, 5, rfl, rfl, by omega, hx, hx, by omega, by show 0 + _ = _; omega⟩
  case round =>
    obtain ⟨y, m, k, rfl, rfl, hk, hy32, hy, hm, hO⟩ := hrel
    by_cases hgo : 0 < y
    · have hgo' : (0 : Int) < (y : Int) := by omega
      obtain ⟨k, rfl⟩ : ∃ k', k = k' + 1 := by
        rcases k with _ | k
        · rw [Nat.pow_zero] at hy; omega
        · exact ⟨k, rfl⟩
      have hO2 : Hid (m + y % 2 + on k (y / 2) = on 5 x) := by
        have := hO.out
        rw [on_next hy] at this
        show _ = _
        omega
      have hy2 : Hid (y / 2 < 2 ^ k) := by
        rw [Nat.pow_succ] at hy
        show _ < _
        omega
      clear hy hO
      go_wp2
      go_round
      case rel => exact ⟨y / 2, m + y % 2, k, by simp, by simp, by omega, by omega, hy2.out, by omega, hO2⟩
      case measure => simp [intOf]; omega
    · have hgo' : ¬ (0 : Int) < (y : Int) := by omega
      obtain rfl : y = 0 := by omega
      have e : Hid ((m : Int) = ((on 5 x : Nat) : Int)) := by
        have := hO.out
        rw [on_null] at this
        show _ = _
        omega
      go_wp2
      go_ret
      exact ⟨ret_int e.out, rfl⟩

theorem pow_n {n N : Nat} (hn : n ≤ 5) (hN : N = 2 ^ n) : 1 ≤ N ∧ N ≤ 32 := by
  subst hN
  rcases (show n = 0 ∨ n = 1 ∨ n = 2 ∨ n = 3 ∨ n = 4 ∨ n = 5 by omega) with rfl | rfl | rfl | rfl | rfl | rfl <;> decide

/-- There is such a function. -/
def FnOk (n : Int) (f : Nat) : Prop := 0 ≤ n ∧ n ≤ 5 ∧ f < 2 ^ 2 ^ n.toNat

theorem outside_any (n : Int) (f : Nat) (hf : f < 4294967296) (b : Bool) (hb : b = true ↔ ¬ FnOk n f) (w : World) :
    Calls Try.prog 21 #[.int .i64 n, .int .u32 (f : Int)] w fun e w' => e = .returned (.bool b) ∧ w' = w := by
  have HB := hid hb
  clear hb
  by_cases h1 : n < 0
  · have e : Hid (b = true) := HB.out.2 (fun h => by have := h.1; omega)
    clear HB
    go_enter Try.func21, Try.ntmps21
    go_wp2
    go_ret
    exact ⟨ret_bool e.out.symm, rfl⟩
  by_cases h2 : 5 < n
  · have e : Hid (b = true) := HB.out.2 (fun h => by have := h.2.1; omega)
    have h1' : decide (n < 0) = false := by simpa using h1
    clear HB
    go_enter Try.func21, Try.ntmps21
    go_wp2
    go_ret
    exact ⟨ret_bool e.out.symm, rfl⟩
  obtain ⟨k, rfl⟩ : ∃ k : Nat, n = (k : Int) := ⟨n.toNat, by omega⟩
  have e : Hid (b = true ↔ ¬ f < 2 ^ 2 ^ k) := by
    refine HB.out.trans ⟨fun h h2 => h ⟨by omega, by omega, by simpa using h2⟩, fun h h2 => h (by simpa using h2.2.2)⟩
  clear HB
  rcases (show k = 0 ∨ k = 1 ∨ k = 2 ∨ k = 3 ∨ k = 4 ∨ k = 5 by omega) with rfl | rfl | rfl | rfl | rfl | rfl
  all_goals
    go_enter Try.func21, Try.ntmps21
    go_wp2
    go_ret
    refine ⟨ret_bool ?_, rfl⟩
    have := e.out
    simp only [Nat.reducePow] at this
    cases b
    · simp at this ⊢
      omega
    · simp at this ⊢
      omega

theorem refCheck_any (n : Int) (f : Nat) (hf : f < 4294967296) (b : Bool) (hb : b = true ↔ FnOk n f) (w : World) :
    Calls Try.prog 10 #[.int .i64 n, .int .u32 (f : Int)] w fun e w' => e = .returned (.bool b) ∧ w' = w := by
  have HB := hid hb
  clear hb
  have hno : ¬ FnOk n f → b = false := fun h => by
    cases b
    · rfl
    · exact absurd (HB.out.1 rfl) h
  by_cases h1 : n < 0
  · have e : Hid (b = false) := hno (fun h => by have := h.1; omega)
    clear HB hno
    go_enter Try.func10, Try.ntmps10
    go_wp2
    go_ret
    exact ⟨ret_bool e.out.symm, rfl⟩
  by_cases h2 : 5 < n
  · have e : Hid (b = false) := hno (fun h => by have := h.2.1; omega)
    have h1' : decide (n < 0) = false := by simpa using h1
    clear HB hno
    go_enter Try.func10, Try.ntmps10
    go_wp2
    go_ret
    exact ⟨ret_bool e.out.symm, rfl⟩
  obtain ⟨k, rfl⟩ : ∃ k : Nat, n = (k : Int) := ⟨n.toNat, by omega⟩
  have e : Hid (b = true ↔ f < 2 ^ 2 ^ k) := by
    refine HB.out.trans ⟨fun h => by simpa using h.2.2, fun h => ⟨by omega, by omega, by simpa using h⟩⟩
  clear HB hno
  rcases (show k = 0 ∨ k = 1 ∨ k = 2 ∨ k = 3 ∨ k = 4 ∨ k = 5 by omega) with rfl | rfl | rfl | rfl | rfl | rfl
  all_goals
    go_enter Try.func10, Try.ntmps10
    go_wp2
    go_ret
    refine ⟨ret_bool ?_, rfl⟩
    have := e.out
    simp only [Nat.reducePow] at this
    cases b
    · simp at this ⊢
      try omega
    · simp at this ⊢
      try omega

end Go.Proofs.Ytpnjpkmlfbcnjaa.Calls110
