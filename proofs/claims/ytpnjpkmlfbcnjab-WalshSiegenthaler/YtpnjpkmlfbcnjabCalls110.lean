/-
  The small functions of package walsh, and of the document's side: bits, how many are set, whether there is such a function, its values.
-/
import Derived.Test.YtpnjpkmlfbcnjabBase6
import Derived.Test.YtpnjpkmlfbcnjabNum57
import Derived.Laws.BitsAllLaws
namespace Go.Proofs.Ytpnjpkmlfbcnjab.Calls110
set_option linter.unusedVariables false
open Go.ChangeShapes Go.WideShapes Go.ChangeAt Go.RowKit Go.Deep Go.Proofs.Ytpnjpkmlfbcnjab.Base Go.Proofs.Ytpnjpkmlfbcnjab.Base2 Go.Proofs.Ytpnjpkmlfbcnjab.Num34 Go.Proofs.Ytpnjpkmlfbcnjab.Base4 Go.Proofs.Ytpnjpkmlfbcnjab.Base6 Go.Proofs.Ytpnjpkmlfbcnjab.Num41 Go.Proofs.Ytpnjpkmlfbcnjab.Num57

theorem ones64_any (x : Nat) (hx : x < 32) (w : World) :
    Calls Try.prog 19 #[.int .u64 (x : Int)] w fun e w' => e = .returned (.int .i64 ((on 5 x : Nat) : Int)) ∧ w' = w := by
  go_enter Try.func19, Try.ntmps19
  go_wp2
  go_ret
  refine ⟨ret_int ?_, rfl⟩
  revert hx
  revert x
  decide +kernel

theorem onesCount_any (x : Nat) (hx : x < 32) (w : World) :
    Calls Try.prog 16 #[.int .u64 (x : Int)] w fun e w' => e = .returned (.int .i64 ((on 5 x : Nat) : Int)) ∧ w' = w := by
  have cO := ones64_any x hx w
  go_enter Try.func16, Try.ntmps16
  go_wp2_with (go_at_call 19; refine cO.mono ?_; rintro e w1 ⟨rfl, rfl⟩)
  go_ret
  exact ⟨rfl, rfl⟩

theorem ones_any (x : Nat) (hx : x < 32) (w : World) :
    Calls Try.prog 9 #[.int .i64 (x : Int)] w fun e w' => e = .returned (.int .i64 ((on 5 x : Nat) : Int)) ∧ w' = w := by
  have cO := onesCount_any x hx w
  go_enter Try.func9, Try.ntmps9
  go_wp2_with (go_at_call 16; refine cO.mono ?_; rintro e w1 ⟨rfl, rfl⟩)
  go_ret
  exact ⟨rfl, rfl⟩

theorem pow_pos32 (x : Nat) (hx : x < 32) : 1 ≤ (2 : Int) ^ x ∧ (2 : Int) ^ x ≤ 2147483648 := by
  revert hx
  revert x
  decide +kernel

/-- On the way: what is left, and what was found. -/
def OnV (x : Nat) (u v : Value) : Prop := ∃ (y m k : Nat), u = .int .i64 (y : Int) ∧ v = .int .i64 (m : Int) ∧ k ≤ 5 ∧ y < 32 ∧ y < 2 ^ k ∧ m ≤ 5 - k ∧ Hid (m + on k y = on 5 x)

theorem on_next {k y : Nat} (h : y < 2 ^ (k + 1)) : on (k + 1) y = y % 2 + on k (y / 2) := rfl

theorem on_null : ∀ k : Nat, on k 0 = 0
  | 0 => rfl
  | k + 1 => by show 0 % 2 + on k (0 / 2) = 0; rw [show 0 / 2 = 0 from rfl, on_null k]

theorem pow_n {n N : Nat} (hn : n ≤ 5) (hN : N = 2 ^ n) : 1 ≤ N ∧ N ≤ 32 := by
  subst hN
  rcases (show n = 0 ∨ n = 1 ∨ n = 2 ∨ n = 3 ∨ n = 4 ∨ n = 5 by omega) with rfl | rfl | rfl | rfl | rfl | rfl <;> decide

/-- There is such a function. -/
def FnOk (n : Int) (f : Nat) : Prop := 0 ≤ n ∧ n ≤ 5 ∧ f < 2 ^ 2 ^ n.toNat

theorem outside_any (n : Int) (f : Nat) (hf : f < 4294967296) (b : Bool) (hb : b = true ↔ ¬ FnOk n f) (w : World) :
    Calls Try.prog 13 #[.int .i64 n, .int .u32 (f : Int)] w fun e w' => e = .returned (.bool b) ∧ w' = w := by
  have HB := hid hb
  clear hb
  by_cases h1 : n < 0
  · have e : Hid (b = true) := HB.out.2 (fun h => by have := h.1; omega)
    clear HB
    go_enter Try.func13, Try.ntmps13
    go_wp2
    go_ret
    exact ⟨ret_bool e.out.symm, rfl⟩
  by_cases h2 : 5 < n
  · have e : Hid (b = true) := HB.out.2 (fun h => by have := h.2.1; omega)
    have h1' : decide (n < 0) = false := by simpa using h1
    clear HB
    go_enter Try.func13, Try.ntmps13
    go_wp2
    go_ret
    exact ⟨ret_bool e.out.symm, rfl⟩
  obtain ⟨k, rfl⟩ : ∃ k : Nat, n = (k : Int) := ⟨n.toNat, by omega⟩
  have e : Hid (b = true ↔ ¬ f < 2 ^ 2 ^ k) := by
    refine HB.out.trans ⟨fun h h2 => h ⟨by omega, by omega, by simpa using h2⟩, fun h h2 => h (by simpa using h2.2.2)⟩
  clear HB
  rcases (show k = 0 ∨ k = 1 ∨ k = 2 ∨ k = 3 ∨ k = 4 ∨ k = 5 by omega) with rfl | rfl | rfl | rfl | rfl | rfl
  all_goals
    go_enter Try.func13, Try.ntmps13
    go_wp2
    go_ret
    refine ⟨ret_bool ?_, rfl⟩
    have := e.out
    simp only [Nat.reducePow] at this
    cases b
    · simp at this ⊢
      omega
    · simp at this ⊢
      omega

theorem refCheck_any (n : Int) (f : Nat) (hf : f < 4294967296) (b : Bool) (hb : b = true ↔ FnOk n f) (w : World) :
    Calls Try.prog 12 #[.int .i64 n, .int .u32 (f : Int)] w fun e w' => e = .returned (.bool b) ∧ w' = w := by
  have HB := hid hb
  clear hb
  have hno : ¬ FnOk n f → b = false := fun h => by
    cases b
    · rfl
    · exact absurd (HB.out.1 rfl) h
  by_cases h1 : n < 0
  · have e : Hid (b = false) := hno (fun h => by have := h.1; omega)
    clear HB hno
    go_enter Try.func12, Try.ntmps12
    go_wp2
    go_ret
    exact ⟨ret_bool e.out.symm, rfl⟩
  by_cases h2 : 5 < n
  · have e : Hid (b = false) := hno (fun h => by have := h.2.1; omega)
    have h1' : decide (n < 0) = false := by simpa using h1
    clear HB hno
    go_enter Try.func12, Try.ntmps12
    go_wp2
    go_ret
    exact ⟨ret_bool e.out.symm, rfl⟩
  obtain ⟨k, rfl⟩ : ∃ k : Nat, n = (k : Int) := ⟨n.toNat, by omega⟩
  have e : Hid (b = true ↔ f < 2 ^ 2 ^ k) := by
    refine HB.out.trans ⟨fun h => by simpa using h.2.2, fun h => ⟨by omega, by omega, by simpa using h⟩⟩
  clear HB hno
  rcases (show k = 0 ∨ k = 1 ∨ k = 2 ∨ k = 3 ∨ k = 4 ∨ k = 5 by omega) with rfl | rfl | rfl | rfl | rfl | rfl
  all_goals
    go_enter Try.func12, Try.ntmps12
    go_wp2
    go_ret
    refine ⟨ret_bool ?_, rfl⟩
    have := e.out
    simp only [Nat.reducePow] at this
    cases b
    · simp at this ⊢
      try omega
    · simp at this ⊢
      try omega

end Go.Proofs.Ytpnjpkmlfbcnjab.Calls110
