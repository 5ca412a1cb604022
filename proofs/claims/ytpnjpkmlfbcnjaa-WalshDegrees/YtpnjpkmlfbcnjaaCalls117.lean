/-
  What the laws of package walsh share.
-/
import Derived.Test.YtpnjpkmlfbcnjaaCalls113
import Derived.Test.YtpnjpkmlfbcnjaaCalls115
import Derived.Test.YtpnjpkmlfbcnjaaCalls116
namespace Go.Proofs.Ytpnjpkmlfbcnjaa.Calls117
set_option linter.unusedVariables false
open Go.ChangeShapes Go.WideShapes Go.ChangeAt Go.RowKit Go.Deep Go.Proofs.Ytpnjpkmlfbcnjaa.Base Go.Proofs.Ytpnjpkmlfbcnjaa.Base2 Go.Proofs.Ytpnjpkmlfbcnjaa.Num34 Go.Proofs.Ytpnjpkmlfbcnjaa.Base4 Go.Proofs.Ytpnjpkmlfbcnjaa.Base6 Go.Proofs.Ytpnjpkmlfbcnjaa.Num41 Go.Proofs.Ytpnjpkmlfbcnjaa.Num42 Go.Proofs.Ytpnjpkmlfbcnjaa.Num57 Go.Proofs.Ytpnjpkmlfbcnjaa.Num58 Go.Proofs.Ytpnjpkmlfbcnjaa.Calls110

theorem u32_of {u : Int} (wu : (Lit.int .u32 u).wf = true) : ∃ M : Nat, M < 4294967296 ∧ u = (M : Int) := by
  simp [Lit.wf] at wu
  have m0 : IntKind.u32.min = 0 := by decide
  have m1 : IntKind.u32.max = 4294967295 := by decide
  exact ⟨u.toNat, by omega, by omega⟩

theorem i64_of {n : Int} (wn : (Lit.int .i64 n).wf = true) : -9223372036854775808 ≤ n ∧ n ≤ 9223372036854775807 := by
  simp [Lit.wf] at wn
  have m0 : IntKind.i64.min = -9223372036854775808 := by decide
  have m1 : IntKind.i64.max = 9223372036854775807 := by decide
  omega

theorem check_yes (n : Int) (f : Nat) (hf : f < 4294967296) (hF : FnOk n f) (w : World) :
    Calls Try.prog 10 #[.int .i64 n, .int .u32 (f : Int)] w fun e w' => e = .returned (.bool true) ∧ w' = w := refCheck_any n f hf true (by simp [hF]) w

theorem check_no (n : Int) (f : Nat) (hf : f < 4294967296) (hF : ¬ FnOk n f) (w : World) :
    Calls Try.prog 10 #[.int .i64 n, .int .u32 (f : Int)] w fun e w' => e = .returned (.bool false) ∧ w' = w := refCheck_any n f hf false (by simp [hF]) w

theorem fn_yes (n : Int) (f : Nat) (hf : f < 4294967296) (hF : FnOk n f) (w : World) :
    Calls Try.prog 18 #[.int .i64 n, .int .u32 (f : Int)] w fun e w' => e = .returned (.bool true) ∧ w' = w := by
  have cC := check_yes n f hf hF w
  clear hF
  go_enter Try.func18, Try.ntmps18
  go_wp2_with (go_at_call 10; refine cC.mono ?_; rintro e w1 ⟨rfl, rfl⟩)
  go_ret
  exact ⟨rfl, rfl⟩

theorem fn_no (n : Int) (f : Nat) (hf : f < 4294967296) (hF : ¬ FnOk n f) (w : World) :
    Calls Try.prog 18 #[.int .i64 n, .int .u32 (f : Int)] w fun e w' => e = .returned (.bool false) ∧ w' = w := by
  have cC := check_no n f hf hF w
  clear hF
  go_enter Try.func18, Try.ntmps18
  go_wp2_with (go_at_call 10; refine cC.mono ?_; rintro e w1 ⟨rfl, rfl⟩)
  go_ret
  exact ⟨rfl, rfl⟩

theorem fn_nat {n : Int} {f : Nat} (h : FnOk n f) : ∃ m N : Nat, n = (m : Int) ∧ m ≤ 5 ∧ N = 2 ^ m ∧ f < 2 ^ N := by
  obtain ⟨m, rfl⟩ : ∃ m : Nat, n = (m : Int) := ⟨n.toNat, by have := h.1; omega⟩
  exact ⟨m, 2 ^ m, rfl, by have := h.2.1; omega, rfl, by simpa using h.2.2⟩

end Go.Proofs.Ytpnjpkmlfbcnjaa.Calls117
