/-
  Package poly: the face of values.
-/
import Derived.Test.YtpnmepobdnclkaaCalls66
import Derived.Test.YtpnmepobdnclkaaCalls62
namespace Go.Proofs.Ytpnmepobdnclkaa.Calls67
set_option linter.unusedVariables false
open Go.ChangeShapes Go.WideShapes Go.ChangeAt Go.RowKit Go.Deep Go.Proofs.Ytpnmepobdnclkaa.Base Go.Proofs.Ytpnmepobdnclkaa.Base2 Go.Proofs.Ytpnmepobdnclkaa.Num Go.Proofs.Ytpnmepobdnclkaa.Num7 Go.Proofs.Ytpnmepobdnclkaa.Num13 Go.Proofs.Ytpnmepobdnclkaa.Num16 Go.Proofs.Ytpnmepobdnclkaa.Num17 Go.Proofs.Ytpnmepobdnclkaa.Num34 Go.Proofs.Ytpnmepobdnclkaa.Num35 Go.Proofs.Ytpnmepobdnclkaa.Base4 Go.Proofs.Ytpnmepobdnclkaa.Calls56 Go.Proofs.Ytpnmepobdnclkaa.Calls57 Go.Proofs.Ytpnmepobdnclkaa.Calls62 Go.Proofs.Ytpnmepobdnclkaa.Calls66

theorem At_bad (p : Int) (ao : Option Addr) (ca : Nat) (a : List Int) (ma : a.length ≤ 9223372036854775807) (x c : Int) (hc : PC p a c) (h0 : c ≠ 0) (w : World) (ra : IRow w ao a) :
    Calls Try.prog 49 #[.int .i64 p, .slice ao a.length ca, .int .i64 x] w fun e w' => e = .returned (.tuple #[.int .i64 0, .int .i64 c]) ∧ Below w.heap.size w w' := by
  have cC := Check_any p ao ca a ma c hc w ra
  generalize a.length = na at *
  have h1 : (c != 0) = true := by simpa using h0
  have h2 : (c == 0) = false := by simpa using h0
  clear hc ra
  go_enter Try.func49, Try.ntmps49
  go_wp2_with (go_at_call 43; refine cC.mono ?_; rintro e w1 ⟨rfl, hB⟩)
  go_ret2
  exact ⟨rfl, hB⟩

theorem At_far (P : Nat) (hP : Pr P) (hP2 : P ≤ 251) (ao : Option Addr) (ca : Nat) (a : List Int) (ha : a.length ≤ 13) (hca : Cn P a) (x : Int) (hx : x < -2147483648 ∨ 2147483648 < x) (w : World) (ra : IRow w ao a) :
    Calls Try.prog 49 #[.int .i64 (P : Int), .slice ao a.length ca, .int .i64 x] w fun e w' => e = .returned (.tuple #[.int .i64 0, .int .i64 2]) ∧ Below w.heap.size w w' := by
  have cC := Check_any (P : Int) ao ca a (by omega) 0 (PC.of hP hP2 ha hca) w ra
  generalize a.length = na at *
  clear hca ra
  rcases hx with hx | hx
  · go_enter Try.func49, Try.ntmps49
    go_wp2_with (go_at_call 43; refine cC.mono ?_; rintro e w1 ⟨rfl, hB⟩)
    go_ret2
    exact ⟨rfl, hB⟩
  · have hx2 : decide (x < -2147483648) = false := by simp; omega
    go_enter Try.func49, Try.ntmps49
    go_wp2_with (go_at_call 43; refine cC.mono ?_; rintro e w1 ⟨rfl, hB⟩)
    go_ret2
    exact ⟨rfl, hB⟩

theorem At_yes (P : Nat) (hP : Pr P) (hP2 : P ≤ 251) (ao : Option Addr) (ca : Nat) (a : List Int) (ha : a.length ≤ 13) (hca : Cn P a) (x : Int) (hx : -2147483648 ≤ x ∧ x ≤ 2147483648) (w : World) (ra : IRow w ao a) :
    Calls Try.prog 49 #[.int .i64 (P : Int), .slice ao a.length ca, .int .i64 x] w fun e w' => e = .returned (.tuple #[.int .i64 (rs (ev a x) P : Int), .int .i64 0]) ∧ Below w.heap.size w w' := by
  have cC := Check_any (P : Int) ao ca a (by omega) 0 (PC.of hP hP2 ha hca) w ra
  have cV := fun w' (hB : Below w.heap.size w w') => value_any P (by have := hP.1; omega) hP2 ao ca a x hx hca.1 (by omega) w' (irow_below ra hB (Nat.le_refl _))
  generalize rs (ev a x) P = r at *
  generalize a.length = na at *
  obtain ⟨hx1, hx2⟩ := hx
  have h1 : decide (x < -2147483648) = false := by simp; omega
  have h2 : decide (2147483648 < x) = false := by simp; omega
  clear hca ra
  go_enter Try.func49, Try.ntmps49
  go_wp2_with (first
    | (go_at_call 43; refine cC.mono ?_; rintro e w1 ⟨rfl, hB⟩)
    | (go_at_call 60; refine (cV _ hB).mono ?_; rintro e w2 ⟨rfl, hB2⟩))
  go_ret2
  exact ⟨rfl, below_trans hB hB2⟩

end Go.Proofs.Ytpnmepobdnclkaa.Calls67
