/-
  What is mixed of a number and a byte: package hash's Step, the document's.
-/
import Derived.Test.YtpflkihagebmlabBase
import Derived.Test.YtpflkihagebmlabNum55
import Derived.Laws.BitsAllLaws
namespace Go.Proofs.Ytpflkihagebmlab.Calls125
set_option linter.unusedVariables false
open Go.ChangeShapes Go.WideShapes Go.ChangeAt Go.RowKit Go.Deep Go.Proofs.Ytpflkihagebmlab.Base Go.Proofs.Ytpflkihagebmlab.Num55

theorem xor_lt32 {a b : Nat} (ha : a < 4294967296) (hb : b < 4294967296) : a ^^^ b < 4294967296 := Nat.xor_lt_two_pow (n := 32) ha hb

theorem wrap_in (x : Int) (h1 : -9223372036854775808 ≤ x) (h2 : x ≤ 9223372036854775807) : IntKind.i64.wrap x = x := by
  rw [IntKind.wrap_i64]; omega

theorem and_i64 {a b : Nat} (ha : a < 4294967296) (hb : b < 4294967296) : bits .and .i64 (a : Int) (b : Int) = ((a &&& b : Nat) : Int) := by
  have h1 : ∀ k : Nat, k < 4294967296 → (BitVec.ofInt 64 (k : Int)).toNat = k := fun k hk => by
    rw [BitVec.ofInt_natCast, BitVec.toNat_ofNat]; exact Nat.mod_eq_of_lt (by omega)
  have hl : a &&& b ≤ a := Nat.and_le_left
  show IntKind.i64.wrap ((BitVec.ofInt 64 (a : Int) &&& BitVec.ofInt 64 (b : Int)).toNat : Int) = _
  rw [BitVec.toNat_and, h1 a ha, h1 b hb]
  have h3 : -9223372036854775808 ≤ ((a &&& b : Nat) : Int) := by omega
  have h4 : ((a &&& b : Nat) : Int) ≤ 9223372036854775807 := by omega
  exact wrap_in _ h3 h4

set_option maxRecDepth 100000 in
theorem Step_any (h b : Nat) (hh : h < 4294967296) (hb : b < 256) (w : World) :
    Calls Try.prog 53 #[.int .u32 (h : Int), .int .u8 (b : Int)] w fun e w' => e = .returned (.int .u32 ((stp h b : Nat) : Int)) ∧ w' = w := by
  have hx := u32_xor_nat h b hh (by omega)
  have hxl := xor_lt32 (b := b) hh (by omega)
  have hfin : ∀ y : Nat, y < 65536 → bits .xor .u32 (y : Int) ((y : Int) / 128) = ((scr y : Nat) : Int) := fun y hy => by
    have := u32_xor_nat y (y / 128) (by omega) (by omega)
    simpa [scr] using this
  have hs : stp h b = scr ((h ^^^ b) * 40503 % 65536) := rfl
  rw [hs]
  have hS := hid hs
  clear hs
  generalize h ^^^ b = x at *
  have hm : ((x : Int) * 40503 % 4294967296).tmod 65536 = ((x * 40503 % 65536 : Nat) : Int) := by
    rw [Int.tmod_eq_emod_of_nonneg (by omega)]; omega
  have hy : x * 40503 % 65536 < 65536 := Nat.mod_lt _ (by decide)
  have hf := hfin _ hy
  clear hfin
  generalize x * 40503 % 65536 = y at *
  go_enter Try.func53, Try.ntmps53
  go_wp2
  go_ret
  exact ⟨rfl, rfl⟩

set_option maxRecDepth 100000 in
theorem mixed_any (a b : Nat) (ha : a < 4294967296) (hb : b < 4294967296) (w : World) :
    Calls Try.prog 54 #[.int .i64 (a : Int), .int .i64 (b : Int)] w fun e w' => e = .returned (.int .i64 ((a ^^^ b : Nat) : Int)) ∧ w' = w := by
  have hand := and_i64 ha hb
  have hl : a &&& b ≤ a := Nat.and_le_left
  have hxl := xor_lt32 ha hb
  have hm := mixed_eq a b
  generalize a &&& b = c at *
  generalize a ^^^ b = x at *
  have hc0 : (0 : Int) ≤ (c : Int) := by omega
  have hc1 : (c : Int) ≤ 4294967296 := by omega
  have hm' := hid hm
  clear hm
  go_enter Try.func54, Try.ntmps54
  go_wp2
  go_ret
  exact ⟨ret_int hm'.out, rfl⟩

set_option maxRecDepth 100000 in
theorem refStep_any (h b : Nat) (hh : h < 4294967296) (hb : b < 256) (w : World) :
    Calls Try.prog 38 #[.int .i64 (h : Int), .int .i64 (b : Int)] w fun e w' => e = .returned (.int .i64 ((stp h b : Nat) : Int)) ∧ w' = w := by
  have cA := mixed_any h b hh (by omega) w
  have hxl := xor_lt32 (b := b) hh (by omega)
  have hs : stp h b = scr ((h ^^^ b) * 40503 % 65536) := rfl
  rw [hs]
  clear hs
  generalize h ^^^ b = x at *
  have hm : ((x : Int) * 40503).tmod 65536 = ((x * 40503 % 65536 : Nat) : Int) := by
    rw [Int.tmod_eq_emod_of_nonneg (by omega)]; omega
  have hy : x * 40503 % 65536 < 65536 := Nat.mod_lt _ (by decide)
  generalize x * 40503 % 65536 = y at *
  have cB := mixed_any y (y / 128) (by omega) (by omega) w
  have hq : ((y / 128 : Nat) : Int) = (y : Int) / 128 := by omega
  rw [hq] at cB
  clear hq
  have hx2 : (x : Int) * 40503 ≤ 9223372036854775807 := by omega
  go_enter Try.func38, Try.ntmps38
  go_wp2_with (go_at_call 54; first | (refine cA.mono ?_; rintro e w2 ⟨rfl, hw⟩; subst hw; clear cA) | (refine cB.mono ?_; rintro e w2 ⟨rfl, hw⟩; subst hw))
  go_ret
  exact ⟨rfl, rfl⟩

end Go.Proofs.Ytpflkihagebmlab.Calls125
