/-
  The statements' question over four exponents; what Commit answers at all arguments.
-/
import Derived.Test.YtlpbohkjiddelaaCalls162
import Derived.Test.YtlpbohkjiddelaaCalls165
namespace Go.Proofs.Ytlpbohkjiddelaa.Calls166
set_option linter.unusedVariables false
open Go.ChangeShapes Go.WideShapes Go.ChangeAt Go.RowKit Go.Deep Go.Proofs.Ytlpbohkjiddelaa.Base Go.Proofs.Ytlpbohkjiddelaa.Base2 Go.Proofs.Ytlpbohkjiddelaa.Num Go.Proofs.Ytlpbohkjiddelaa.Num16 Go.Proofs.Ytlpbohkjiddelaa.Num56 Go.Proofs.Ytlpbohkjiddelaa.Base4 Go.Proofs.Ytlpbohkjiddelaa.Calls157 Go.Proofs.Ytlpbohkjiddelaa.Calls158 Go.Proofs.Ytlpbohkjiddelaa.Calls160 Go.Proofs.Ytlpbohkjiddelaa.Calls162 Go.Proofs.Ytlpbohkjiddelaa.Calls163 Go.Proofs.Ytlpbohkjiddelaa.Calls165

theorem pk4 (P Q G H a b c d : Int) (v : Bool) (hv : v = true ↔ aC P Q G H [a, b, c, d] [] = 0) (wr : World) :
    Calls Try.prog 15 #[.agg #[.int .i64 P, .int .i64 Q, .int .i64 G, .int .i64 H], .slice (some ⟨wr.heap.size, 0, none⟩) 4 4] (wr.alloc (.cells #[.int .i64 a, .int .i64 b, .int .i64 c, .int .i64 d] 2)) fun e w' => e = .returned (.bool v) ∧ Below wr.heap.size wr w' :=
  (powers_any P Q G H _ 4 [a, b, c, d] (by simp) v hv _ (irow_four wr a b c d)).mono fun e w' h => ⟨h.1, below_trans (alloc_b wr _) h.2⟩

theorem Commit_any (P Q G H m r : Int) : ∃ x : Int, ∀ w, Calls Try.prog 9 #[.agg #[.int .i64 P, .int .i64 Q, .int .i64 G, .int .i64 H], .int .i64 m, .int .i64 r] w fun e w' => e = .returned (.tuple #[.int .i64 x, .int .i64 (aC P Q G H [m, r] [])]) ∧ Below w.heap.size w w' := by
  by_cases h : aC P Q G H [m, r] [] = 0
  · obtain ⟨p, q, g, k, rfl, rfl, rfl, rfl, hG, h1, _⟩ := aC_zero h
    obtain ⟨a, rfl, ha⟩ := h1 m (by simp)
    obtain ⟨b, rfl, hb⟩ := h1 r (by simp)
    exact ⟨_, fun w => by rw [h]; exact Commit_yes p q g k a b hG ha hb w⟩
  · exact ⟨0, fun w => Commit_bad P Q G H m r h w⟩

end Go.Proofs.Ytlpbohkjiddelaa.Calls166
