/-
  The document's question over rows that are written out.
-/
import Derived.Test.YtpflkihagebmlaaCalls159
import Derived.Test.YtpflkihagebmlaaCalls160
namespace Go.Proofs.Ytpflkihagebmlaa.Calls161
set_option linter.unusedVariables false
open Go.ChangeShapes Go.WideShapes Go.ChangeAt Go.RowKit Go.Deep Go.Proofs.Ytpflkihagebmlaa.Base Go.Proofs.Ytpflkihagebmlaa.Base2 Go.Proofs.Ytpflkihagebmlaa.Num Go.Proofs.Ytpflkihagebmlaa.Num56 Go.Proofs.Ytpflkihagebmlaa.Base4 Go.Proofs.Ytpflkihagebmlaa.Calls157 Go.Proofs.Ytpflkihagebmlaa.Calls158 Go.Proofs.Ytpflkihagebmlaa.Calls159 Go.Proofs.Ytpflkihagebmlaa.Calls160

theorem ak10 (P Q G H a : Int) (wr : World) (n : Nat) (hn : n = wr.heap.size) :
    Calls Try.prog 10 #[.agg #[.int .i64 P, .int .i64 Q, .int .i64 G, .int .i64 H], .slice (some ⟨n, 0, none⟩) 1 1, .slice none 0 0] (wr.alloc (.cells #[.int .i64 a] 2)) fun e w' => e = .returned (.int .i64 (aC P Q G H [a] [])) ∧ Below wr.heap.size wr w' := by
  subst hn
  exact (refAsk_any P Q G H _ none 1 0 [a] [] (by simp) (by simp) _ (irow_one wr a) (irow_nil _ _)).mono fun e w' h => ⟨h.1, below_trans (alloc_b wr _) h.2⟩

theorem ak11 (P Q G H a x : Int) (wr : World) (n : Nat) (hn : n = wr.heap.size) :
    Calls Try.prog 10 #[.agg #[.int .i64 P, .int .i64 Q, .int .i64 G, .int .i64 H], .slice (some ⟨n, 0, none⟩) 1 1, .slice (some ⟨n + 1, 0, none⟩) 1 1] ((wr.alloc (.cells #[.int .i64 a] 2)).alloc (.cells #[.int .i64 x] 2)) fun e w' => e = .returned (.int .i64 (aC P Q G H [a] [x])) ∧ Below wr.heap.size wr w' := by
  subst hn
  exact (refAsk_any P Q G H _ _ 1 1 [a] [x] (by simp) (by simp) _ (ib (irow_one wr a) (alloc_b _ _)) (irow_one' wr _ x)).mono fun e w' h => ⟨h.1, below_trans (alloc_b2 wr _ _) h.2⟩

theorem ak12 (P Q G H a x y : Int) (wr : World) (n : Nat) (hn : n = wr.heap.size) :
    Calls Try.prog 10 #[.agg #[.int .i64 P, .int .i64 Q, .int .i64 G, .int .i64 H], .slice (some ⟨n, 0, none⟩) 1 1, .slice (some ⟨n + 1, 0, none⟩) 2 2] ((wr.alloc (.cells #[.int .i64 a] 2)).alloc (.cells #[.int .i64 x, .int .i64 y] 2)) fun e w' => e = .returned (.int .i64 (aC P Q G H [a] [x, y])) ∧ Below wr.heap.size wr w' := by
  subst hn
  exact (refAsk_any P Q G H _ _ 1 2 [a] [x, y] (by simp) (by simp) _ (ib (irow_one wr a) (alloc_b _ _)) (irow_two' wr _ x y)).mono fun e w' h => ⟨h.1, below_trans (alloc_b2 wr _ _) h.2⟩

theorem ak04 (P Q G H x y z v : Int) (wr : World) (n : Nat) (hn : n = wr.heap.size) :
    Calls Try.prog 10 #[.agg #[.int .i64 P, .int .i64 Q, .int .i64 G, .int .i64 H], .slice none 0 0, .slice (some ⟨n, 0, none⟩) 4 4] (wr.alloc (.cells #[.int .i64 x, .int .i64 y, .int .i64 z, .int .i64 v] 2)) fun e w' => e = .returned (.int .i64 (aC P Q G H [] [x, y, z, v])) ∧ Below wr.heap.size wr w' := by
  subst hn
  exact (refAsk_any P Q G H none _ 0 4 [] [x, y, z, v] (by simp) (by simp) _ (irow_nil _ _) (irow_four wr x y z v)).mono fun e w' h => ⟨h.1, below_trans (alloc_b wr _) h.2⟩

end Go.Proofs.Ytpflkihagebmlaa.Calls161
