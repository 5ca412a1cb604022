/-
  The document's question over three exponents; boxes that are kept.
-/
import Derived.Test.YtpflkihagebmlaaCalls170
import Derived.Test.YtpflkihagebmlaaCalls171
import Derived.Test.YtpflkihagebmlaaCalls172
import Derived.Test.YtpflkihagebmlaaCalls173
import Derived.Deep.QuietTactic
import Derived.BigQuiet
namespace Go.Proofs.Ytpflkihagebmlaa.Calls174
set_option linter.unusedVariables false
open Go.ChangeShapes Go.WideShapes Go.ChangeAt Go.RowKit Go.Deep Go.Proofs.Ytpflkihagebmlaa.Base Go.Proofs.Ytpflkihagebmlaa.Base2 Go.Proofs.Ytpflkihagebmlaa.Num Go.Proofs.Ytpflkihagebmlaa.Num16 Go.Proofs.Ytpflkihagebmlaa.Num56 Go.Proofs.Ytpflkihagebmlaa.Base4 Go.Proofs.Ytpflkihagebmlaa.Calls157 Go.Proofs.Ytpflkihagebmlaa.Calls158 Go.Proofs.Ytpflkihagebmlaa.Calls159 Go.Proofs.Ytpflkihagebmlaa.Calls160 Go.Proofs.Ytpflkihagebmlaa.Calls167

theorem ak30 (P Q G H a b c : Int) (wr : World) (n : Nat) (hn : n = wr.heap.size) :
    Calls Try.prog 10 #[.agg #[.int .i64 P, .int .i64 Q, .int .i64 G, .int .i64 H], .slice (some ⟨n, 0, none⟩) 3 3, .slice none 0 0] (wr.alloc (.cells #[.int .i64 a, .int .i64 b, .int .i64 c] 2)) fun e w' => e = .returned (.int .i64 (aC P Q G H [a, b, c] [])) ∧ Below wr.heap.size wr w' := by
  subst hn
  exact (refAsk_any P Q G H _ none 3 0 [a, b, c] [] (by simp) (by simp) _ (irow3 wr a b c) (irow_nil _ _)).mono fun e w' h => ⟨h.1, below_trans (alloc_b wr _) h.2⟩

theorem ak2' (P Q G H a b : Int) (wr : World) (n : Nat) (hn : n = wr.heap.size) :
    Calls Try.prog 10 #[.agg #[.int .i64 P, .int .i64 Q, .int .i64 G, .int .i64 H], .slice (some ⟨n, 0, none⟩) 2 2, .slice none 0 0] (wr.alloc (.cells #[.int .i64 a, .int .i64 b] 2)) fun e w' => e = .returned (.int .i64 (aC P Q G H [a, b] [])) ∧ Below wr.heap.size wr w' := by
  subst hn
  exact (refAsk_any P Q G H _ none 2 0 [a, b] [] (by simp) (by simp) _ (irow_two wr a b) (irow_nil _ _)).mono fun e w' h => ⟨h.1, below_trans (alloc_b wr _) h.2⟩

theorem me3 {p q a b c : Nat} (ha : Mem p q a) (hb : Mem p q b) (hc : Mem p q c) : ∀ x ∈ [(a : Int), (b : Int), (c : Int)], ∃ n : Nat, x = (n : Int) ∧ Mem p q n := fun x hx => by
  simp at hx
  rcases hx with rfl | rfl | rfl
  · exact ⟨a, rfl, ha⟩
  · exact ⟨b, rfl, hb⟩
  · exact ⟨c, rfl, hc⟩

/-- A box that was made ahead of a call lies there behind it. -/
theorem bxk {W W' : World} {B : Nat} {t : TypeId} {cs : Array Value} (h : BoxC W B t cs) (hb : Below W.heap.size W W') : BoxC W' B t cs := (hb.block B h.lt).trans h

end Go.Proofs.Ytpflkihagebmlaa.Calls174
