/-
  The document's polynomials: what is left, in all cases; what divides both.
-/
import Derived.Test.YtjpmkcijkcnfiaaCalls64
namespace Go.Proofs.Ytjpmkcijkcnfiaa.Calls65
set_option linter.unusedVariables false
open Go.ChangeShapes Go.WideShapes Go.ChangeAt Go.RowKit Go.Deep Go.Proofs.Ytjpmkcijkcnfiaa.Base Go.Proofs.Ytjpmkcijkcnfiaa.Base2 Go.Proofs.Ytjpmkcijkcnfiaa.Num Go.Proofs.Ytjpmkcijkcnfiaa.Num13 Go.Proofs.Ytjpmkcijkcnfiaa.Num16 Go.Proofs.Ytjpmkcijkcnfiaa.Num17 Go.Proofs.Ytjpmkcijkcnfiaa.Num34 Go.Proofs.Ytjpmkcijkcnfiaa.Num35 Go.Proofs.Ytjpmkcijkcnfiaa.Base4 Go.Proofs.Ytjpmkcijkcnfiaa.Calls56 Go.Proofs.Ytjpmkcijkcnfiaa.Calls57 Go.Proofs.Ytjpmkcijkcnfiaa.Calls58 Go.Proofs.Ytjpmkcijkcnfiaa.Calls59 Go.Proofs.Ytjpmkcijkcnfiaa.Calls60 Go.Proofs.Ytjpmkcijkcnfiaa.Calls61 Go.Proofs.Ytjpmkcijkcnfiaa.Calls62 Go.Proofs.Ytjpmkcijkcnfiaa.Calls63 Go.Proofs.Ytjpmkcijkcnfiaa.Calls64

theorem refLeft_any (p : Nat) (hP : Pr p) (hp : p ≤ 251) (ao bo : Option Addr) (ca cb : Nat) (a b : List Int) (ha : Cn p a) (hb : Cn p b) (nb0 : b ≠ []) (hla : a.length ≤ 4096) (hlb : b.length ≤ 4096) (w : World) (ra : IRow w ao a) (rb : IRow w bo b) :
    Calls Try.prog 30 #[.int .i64 (p : Int), .slice ao a.length ca, .slice bo b.length cb] w fun e w' => LeftR p a b e w' ∧ Below w.heap.size w w' := by
  by_cases h : a.length < b.length
  · exact refLeft_short p (by have := hP.1; omega) ao bo ca cb a b ha hla hlb h w ra
  · exact refLeft_long p hP hp ao bo ca cb a b ha hb nb0 hla (by omega) w ra rb

theorem irow_one (W : World) (x : Int) : IRow (W.alloc (.cells #[.int .i64 x] 2)) (some ⟨W.heap.size, 0, none⟩) [x] := by
  refine ⟨fun e => (by cases e), fun ad e j hj => ?_⟩
  obtain rfl : (⟨W.heap.size, 0, none⟩ : Addr) = ad := by simpa using e
  obtain rfl : j = 0 := by simpa using hj
  have := one_cell (W := W) (t := 2) (a := .int .i64 x) 0 (.int .i64 x) rfl
  simpa [co] using this

/-- The call has returned what divides both. -/
def GcdR (p : Nat) (a b : List Int) (e : Ending) (w' : World) : Prop := ∃ g, GcdIs p a b g ∧ g.length ≤ 13 ∧ RetL g e w'

end Go.Proofs.Ytjpmkcijkcnfiaa.Calls65
