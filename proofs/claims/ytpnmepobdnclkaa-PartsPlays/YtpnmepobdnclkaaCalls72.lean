/-
  What is wrong with points, by the document.
-/
import Derived.Test.YtpnmepobdnclkaaCalls69
import Derived.Test.YtpnmepobdnclkaaCalls61
import Derived.Deep.QuietTactic
import Derived.BigQuiet
namespace Go.Proofs.Ytpnmepobdnclkaa.Calls72
set_option linter.unusedVariables false
open Go.ChangeShapes Go.WideShapes Go.ChangeAt Go.RowKit Go.Deep Go.Proofs.Ytpnmepobdnclkaa.Base Go.Proofs.Ytpnmepobdnclkaa.Num Go.Proofs.Ytpnmepobdnclkaa.Num13 Go.Proofs.Ytpnmepobdnclkaa.Num16 Go.Proofs.Ytpnmepobdnclkaa.Num17 Go.Proofs.Ytpnmepobdnclkaa.Num34 Go.Proofs.Ytpnmepobdnclkaa.Num35 Go.Proofs.Ytpnmepobdnclkaa.Base4 Go.Proofs.Ytpnmepobdnclkaa.Calls56 Go.Proofs.Ytpnmepobdnclkaa.Calls57 Go.Proofs.Ytpnmepobdnclkaa.Calls69

theorem al {w W : World} (h : Below w.heap.size w W) (o : Obj) : Below w.heap.size w (W.alloc o) := h.alloc h.size o

theorem inp_step {p : Int} {l : List (Int × Int)} {k : Nat} (h : InP p l k) (hk : (0 ≤ px l k ∧ px l k < p) ∧ 0 ≤ py l k ∧ py l k < p) : InP p l (k + 1) := fun j hj => by
  by_cases e : j = k
  · subst e; exact hk
  · exact h j (by omega)

def Diff (l : List (Int × Int)) (i k : Nat) : Prop := ∀ j, j < k → px l i ≠ px l j

theorem dis_next {l : List (Int × Int)} {k : Nat} (h : Dis l k) (hn : Diff l k k) : Dis l (k + 1) := fun i j hi hj => by
  by_cases e : i = k
  · subst e; exact hn j hj
  · exact h i j (by omega) hj

theorem diff_next {l : List (Int × Int)} {i k : Nat} (h : Diff l i k) (hn : px l i ≠ px l k) : Diff l i (k + 1) := fun j hj => by
  by_cases e : j = k
  · subst e; exact hn
  · exact h j (by omega)

end Go.Proofs.Ytpnmepobdnclkaa.Calls72
