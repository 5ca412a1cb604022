/-
  Package poly: the faces of quotients and of what divides both.
-/
import Derived.Test.YtjpmkcijkcnfiabCalls60
import Derived.Test.YtjpmkcijkcnfiabCalls62
import Derived.Test.YtjpmkcijkcnfiabFoldB
namespace Go.Proofs.Ytjpmkcijkcnfiab.Calls63
set_option linter.unusedVariables false
open Go.ChangeShapes Go.WideShapes Go.ChangeAt Go.RowKit Go.Deep Go.Proofs.Ytjpmkcijkcnfiab.Base Go.Proofs.Ytjpmkcijkcnfiab.Base2 Go.Proofs.Ytjpmkcijkcnfiab.Num Go.Proofs.Ytjpmkcijkcnfiab.Num13 Go.Proofs.Ytjpmkcijkcnfiab.Num16 Go.Proofs.Ytjpmkcijkcnfiab.Num17 Go.Proofs.Ytjpmkcijkcnfiab.Num34 Go.Proofs.Ytjpmkcijkcnfiab.Num35 Go.Proofs.Ytjpmkcijkcnfiab.Base4 Go.Proofs.Ytjpmkcijkcnfiab.Calls56 Go.Proofs.Ytjpmkcijkcnfiab.Calls57 Go.Proofs.Ytjpmkcijkcnfiab.Calls58 Go.Proofs.Ytjpmkcijkcnfiab.Calls59 Go.Proofs.Ytjpmkcijkcnfiab.Calls60 Go.Proofs.Ytjpmkcijkcnfiab.Calls62

/-- The call has returned quotient and rest, and no error. -/
def DivE (p : Nat) (a b : List Int) (e : Ending) (w' : World) : Prop := ∃ q r, DivIs p a b q r ∧ ∃ bo cb co' cc, e = .returned (.tuple #[.slice bo q.length cb, .slice co' r.length cc, .int .i64 0]) ∧ q.length ≤ cb ∧ IRow w' bo q ∧ r.length ≤ cc ∧ IRow w' co' r

theorem DivIs.qlen {p : Nat} (hp : Pr p) {a b q r : List Int} (hb : Cn p b) (nb : b ≠ []) (h : DivIs p a b q r) : q.length ≤ a.length := by
  obtain ⟨h1, h2, h3, h4⟩ := h
  rcases Classical.em (q = []) with e | nq
  · subst e; simp
  · have ht := top_mul hp h1 hb nq nb
    have lq := pos_of_ne nq
    have lb := pos_of_ne nb
    have h5 := h4 ((q.length - 1) + (b.length - 1))
    rw [co_padd, co_over (l := r) (by omega), Int.add_zero] at h5
    have h6 : (q.length - 1) + (b.length - 1) < a.length := by
      rcases Nat.lt_or_ge ((q.length - 1) + (b.length - 1)) a.length with h | h
      · exact h
      · rw [co_over h] at h5
        exact absurd (by simpa using h5) ht
    omega

/-- The call has returned what divides both, and no error. -/
def GcdE (p : Nat) (a b : List Int) (e : Ending) (w' : World) : Prop := ∃ g, GcdIs p a b g ∧ g.length ≤ 13 ∧ RetE g e w'

end Go.Proofs.Ytjpmkcijkcnfiab.Calls63
