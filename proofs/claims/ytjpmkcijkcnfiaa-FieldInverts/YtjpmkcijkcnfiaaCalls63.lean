/-
  Package poly: the faces of quotients and of what divides both.
-/
import Derived.Test.YtjpmkcijkcnfiaaCalls60
import Derived.Test.YtjpmkcijkcnfiaaCalls62
import Derived.Test.YtjpmkcijkcnfiaaFoldB
namespace Go.Proofs.Ytjpmkcijkcnfiaa.Calls63
set_option linter.unusedVariables false
open Go.ChangeShapes Go.WideShapes Go.ChangeAt Go.RowKit Go.Deep Go.Proofs.Ytjpmkcijkcnfiaa.Base Go.Proofs.Ytjpmkcijkcnfiaa.Base2 Go.Proofs.Ytjpmkcijkcnfiaa.Num Go.Proofs.Ytjpmkcijkcnfiaa.Num13 Go.Proofs.Ytjpmkcijkcnfiaa.Num16 Go.Proofs.Ytjpmkcijkcnfiaa.Num17 Go.Proofs.Ytjpmkcijkcnfiaa.Num34 Go.Proofs.Ytjpmkcijkcnfiaa.Num35 Go.Proofs.Ytjpmkcijkcnfiaa.Base4 Go.Proofs.Ytjpmkcijkcnfiaa.Calls56 Go.Proofs.Ytjpmkcijkcnfiaa.Calls57 Go.Proofs.Ytjpmkcijkcnfiaa.Calls58 Go.Proofs.Ytjpmkcijkcnfiaa.Calls59 Go.Proofs.Ytjpmkcijkcnfiaa.Calls60 Go.Proofs.Ytjpmkcijkcnfiaa.Calls62

/-- The call has returned quotient and rest, and no error. -/
def DivE (p : Nat) (a b : List Int) (e : Ending) (w' : World) : Prop := ∃ q r, DivIs p a b q r ∧ ∃ bo cb co' cc, e = .returned (.tuple #[.slice bo q.length cb, .slice co' r.length cc, .int .i64 0]) ∧ q.length ≤ cb ∧ IRow w' bo q ∧ r.length ≤ cc ∧ IRow w' co' r

theorem DivIs.qlen {p : Nat} (hp : Pr p) {a b q r : List Int} (hb : Cn p b) (nb : b ≠ []) (h : DivIs p a b q r) : q.length ≤ a.length := by
  obtain ⟨h1, h2, h3, h4⟩ := h
  rcases Classical.em (q = []) with e | nq
  · subst e; simp
  · have ht := top_mul hp h1 hb nq nb
    have lq := pos_of_ne nq
    have lb := pos_of_ne nb
    have h5 := h4 ((q.length - 1) + (b.length - 1))
    rw [co_padd, co_over (l := r) (by omega), Int.add_zero] at h5
    have h6 : (q.length - 1) + (b.length - 1) < a.length := by
      rcases Nat.lt_or_ge ((q.length - 1) + (b.length - 1)) a.length with h | h
      · exact h
      · rw [co_over h] at h5
        exact absurd (by simpa using h5) ht
    omega

/-- The call has returned what divides both, and no error. -/
def GcdE (p : Nat) (a b : List Int) (e : Ending) (w' : World) : Prop := ∃ g, GcdIs p a b g ∧ g.length ≤ 13 ∧ RetE g e w'

end Go.Proofs.Ytjpmkcijkcnfiaa.Calls63
