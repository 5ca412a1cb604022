/-
  Package poly: the faces of sums and products.
-/
import Derived.Test.YtpnmepobdnclkaaCalls59
import Derived.Test.YtpnmepobdnclkaaCalls61
namespace Go.Proofs.Ytpnmepobdnclkaa.Calls62
set_option linter.unusedVariables false
open Go.ChangeShapes Go.WideShapes Go.ChangeAt Go.RowKit Go.Deep Go.Proofs.Ytpnmepobdnclkaa.Base Go.Proofs.Ytpnmepobdnclkaa.Base2 Go.Proofs.Ytpnmepobdnclkaa.Num Go.Proofs.Ytpnmepobdnclkaa.Num13 Go.Proofs.Ytpnmepobdnclkaa.Num16 Go.Proofs.Ytpnmepobdnclkaa.Num17 Go.Proofs.Ytpnmepobdnclkaa.Num34 Go.Proofs.Ytpnmepobdnclkaa.Base4 Go.Proofs.Ytpnmepobdnclkaa.Calls56 Go.Proofs.Ytpnmepobdnclkaa.Calls57 Go.Proofs.Ytpnmepobdnclkaa.Calls58 Go.Proofs.Ytpnmepobdnclkaa.Calls59 Go.Proofs.Ytpnmepobdnclkaa.Calls61

/-- The call has returned a slice that reads as r, and no error. -/
def RetE (r : List Int) (e : Ending) (w' : World) : Prop := ∃ bo cb, e = .returned (.tuple #[.slice bo r.length cb, .int .i64 0]) ∧ r.length ≤ cb ∧ IRow w' bo r

/-- The code of two. -/
def cd2 (c d : Int) : Int := if c = 0 then d else c

theorem cd2_zero {c d : Int} (h : cd2 c d = 0) : c = 0 ∧ d = 0 := by
  unfold cd2 at h
  by_cases h0 : c = 0
  · rw [if_pos h0] at h; exact ⟨h0, h⟩
  · rw [if_neg h0] at h; exact absurd h h0

/-- Two polynomials by one prime. -/
theorem both_ok {p : Int} {a b : List Int} {c d : Int} (hc : PC p a c) (hd : PC p b d) (h : cd2 c d = 0) : ∃ P : Nat, p = (P : Int) ∧ Pr P ∧ P ≤ 251 ∧ a.length ≤ 13 ∧ Cn P a ∧ b.length ≤ 13 ∧ Cn P b := by
  obtain ⟨rfl, rfl⟩ := cd2_zero h
  obtain ⟨P, rfl, h1, h2, h3, h4⟩ := hc.ok
  obtain ⟨P', e, _, _, h5, h6⟩ := hd.ok
  have : P' = P := by omega
  subst this
  exact ⟨P', rfl, h1, h2, h3, h4, h5, h6⟩

end Go.Proofs.Ytpnmepobdnclkaa.Calls62
