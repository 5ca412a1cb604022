/-
  Package poly: the faces of sums and products.
-/
import Derived.Test.YtjpmkcijkcnfiaaCalls59
import Derived.Test.YtjpmkcijkcnfiaaCalls61
namespace Go.Proofs.Ytjpmkcijkcnfiaa.Calls62
set_option linter.unusedVariables false
open Go.ChangeShapes Go.WideShapes Go.ChangeAt Go.RowKit Go.Deep Go.Proofs.Ytjpmkcijkcnfiaa.Base Go.Proofs.Ytjpmkcijkcnfiaa.Base2 Go.Proofs.Ytjpmkcijkcnfiaa.Num Go.Proofs.Ytjpmkcijkcnfiaa.Num13 Go.Proofs.Ytjpmkcijkcnfiaa.Num16 Go.Proofs.Ytjpmkcijkcnfiaa.Num17 Go.Proofs.Ytjpmkcijkcnfiaa.Num34 Go.Proofs.Ytjpmkcijkcnfiaa.Base4 Go.Proofs.Ytjpmkcijkcnfiaa.Calls56 Go.Proofs.Ytjpmkcijkcnfiaa.Calls57 Go.Proofs.Ytjpmkcijkcnfiaa.Calls58 Go.Proofs.Ytjpmkcijkcnfiaa.Calls59 Go.Proofs.Ytjpmkcijkcnfiaa.Calls61

/-- The call has returned a slice that reads as r, and no error. -/
def RetE (r : List Int) (e : Ending) (w' : World) : Prop := ∃ bo cb, e = .returned (.tuple #[.slice bo r.length cb, .int .i64 0]) ∧ r.length ≤ cb ∧ IRow w' bo r

/-- The code of two. -/
def cd2 (c d : Int) : Int := if c = 0 then d else c

theorem cd2_zero {c d : Int} (h : cd2 c d = 0) : c = 0 ∧ d = 0 := by
  unfold cd2 at h
  by_cases h0 : c = 0
  · rw [if_pos h0] at h; exact ⟨h0, h⟩
  · rw [if_neg h0] at h; exact absurd h h0

/-- Two polynomials by one prime. -/
theorem both_ok {p : Int} {a b : List Int} {c d : Int} (hc : PC p a c) (hd : PC p b d) (h : cd2 c d = 0) : ∃ P : Nat, p = (P : Int) ∧ Pr P ∧ P ≤ 251 ∧ a.length ≤ 13 ∧ Cn P a ∧ b.length ≤ 13 ∧ Cn P b := by
  obtain ⟨rfl, rfl⟩ := cd2_zero h
  obtain ⟨P, rfl, h1, h2, h3, h4⟩ := hc.ok
  obtain ⟨P', e, _, _, h5, h6⟩ := hd.ok
  have : P' = P := by omega
  subst this
  exact ⟨P', rfl, h1, h2, h3, h4, h5, h6⟩

theorem Add_bad (p : Int) (ao bo : Option Addr) (ca cb : Nat) (a b : List Int) (ma : a.length ≤ 9223372036854775807) (mb : b.length ≤ 9223372036854775807) (c d : Int) (hc : PC p a c) (hd : PC p b d) (h0 : cd2 c d ≠ 0) (w : World) (ra : IRow w ao a) (rb : IRow w bo b) :
    Calls Try.prog 39 #[.int .i64 p, .slice ao a.length ca, .slice bo b.length cb] w fun e w' => e = .returned (.tuple #[.slice none 0 0, .int .i64 (cd2 c d)]) ∧ Below w.heap.size w w' := by
  have cC := checkBoth_any p ao bo ca cb a b ma mb c d hc hd w ra rb
  rw [show (if c = 0 then d else c) = cd2 c d from rfl] at cC
  generalize cd2 c d = x at *
  generalize a.length = na at *
  generalize b.length = nb at *
  have h1 : (x != 0) = true := by simpa using h0
  have h2 : (x == 0) = false := by simpa using h0
  clear hc hd ra rb
  go_enter Try.func39, Try.ntmps39
  go_wp2_with (go_at_call 56; refine cC.mono ?_; rintro e w1 ⟨rfl, hB⟩)
  go_ret2
  exact ⟨rfl, hB⟩

theorem Add_yes (P : Nat) (hP : Pr P) (hP2 : P ≤ 251) (ao bo : Option Addr) (ca cb : Nat) (a b : List Int) (ha : a.length ≤ 13) (hb : b.length ≤ 13) (hca : Cn P a) (hcb : Cn P b) (w : World) (ra : IRow w ao a) (rb : IRow w bo b) :
    Calls Try.prog 39 #[.int .i64 (P : Int), .slice ao a.length ca, .slice bo b.length cb] w fun e w' => RetE (nm P (padd a b)) e w' ∧ Below w.heap.size w w' := by
  have cC := checkBoth_any (P : Int) ao bo ca cb a b (by omega) (by omega) 0 0 (PC.of hP hP2 ha hca) (PC.of hP hP2 hb hcb) w ra rb
  rw [if_pos rfl] at cC
  have cS := fun w' (hB : Below w.heap.size w w') => sum_any P (by have := hP.1; omega) hP2 ao bo ca cb a b hca.1 hcb.1 (by omega) (by omega) w' (irow_below ra hB (Nat.le_refl _)) (irow_below rb hB (Nat.le_refl _))
  generalize nm P (padd a b) = r at *
  generalize a.length = na at *
  generalize b.length = nb at *
  clear ra rb hca hcb
  go_enter Try.func39, Try.ntmps39
  go_wp2_with (first
    | (go_at_call 56; refine cC.mono ?_; rintro e w1 ⟨rfl, hB⟩)
    | (go_at_call 57; refine (cS _ hB).mono ?_; rintro e w2 ⟨⟨bo2, cb2, rfl, hcb2, hrow2⟩, hB2⟩; have H2 := hid hrow2; clear hrow2))
  go_ret2
  exact ⟨⟨bo2, cb2, rfl, hcb2, H2.out⟩, below_trans hB hB2⟩

theorem Mul_bad (p : Int) (ao bo : Option Addr) (ca cb : Nat) (a b : List Int) (ma : a.length ≤ 9223372036854775807) (mb : b.length ≤ 9223372036854775807) (c d : Int) (hc : PC p a c) (hd : PC p b d) (h0 : cd2 c d ≠ 0) (w : World) (ra : IRow w ao a) (rb : IRow w bo b) :
    Calls Try.prog 44 #[.int .i64 p, .slice ao a.length ca, .slice bo b.length cb] w fun e w' => e = .returned (.tuple #[.slice none 0 0, .int .i64 (cd2 c d)]) ∧ Below w.heap.size w w' := by
  have cC := checkBoth_any p ao bo ca cb a b ma mb c d hc hd w ra rb
  rw [show (if c = 0 then d else c) = cd2 c d from rfl] at cC
  generalize cd2 c d = x at *
  generalize a.length = na at *
  generalize b.length = nb at *
  have h1 : (x != 0) = true := by simpa using h0
  have h2 : (x == 0) = false := by simpa using h0
  clear hc hd ra rb
  go_enter Try.func44, Try.ntmps44
  go_wp2_with (go_at_call 56; refine cC.mono ?_; rintro e w1 ⟨rfl, hB⟩)
  go_ret2
  exact ⟨rfl, hB⟩

theorem Mul_yes (P : Nat) (hP : Pr P) (hP2 : P ≤ 251) (ao bo : Option Addr) (ca cb : Nat) (a b : List Int) (ha : a.length ≤ 13) (hb : b.length ≤ 13) (hca : Cn P a) (hcb : Cn P b) (w : World) (ra : IRow w ao a) (rb : IRow w bo b) :
    Calls Try.prog 44 #[.int .i64 (P : Int), .slice ao a.length ca, .slice bo b.length cb] w fun e w' => RetE (nm P (pmul a b)) e w' ∧ Below w.heap.size w w' := by
  have cC := checkBoth_any (P : Int) ao bo ca cb a b (by omega) (by omega) 0 0 (PC.of hP hP2 ha hca) (PC.of hP hP2 hb hcb) w ra rb
  rw [if_pos rfl] at cC
  have cS := fun w' (hB : Below w.heap.size w w') => product_any P hP hP2 ao bo ca cb a b hca hcb (by omega) (by omega) w' (irow_below ra hB (Nat.le_refl _)) (irow_below rb hB (Nat.le_refl _))
  generalize nm P (pmul a b) = r at *
  generalize a.length = na at *
  generalize b.length = nb at *
  clear ra rb hca hcb
  go_enter Try.func44, Try.ntmps44
  go_wp2_with (first
    | (go_at_call 56; refine cC.mono ?_; rintro e w1 ⟨rfl, hB⟩)
    | (go_at_call 59; refine (cS _ hB).mono ?_; rintro e w2 ⟨⟨bo2, cb2, rfl, hcb2, hrow2⟩, hB2⟩; have H2 := hid hrow2; clear hrow2))
  go_ret2
  exact ⟨⟨bo2, cb2, rfl, hcb2, H2.out⟩, below_trans hB hB2⟩

end Go.Proofs.Ytjpmkcijkcnfiaa.Calls62
