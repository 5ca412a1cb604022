/-
  The document's polynomials: what is left, in all cases; what divides both.
-/
import Derived.Test.YtiaabkadonimjaaCalls64
namespace Go.Proofs.Ytiaabkadonimjaa.Calls65
set_option linter.unusedVariables false
open Go.ChangeShapes Go.WideShapes Go.ChangeAt Go.RowKit Go.Deep Go.Proofs.Ytiaabkadonimjaa.Base Go.Proofs.Ytiaabkadonimjaa.Base2 Go.Proofs.Ytiaabkadonimjaa.Num Go.Proofs.Ytiaabkadonimjaa.Num13 Go.Proofs.Ytiaabkadonimjaa.Num16 Go.Proofs.Ytiaabkadonimjaa.Num17 Go.Proofs.Ytiaabkadonimjaa.Num34 Go.Proofs.Ytiaabkadonimjaa.Num35 Go.Proofs.Ytiaabkadonimjaa.Base4 Go.Proofs.Ytiaabkadonimjaa.Calls56 Go.Proofs.Ytiaabkadonimjaa.Calls57 Go.Proofs.Ytiaabkadonimjaa.Calls58 Go.Proofs.Ytiaabkadonimjaa.Calls59 Go.Proofs.Ytiaabkadonimjaa.Calls60 Go.Proofs.Ytiaabkadonimjaa.Calls61 Go.Proofs.Ytiaabkadonimjaa.Calls62 Go.Proofs.Ytiaabkadonimjaa.Calls63 Go.Proofs.Ytiaabkadonimjaa.Calls64

theorem refLeft_any (p : Nat) (hP : Pr p) (hp : p ≤ 251) (ao bo : Option Addr) (ca cb : Nat) (a b : List Int) (ha : Cn p a) (hb : Cn p b) (nb0 : b ≠ []) (hla : a.length ≤ 4096) (hlb : b.length ≤ 4096) (w : World) (ra : IRow w ao a) (rb : IRow w bo b) :
    Calls Try.prog 36 #[.int .i64 (p : Int), .slice ao a.length ca, .slice bo b.length cb] w fun e w' => LeftR p a b e w' ∧ Below w.heap.size w w' := by
  by_cases h : a.length < b.length
  · exact refLeft_short p (by have := hP.1; omega) ao bo ca cb a b ha hla hlb h w ra
  · exact refLeft_long p hP hp ao bo ca cb a b ha hb nb0 hla (by omega) w ra rb

theorem refLeftC_any (p : Nat) (hP : Pr p) (hp : p ≤ 251) (ao bo : Option Addr) (ca cb : Nat) (a b : List Int) (ha : Cn p a) (hb : Cn p b) (nb0 : b ≠ []) (hla : a.length ≤ 4096) (hlb : b.length ≤ 4096) (w : World) (ra : IRow w ao a) (rb : IRow w bo b) :
    Calls Try.prog 18 #[.int .i64 (p : Int), .slice ao a.length ca, .slice bo b.length cb] w fun e w' => LeftR p a b e w' ∧ Below w.heap.size w w' := by
  have cS := refLeft_any p hP hp ao bo ca cb a b ha hb nb0 hla hlb w ra rb
  generalize a.length = na at *
  generalize b.length = nb at *
  clear ra rb ha hb
  go_enter Try.func18, Try.ntmps18
  go_wp2_with (go_at_call 36; refine cS.mono ?_; rintro e w2 ⟨⟨q, r, hD, o2, c2, rfl, hc2, hr2⟩, hB2⟩; have H1 := hid hD; have H2 := hid hr2; clear hD hr2)
  go_ret
  exact ⟨⟨q, r, H1.out, o2, c2, rfl, hc2, H2.out⟩, hB2⟩

theorem irow_one (W : World) (x : Int) : IRow (W.alloc (.cells #[.int .i64 x] 2)) (some ⟨W.heap.size, 0, none⟩) [x] := by
  refine ⟨fun e => (by cases e), fun ad e j hj => ?_⟩
  obtain rfl : (⟨W.heap.size, 0, none⟩ : Addr) = ad := by simpa using e
  obtain rfl : j = 0 := by simpa using hj
  have := one_cell (W := W) (t := 2) (a := .int .i64 x) 0 (.int .i64 x) rfl
  simpa [co] using this

/-- The call has returned what divides both. -/
def GcdR (p : Nat) (a b : List Int) (e : Ending) (w' : World) : Prop := ∃ g, GcdIs p a b g ∧ g.length ≤ 13 ∧ RetL g e w'

set_option maxRecDepth 100000 in
theorem refPolyGcd_step (p : Nat) (hP : Pr p) (hp : p ≤ 251) (A B : List Int) : ∀ (k : Nat) (ao bo : Option Addr) (ca cb : Nat) (a b : List Int) (w : World), b.length ≤ k → a.length ≤ 13 → b.length ≤ 13 → Gst p A B a b → IRow w ao a → IRow w bo b →
    Calls Try.prog 20 #[.int .i64 (p : Int), .slice ao a.length ca, .slice bo b.length cb] w fun e w' => GcdR p A B e w' ∧ Below w.heap.size w w' := by
  have hp1 : 1 ≤ p := by have := hP.1; omega
  intro k
  induction k with
  | zero =>
    intro ao bo ca cb a b w hk hla hlb hS ra rb
    have eb : b = [] := List.length_eq_zero_iff.1 (by omega)
    subst eb
    clear hk hlb rb
    rw [show ([] : List Int).length = 0 from rfl]
    obtain ⟨n1, HN1⟩ : ∃ n1, Hid (n1 = a.length) := ⟨_, rfl⟩
    rw [← HN1.out] at hla ⊢
    match n1, hla, HN1 with
    | 0, hla, HN1 =>
      have ea : a = [] := List.length_eq_zero_iff.1 HN1.out.symm
      subst ea
      have HS := hid hS
      clear hS ra
      go_enter Try.func20, Try.ntmps20
      go_wp2
      go_ret
      exact ⟨⟨[], HS.out.none, by simp, none, 0, rfl, by simp, irow_nil _ _⟩, Below.refl _ _⟩
    | m + 1, hla, HN1 =>
      have na0 : a ≠ [] := fun e => by have := HN1.out; rw [e] at this; simp at this
      have el : a.length - 1 = m := by have := HN1.out; omega
      have hG := hid (hS.done hP na0)
      have hL := hid (scale_facts hP hS.1 na0 (iv_ok hP (hS.1.top hp1 na0))).1
      have cI := fun w => refInv_any p hP.1 hp (co a m) w
      rw [el] at hG hL
      have hiv2 := iv_lt hp1 (co a m)
      have cM := fun w' (o2 : Option Addr) (hr : IRow w' o2 [(iv p (co a m) : Int)]) (hB : Below w.heap.size w w') => refMul_any p hp1 hp ao o2 ca 1 a [(iv p (co a m) : Int)] hS.1.1 (fun x hx => by
        obtain rfl : x = (iv p (co a m) : Int) := (by simpa using hx)
        exact ⟨by omega, by omega⟩) (by have := HN1.out; omega) (by simp) w' (irow_below ra hB (Nat.le_refl _)) hr
      simp only [nm_single hp1, ← HN1.out, show ∀ x : Int, [x].length = 1 from fun _ => rfl] at cM
      have hlen : Hid ((nm p (psc (iv p (co a m) : Int) a)).length ≤ 13) := by show _ ≤ _; rw [hL.out, ← HN1.out]; omega
      rcases ao with _ | ad
      · exact (irow_none ra (j := m) (by have := HN1.out; omega)).elim
      have c1 := ra.2 ad rfl m (by have := HN1.out; omega)
      have hmm : (m : Int) < (m : Int) + 1 := by omega
      generalize nm p (psc (iv p (co a m) : Int) a) = g at *
      generalize iv p (co a m) = v at *
      generalize co a m = x at *
      clear hL na0 el hiv2 hS ra
      go_enter Try.func20, Try.ntmps20
      go_wp2_with (first
        | (go_at_call 39; refine (cI _).mono ?_; rintro e w2 ⟨rfl, hw⟩; subst w2)
        | (go_at_call 16; refine (cM _ _ (irow_one _ _) ((Below.refl _ w).alloc (Nat.le_refl _) _)).mono ?_; rintro e w3 ⟨⟨o3, c3, rfl, hc3, hr3⟩, hB3⟩; have H3 := hid hr3; clear hr3))
      go_ret
      exact ⟨⟨g, hG.out, hlen.out, o3, c3, rfl, hc3, H3.out⟩, below_trans ((Below.refl _ w).alloc (Nat.le_refl _) _) hB3⟩
  | succ k ih =>
    intro ao bo ca cb a b w hk hla hlb hS ra rb
    by_cases h0 : b.length ≤ k
    · exact ih ao bo ca cb a b w h0 hla hlb hS ra rb
    · have hk1 : b.length = k + 1 := by omega
      have nb0 : b ≠ [] := fun e => by rw [e] at hk1; simp at hk1
      have cD := hid (refLeft_any p hP hp ao bo ca cb a b hS.1 hS.2.1 nb0 (by omega) (by omega) w ra rb)
      have cI := fun (o2 : Option Addr) (c2 : Nat) (q r : List Int) (hD : DivIs p a b q r) w' (hB : Below w.heap.size w w') (hr : IRow w' o2 r) => ih bo o2 cb c2 b r w' (by have := hD.2.2.1; omega) (by omega) (by have := hD.2.2.1; omega) (hS.step hD) (irow_below rb hB (Nat.le_refl _)) hr
      rw [hk1] at cD ⊢
      simp only [hk1] at cI
      generalize a.length = na at *
      clear ih hS ra rb hk h0 hk1 nb0 hlb
      go_enter Try.func20, Try.ntmps20
      go_wp2_with (first
        | (go_at_call 36; refine cD.out.mono ?_; rintro e w2 ⟨⟨q, r, hD, o2, c2, rfl, hc2, hr2⟩, hB2⟩; have H1 := hid hD; have H2 := hid hr2; clear hD hr2)
        | (go_at_call 20; refine (cI _ _ q r H1.out _ hB2 H2.out).mono ?_; rintro e w3 ⟨⟨g, hg, hgl, o3, c3, rfl, hc3, hr3⟩, hB3⟩; have HG := hid hg; have H3 := hid hr3; clear hg hr3))
      go_ret
      exact ⟨⟨g, HG.out, hgl, o3, c3, rfl, hc3, H3.out⟩, below_trans hB2 hB3⟩

theorem refPolyGcd_any (p : Nat) (hP : Pr p) (hp : p ≤ 251) (ao bo : Option Addr) (ca cb : Nat) (a b : List Int) (ha : Cn p a) (hb : Cn p b) (hla : a.length ≤ 13) (hlb : b.length ≤ 13) (w : World) (ra : IRow w ao a) (rb : IRow w bo b) :
    Calls Try.prog 20 #[.int .i64 (p : Int), .slice ao a.length ca, .slice bo b.length cb] w fun e w' => GcdR p a b e w' ∧ Below w.heap.size w w' :=
  refPolyGcd_step p hP hp a b _ ao bo ca cb a b w (Nat.le_refl _) hla hlb (Gst.start ha hb) ra rb

end Go.Proofs.Ytiaabkadonimjaa.Calls65
