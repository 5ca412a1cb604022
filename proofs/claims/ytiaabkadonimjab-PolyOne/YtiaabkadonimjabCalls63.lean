/-
  Package poly: the faces of quotients and of what divides both.
-/
import Derived.Test.YtiaabkadonimjabCalls60
import Derived.Test.YtiaabkadonimjabCalls62
import Derived.Test.YtiaabkadonimjabNum35
namespace Go.Proofs.Ytiaabkadonimjab.Calls63
set_option linter.unusedVariables false
open Go.ChangeShapes Go.WideShapes Go.ChangeAt Go.RowKit Go.Deep Go.Proofs.Ytiaabkadonimjab.Base Go.Proofs.Ytiaabkadonimjab.Base2 Go.Proofs.Ytiaabkadonimjab.Num Go.Proofs.Ytiaabkadonimjab.Num13 Go.Proofs.Ytiaabkadonimjab.Num16 Go.Proofs.Ytiaabkadonimjab.Num17 Go.Proofs.Ytiaabkadonimjab.Num34 Go.Proofs.Ytiaabkadonimjab.Num35 Go.Proofs.Ytiaabkadonimjab.Base4 Go.Proofs.Ytiaabkadonimjab.Calls56 Go.Proofs.Ytiaabkadonimjab.Calls57 Go.Proofs.Ytiaabkadonimjab.Calls58 Go.Proofs.Ytiaabkadonimjab.Calls59 Go.Proofs.Ytiaabkadonimjab.Calls60 Go.Proofs.Ytiaabkadonimjab.Calls62

/-- The call has returned quotient and rest, and no error. -/
def DivE (p : Nat) (a b : List Int) (e : Ending) (w' : World) : Prop := ∃ q r, DivIs p a b q r ∧ ∃ bo cb co' cc, e = .returned (.tuple #[.slice bo q.length cb, .slice co' r.length cc, .int .i64 0]) ∧ q.length ≤ cb ∧ IRow w' bo q ∧ r.length ≤ cc ∧ IRow w' co' r

theorem DivIs.qlen {p : Nat} (hp : Pr p) {a b q r : List Int} (hb : Cn p b) (nb : b ≠ []) (h : DivIs p a b q r) : q.length ≤ a.length := by
  obtain ⟨h1, h2, h3, h4⟩ := h
  rcases Classical.em (q = []) with e | nq
  · subst e; simp
  · have ht := top_mul hp h1 hb nq nb
    have lq := pos_of_ne nq
    have lb := pos_of_ne nb
    have h5 := h4 ((q.length - 1) + (b.length - 1))
    rw [co_padd, co_over (l := r) (by omega), Int.add_zero] at h5
    have h6 : (q.length - 1) + (b.length - 1) < a.length := by
      rcases Nat.lt_or_ge ((q.length - 1) + (b.length - 1)) a.length with h | h
      · exact h
      · rw [co_over h] at h5
        exact absurd (by simpa using h5) ht
    omega

theorem Div_bad (p : Int) (ao bo : Option Addr) (ca cb : Nat) (a b : List Int) (ma : a.length ≤ 9223372036854775807) (mb : b.length ≤ 9223372036854775807) (c d : Int) (hc : PC p a c) (hd : PC p b d) (h0 : cd2 c d ≠ 0) (w : World) (ra : IRow w ao a) (rb : IRow w bo b) :
    Calls Try.prog 21 #[.int .i64 p, .slice ao a.length ca, .slice bo b.length cb] w fun e w' => e = .returned (.tuple #[.slice none 0 0, .slice none 0 0, .int .i64 (cd2 c d)]) ∧ Below w.heap.size w w' := by
  have cC := checkBoth_any p ao bo ca cb a b ma mb c d hc hd w ra rb
  rw [show (if c = 0 then d else c) = cd2 c d from rfl] at cC
  generalize cd2 c d = x at *
  generalize a.length = na at *
  generalize b.length = nb at *
  have h1 : (x != 0) = true := by simpa using h0
  have h2 : (x == 0) = false := by simpa using h0
  clear hc hd ra rb
  go_enter Try.func21, Try.ntmps21
  go_wp2_with (go_at_call 36; refine cC.mono ?_; rintro e w1 ⟨rfl, hB⟩)
  go_ret3
  exact ⟨rfl, hB⟩

theorem Div_none (P : Nat) (hP : Pr P) (hP2 : P ≤ 251) (ao bo : Option Addr) (ca cb : Nat) (a : List Int) (ha : a.length ≤ 13) (hca : Cn P a) (w : World) (ra : IRow w ao a) :
    Calls Try.prog 21 #[.int .i64 (P : Int), .slice ao a.length ca, .slice bo 0 cb] w fun e w' => e = .returned (.tuple #[.slice none 0 0, .slice none 0 0, .int .i64 3]) ∧ Below w.heap.size w w' := by
  have cC := checkBoth_any (P : Int) ao bo ca cb a [] (by omega) (by simp) 0 0 (PC.of hP hP2 ha hca) (PC.of hP hP2 (by simp) (Cn.nil P)) w ra (irow_nil _ _)
  rw [if_pos rfl, show (([] : List Int).length) = 0 from rfl] at cC
  generalize a.length = na at *
  clear ra hca
  go_enter Try.func21, Try.ntmps21
  go_wp2_with (go_at_call 36; refine cC.mono ?_; rintro e w1 ⟨rfl, hB⟩)
  go_ret3
  exact ⟨rfl, hB⟩

theorem Div_yes (P : Nat) (hP : Pr P) (hP2 : P ≤ 251) (ao bo : Option Addr) (ca cb : Nat) (a b : List Int) (ha : a.length ≤ 13) (hb : b.length ≤ 13) (nb0 : b ≠ []) (hca : Cn P a) (hcb : Cn P b) (w : World) (ra : IRow w ao a) (rb : IRow w bo b) :
    Calls Try.prog 21 #[.int .i64 (P : Int), .slice ao a.length ca, .slice bo b.length cb] w fun e w' => DivE P a b e w' ∧ Below w.heap.size w w' := by
  have cC := checkBoth_any (P : Int) ao bo ca cb a b (by omega) (by omega) 0 0 (PC.of hP hP2 ha hca) (PC.of hP hP2 hb hcb) w ra rb
  rw [if_pos rfl] at cC
  have cS := fun w' (hB : Below w.heap.size w w') => divide_any P hP hP2 ao bo ca cb a b hca hcb nb0 (by omega) (by omega) w' (irow_below ra hB (Nat.le_refl _)) (irow_below rb hB (Nat.le_refl _))
  have lb := pos_of_ne nb0
  obtain ⟨na, hna⟩ : ∃ na, na = a.length := ⟨_, rfl⟩
  obtain ⟨nb, hnb⟩ : ∃ nb, nb = b.length := ⟨_, rfl⟩
  rw [← hna, ← hnb] at cC ⊢
  simp only [← hna, ← hnb] at cS
  rw [← hnb] at lb
  have h0 : ((nb : Int) == 0) = false := by simp; omega
  clear ra rb hca hcb hna hnb nb0 ha hb lb
  go_enter Try.func21, Try.ntmps21
  go_wp2_with (first
    | (go_at_call 36; refine cC.mono ?_; rintro e w1 ⟨rfl, hB⟩)
    | (go_at_call 38; refine (cS _ hB).mono ?_; rintro e w2 ⟨⟨q, r, hD, o2, c2, o3, c3, rfl, hc2, hr2, hc3, hr3⟩, hB2⟩; have H1 := hid hD; have H2 := hid hr2; have H3 := hid hr3; clear hD hr2 hr3))
  go_ret3
  exact ⟨⟨q, r, H1.out, o2, c2, o3, c3, rfl, hc2, H2.out, hc3, H3.out⟩, below_trans hB hB2⟩

/-- The call has returned what divides both, and no error. -/
def GcdE (p : Nat) (a b : List Int) (e : Ending) (w' : World) : Prop := ∃ g, GcdIs p a b g ∧ g.length ≤ 13 ∧ RetE g e w'

theorem Gcd_bad (p : Int) (ao bo : Option Addr) (ca cb : Nat) (a b : List Int) (ma : a.length ≤ 9223372036854775807) (mb : b.length ≤ 9223372036854775807) (c d : Int) (hc : PC p a c) (hd : PC p b d) (h0 : cd2 c d ≠ 0) (w : World) (ra : IRow w ao a) (rb : IRow w bo b) :
    Calls Try.prog 16 #[.int .i64 p, .slice ao a.length ca, .slice bo b.length cb] w fun e w' => e = .returned (.tuple #[.slice none 0 0, .int .i64 (cd2 c d)]) ∧ Below w.heap.size w w' := by
  have cC := checkBoth_any p ao bo ca cb a b ma mb c d hc hd w ra rb
  rw [show (if c = 0 then d else c) = cd2 c d from rfl] at cC
  generalize cd2 c d = x at *
  generalize a.length = na at *
  generalize b.length = nb at *
  have h1 : (x != 0) = true := by simpa using h0
  have h2 : (x == 0) = false := by simpa using h0
  clear hc hd ra rb
  go_enter Try.func16, Try.ntmps16
  go_wp2_with (go_at_call 36; refine cC.mono ?_; rintro e w1 ⟨rfl, hB⟩)
  go_ret2
  exact ⟨rfl, hB⟩

set_option maxRecDepth 100000 in
theorem Gcd_yes (P : Nat) (hP : Pr P) (hP2 : P ≤ 251) (ao bo : Option Addr) (ca cb : Nat) (a b : List Int) (ha : a.length ≤ 13) (hb : b.length ≤ 13) (hca : Cn P a) (hcb : Cn P b) (w : World) (ra : IRow w ao a) (rb : IRow w bo b) :
    Calls Try.prog 16 #[.int .i64 (P : Int), .slice ao a.length ca, .slice bo b.length cb] w fun e w' => GcdE P a b e w' ∧ Below w.heap.size w w' := by
  have hp1 : 1 ≤ P := by have := hP.1; omega
  have cC := checkBoth_any (P : Int) ao bo ca cb a b (by omega) (by omega) 0 0 (PC.of hP hP2 ha hca) (PC.of hP hP2 hb hcb) w ra rb
  rw [if_pos rfl] at cC
  have HS := hid (Gst.start hca hcb)
  have RA := hid ra
  have RB := hid rb
  obtain ⟨na, hna⟩ : ∃ na, na = a.length := ⟨_, rfl⟩
  obtain ⟨nb, hnb⟩ : ∃ nb, nb = b.length := ⟨_, rfl⟩
  have HNA := hid hna
  have HNB := hid hnb
  rw [← hna, ← hnb] at cC ⊢
  rw [← hna] at ha
  rw [← hnb] at hb
  clear ra rb hca hcb hna hnb
  go_enter Try.func16, Try.ntmps16
  go_wp2_with (go_at_call 36; refine cC.mono ?_; rintro e w1 ⟨rfl, hB⟩)
  have HB := hid hB
  clear hB cC
  go_loopw [1, 2] (fun va vb wr => ∃ (o1 o2 : Option Addr) (c1 c2 n1 n2 : Nat) (a' b' : List Int), va = .slice o1 n1 c1 ∧ vb = .slice o2 n2 c2 ∧ n1 ≤ 13 ∧ n2 ≤ 13 ∧ Hid (n1 = a'.length) ∧ Hid (n2 = b'.length) ∧ Hid (Gst P a b a' b') ∧ Hid (IRow wr o1 a') ∧ Hid (IRow wr o2 b') ∧ Hid (Below w.heap.size w wr)) (fun va vb wr => slen vb)
  case atStart => exact ⟨ao, bo, ca, cb, na, nb, a, b, rfl, rfl, ha, hb, HNA, HNB, HS, irow_below RA.out HB.out (Nat.le_refl _), irow_below RB.out HB.out (Nat.le_refl _), HB⟩
  case round =>
    obtain ⟨o1, o2, c1, c2, n1, n2, a', b', rfl, rfl, h1, h2, HN1, HN2, hS, R1, R2, hBr⟩ := hrel
    match n2, h2, HN2 with
    | m + 1, h2, HN2 =>
      have nb0 : b' ≠ [] := fun e => by have := HN2.out; rw [e] at this; simp at this
      have cD := hid (divide_any P hP hP2 o1 o2 c1 c2 a' b' hS.out.1 hS.out.2.1 nb0 (by have := HN1.out; omega) (by have := HN2.out; omega) wr R1.out R2.out)
      rw [← HN1.out, ← HN2.out] at cD
      clear nb0
      go_wp2_with (go_at_call 38; refine cD.out.mono ?_; rintro e w2 ⟨⟨q, r, hD, o3, c3, o4, c4, rfl, hc3, hr3, hc4, hr4⟩, hB2⟩; have H1 := hid hD; have H4 := hid hr4; have H5 := hid hB2; clear hD hr3 hr4 hB2)
      go_roundw
      case rel =>
        have hlt := H1.out.2.2.1
        have h6 := HN2.out
        exact ⟨o2, o4, c2, c4, m + 1, r.length, b', r, rfl, rfl, by omega, by omega, HN2, rfl, hS.out.step H1.out, irow_below R2.out H5.out (Nat.le_refl _), H4, below_trans hBr.out H5.out⟩
      case measure =>
        have hlt := H1.out.2.2.1
        have h6 := HN2.out
        show r.length < m + 1
        omega
    | 0, h2, HN2 =>
      have eb : b' = [] := List.length_eq_zero_iff.1 HN2.out.symm
      subst eb
      match n1, h1, HN1 with
      | 0, h1, HN1 =>
        have ea : a' = [] := List.length_eq_zero_iff.1 HN1.out.symm
        subst ea
        go_wp2
        go_ret2
        exact ⟨⟨[], hS.out.none, by simp, none, 0, rfl, by simp, irow_nil _ _⟩, hBr.out⟩
      | m + 1, h1, HN1 =>
        have na0 : a' ≠ [] := fun e => by have := HN1.out; rw [e] at this; simp at this
        have el : a'.length - 1 = m := by have := HN1.out; omega
        have hG := hid (hS.out.done hP na0)
        have hL := hid (scale_facts hP hS.out.1 na0 (iv_ok hP (hS.out.1.top hp1 na0))).1
        have cl := last_row o1 c1 m a' (by have := HN1.out; omega) (by have := HN1.out; omega) wr R1.out
        have hx0 : co a' m ≠ 0 := by have := hS.out.1.2 na0; rwa [el] at this
        have cI := inverse_any P hP (by omega) (co a' m) (hS.out.1.bd hp1 m) hx0 wr
        rw [el] at hG hL
        have hiv := rs_bd hp1 (iv P (co a' m) : Int)
        have hiv2 := iv_lt hp1 (co a' m)
        have cS := fun w' (hB : Below wr.heap.size wr w') => scale_any P hp1 hP2 o1 c1 a' (iv P (co a' m) : Int) hS.out.1.1 ⟨by omega, by omega⟩ (by have := HN1.out; omega) w' (irow_below R1.out hB (Nat.le_refl _))
        simp only [← HN1.out] at cS
        have hlen : Hid ((nm P (psc (iv P (co a' m) : Int) a')).length ≤ 13) := by show _ ≤ _; rw [hL.out, ← HN1.out]; omega
        clear hL hx0 hiv
        generalize nm P (psc (iv P (co a' m) : Int) a') = g at *
        generalize iv P (co a' m) = v at *
        generalize co a' m = x at *
        clear na0 el hiv2
        go_wp2_with (first
          | (go_at_call 39; refine cl.mono ?_; rintro e w2 ⟨rfl, hw⟩; subst w2)
          | (go_at_call 29; refine cI.mono ?_; rintro e w2 ⟨rfl, hB2⟩)
          | (go_at_call 28; refine (cS _ hB2).mono ?_; rintro e w3 ⟨⟨o3, c3, rfl, hc3, hr3⟩, hB3⟩; have H3 := hid hr3; clear hr3))
        go_ret2
        exact ⟨⟨g, hG.out, hlen.out, o3, c3, rfl, hc3, H3.out⟩, below_trans (below_trans hBr.out hB2) hB3⟩

end Go.Proofs.Ytiaabkadonimjab.Calls63
