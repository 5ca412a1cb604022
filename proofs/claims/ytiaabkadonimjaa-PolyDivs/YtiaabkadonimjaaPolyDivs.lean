/-
  For any two polynomials the program tells quotient and rest: with no condition.
-/
import Derived.Test.YtiaabkadonimjaaRows
import Derived.Test.YtiaabkadonimjaaCalls65
import Derived.WalkKit
import Derived.ProofKit
import Derived.OpenShut
import Derived.Carry
namespace Go.Proofs.Ytiaabkadonimjaa.polyDivs
open Go.ChangeShapes Go.WideShapes Go.ChangeAt Go.RowKit Go.Deep Go.Proofs.Ytiaabkadonimjaa.Base Go.Proofs.Ytiaabkadonimjaa.Base2 Go.Proofs.Ytiaabkadonimjaa.Num Go.Proofs.Ytiaabkadonimjaa.Num13 Go.Proofs.Ytiaabkadonimjaa.Num16 Go.Proofs.Ytiaabkadonimjaa.Num17 Go.Proofs.Ytiaabkadonimjaa.Num34 Go.Proofs.Ytiaabkadonimjaa.Num35 Go.Proofs.Ytiaabkadonimjaa.Base4 Go.Proofs.Ytiaabkadonimjaa.Calls56 Go.Proofs.Ytiaabkadonimjaa.Calls57 Go.Proofs.Ytiaabkadonimjaa.Calls58 Go.Proofs.Ytiaabkadonimjaa.Calls59 Go.Proofs.Ytiaabkadonimjaa.Calls60 Go.Proofs.Ytiaabkadonimjaa.Calls61 Go.Proofs.Ytiaabkadonimjaa.Calls62 Go.Proofs.Ytiaabkadonimjaa.Calls63 Go.Proofs.Ytiaabkadonimjaa.Calls64 Go.Proofs.Ytiaabkadonimjaa.Calls65
set_option linter.unusedVariables false

theorem own : ownKnob Try.prog.godebug = none := by kernel_rfl

theorem laidOut : laidOutB Try.prog = true := by kernel_rfl

theorem cells2 : Try.prog.cellsOf 2 = 1 := by kernel_rfl

theorem walk_yes (P : Nat) (hP : Pr P) (hP2 : P ≤ 251) (ao : Option Addr) (ca : Nat) (a : List Int) (ha : a.length ≤ 13) (hca : Cn P a) (bo : Option Addr) (cb : Nat) (b : List Int) (hb : b.length ≤ 13) (hcb : Cn P b) (nb0 : b ≠ []) (w : World) (ra : IRow w ao a) (rb : IRow w bo b)
    (cT : ∀ w', Below w.heap.size w w' → Calls Try.prog 12 #[.int .i64 (P : Int), .slice ao a.length ca, .slice bo b.length cb] w' fun e w'' => e = .returned (.int .i64 0) ∧ w'' = w') :
    Calls Try.prog 6 #[.int .i64 (P : Int), .slice ao a.length ca, .slice bo b.length cb] w fun e w' => e = .returned (.bool true) ∧ Below w.heap.size w w' := by
  have hp1 : 1 ≤ P := by have := hP.1; omega
  have lb := pos_of_ne nb0
  have cA := Div_yes P hP hP2 ao bo ca cb a b ha hb nb0 hca hcb w ra rb
  have cR := fun w' (hB : Below w.heap.size w w') => refLeftC_any P hP hP2 ao bo ca cb a b hca hcb nb0 (by omega) (by omega) w' (irow_below ra hB (Nat.le_refl _)) (irow_below rb hB (Nat.le_refl _))
  have HU := hid (fun q r q' r' (h : DivIs P a b q r) (k : DivIs P a b q' r') => h.uniq hP hcb nb0 k)
  have HQ := hid (fun q r (h : DivIs P a b q r) => Calls63.DivIs.qlen hP hcb nb0 h)
  have cM := fun (o1 : Option Addr) (c1 : Nat) (q : List Int) (hq : Bd P q) (hl : q.length ≤ 13) w' (hB : Below w.heap.size w w') (hr : IRow w' o1 q) => refMul_any P hp1 hP2 o1 bo c1 cb q b hq hcb.1 (by omega) (by omega) w' hr (irow_below rb hB (Nat.le_refl _))
  have cD := fun (o1 o2 : Option Addr) (c1 c2 : Nat) (m r : List Int) (hm : Bd P m) (hr : Bd P r) (hl : m.length ≤ 100) (hl2 : r.length ≤ 13) w' (h1 : IRow w' o1 m) (h2 : IRow w' o2 r) => refAdd_any P hp1 hP2 o1 o2 c1 c2 m r hm hr (by omega) (by omega) w' h1 h2
  have HE : Hid (∀ q r, DivIs P a b q r → nm P (padd (nm P (pmul q b)) r) = a) := fun q r h => nm_of hp1 hca (h.2.2.2.trans ((nm_q hp1 _).symm.padd (Q.refl P r)))
  have cL := fun (r : List Int) (hl : r.length ≤ 13) (o1 o2 : Option Addr) (c1 c2 : Nat) w' (h1 : IRow w' o1 r) (h2 : IRow w' o2 r) => Longs_same o1 o2 c1 c2 r (by omega) w' h1 h2
  have RA := hid ra
  obtain ⟨na, hna⟩ : ∃ na, na = a.length := ⟨_, rfl⟩
  obtain ⟨nb, hnb⟩ : ∃ nb, nb = b.length := ⟨_, rfl⟩
  have HNA := hid hna
  have HNB := hid hnb
  simp only [← hna, ← hnb] at cT cA cR cM lb ha hb ⊢
  have hb0 : ((nb : Int) == 0) = false := by simp; omega
  clear ra rb hca hcb hna hnb nb0 lb
  go_enter Try.func6, Try.ntmps6
  go_wp2_with (first
    | (go_at_call 17; refine cA.mono ?_; rintro e w1 ⟨⟨q, r, hD, o1, c1, o2, c2, rfl, hc1, hr1, hc2, hr2⟩, hB⟩; have HD := hid hD; have H1 := hid hr1; have H2 := hid hr2; clear hD hr1 hr2; obtain ⟨nq, hnq⟩ : ∃ nq, nq = q.length := ⟨_, rfl⟩; obtain ⟨nr, hnr⟩ : ∃ nr, nr = r.length := ⟨_, rfl⟩; have HNQ := hid hnq; have HNR := hid hnr; rw [← hnq, ← hnr]; clear hnq hnr)
    | (go_at_call 12; refine (cT _ hB).mono ?_; rintro e w2 ⟨rfl, hw⟩; subst w2))
  have hlq : nq ≤ 13 := by have h1 := HQ.out q r HD.out; have h2 := HNQ.out; have h3 := HNA.out; omega
  have hlr : nr ≤ 13 := by have h1 := HD.out.2.2.1; have h2 := HNR.out; have h3 := HNB.out; omega
  have HBd : Hid (Bd P q) := HD.out.1.1
  have HTop := hid HD.out.1.2
  have cM1 := fun w' (h : Below w1.heap.size w1 w') => cM o1 c1 q HBd.out (by have := HNQ.out; omega) w' (below_trans hB h) (irow_below H1.out h (Nat.le_refl _))
  have cR1 := cR w1 hB
  have hml : (nm P (pmul q b)).length ≤ 100 := by
    have h1 := mul_nm_len hp1 q b
    have h2 := HNQ.out
    have h3 := HNB.out
    omega
  have HMl := hid hml
  have cD1 := fun (o3 : Option Addr) (c3 : Nat) w' (h3 : IRow w' o3 (nm P (pmul q b))) (h : Below w1.heap.size w1 w') => cD o3 o2 c3 c2 (nm P (pmul q b)) r (nm_cn hp1 _).1 HD.out.2.1.1 HMl.out (by have := HNR.out; omega) w' h3 (irow_below H2.out h (Nat.le_refl _))
  have cL1 := fun (o3 : Option Addr) (c3 : Nat) w' (h3 : IRow w' o3 r) (h : Below w1.heap.size w1 w') => cL r (by have := HNR.out; omega) o2 o3 c2 c3 w' (irow_below H2.out h (Nat.le_refl _)) h3
  have cL2 := fun (o3 : Option Addr) (c3 : Nat) w' (h3 : IRow w' o3 a) (h : Below w1.heap.size w1 w') => cL a (by have := HNA.out; omega) o3 ao c3 ca w' h3 (irow_below RA.out (below_trans hB h) (Nat.le_refl _))
  simp only [HE.out q r HD.out, ← HNR.out] at cD1
  simp only [← HNR.out] at cL1
  simp only [← HNA.out] at cL2
  simp only [← HNQ.out] at cM1
  generalize nm P (pmul q b) = mm at *
  obtain ⟨nm1, hnm1⟩ : ∃ nm1, nm1 = mm.length := ⟨_, rfl⟩
  simp only [← hnm1] at cD1
  have HNM := hid hnm1
  clear cA cT cR cM cD cL hml hnm1
  go_loop [49] (fun i => ∃ k : Nat, i = .int .i64 (k : Int) ∧ k ≤ nq) (fun i => ((nq : Int) - intOf i).toNat)
  case atStart => exact ⟨0, rfl, by omega⟩
  case round =>
    obtain ⟨k, rfl, hk⟩ := hrel
    by_cases hgo : k < nq
    · have hgo' : (k : Int) < (nq : Int) := by omega
      have hkl : Hid (k < q.length) := by have := HNQ.out; show k < q.length; omega
      rcases o1 with _ | ad
      · exact (irow_none H1.out hkl.out).elim
      · have d1 := H1.out.2 ad rfl k hkl.out
        have hx := HBd.out.at hp1 k
        generalize co q k = x at *
        have h1 : decide (x < 0) = false := by simp; omega
        have h2 : decide ((P : Int) ≤ x) = false := by simp; omega
        clear hx
        go_wp2
        go_round
        case rel => exact ⟨k + 1, by simp, by omega⟩
        case measure => exact measK hgo
    · have hgo' : ¬ (k : Int) < (nq : Int) := by omega
      obtain rfl : k = nq := by omega
      by_cases hk0 : k = 0
      · subst hk0
        go_wp2_with (first
          | (go_at_call 18; refine cR1.mono ?_; rintro e w3 ⟨⟨q2, r2, hD2, o3, c3, rfl, hc3, hr3⟩, hB3⟩; obtain ⟨rfl, rfl⟩ := HU.out _ _ _ _ HD.out hD2; have H3 := hid hr3; clear hD2 hr3; rw [← HNR.out])
          | (go_at_call 13; refine (cL1 _ _ _ H3.out hB3).mono ?_; rintro e w4 ⟨rfl, hB4⟩; clear cL1)
          | (go_at_call 16; refine (cM1 _ (below_trans hB3 hB4)).mono ?_; rintro e w5 ⟨⟨o5, c5, rfl, hc5, hr5⟩, hB5⟩; have H5 := hid hr5; clear hr5; rw [← HNM.out])
          | (go_at_call 14; refine (cD1 _ _ _ H5.out (below_trans (below_trans hB3 hB4) hB5)).mono ?_; rintro e w6 ⟨⟨o6, c6, rfl, hc6, hr6⟩, hB6⟩; have H6 := hid hr6; clear hr6; rw [← HNA.out])
          | (go_at_call 13; refine (cL2 _ _ _ H6.out (below_trans (below_trans (below_trans hB3 hB4) hB5) hB6)).mono ?_; rintro e w7 ⟨rfl, hB7⟩))
        go_ret
        exact ⟨rfl, below_trans (below_trans hB (below_trans (below_trans (below_trans hB3 hB4) hB5) hB6)) hB7⟩
      · obtain ⟨m, rfl⟩ : ∃ m, k = m + 1 := ⟨k - 1, by omega⟩
        clear hk0
        have hml : Hid (m < q.length) := by have := HNQ.out; show m < q.length; omega
        have hx : co q m ≠ 0 := by
          have h1 := HTop.out (fun e => by have := HNQ.out; rw [e] at this; simp at this)
          rwa [show q.length - 1 = m by have := HNQ.out; omega] at h1
        rcases o1 with _ | ad
        · exact (irow_none H1.out hml.out).elim
        have d1 := fun w' (h : Below w1.heap.size w1 w') => (irow_below H1.out h (Nat.le_refl _)).2 ad rfl m hml.out
        generalize co q m = x at *
        have hx' : (x == 0) = false := by simpa using hx
        have hmm : (m : Int) < (m : Int) + 1 := by omega
        clear hgo hx
        go_wp2_with (first
          | (go_at_call 18; refine cR1.mono ?_; rintro e w3 ⟨⟨q2, r2, hD2, o3, c3, rfl, hc3, hr3⟩, hB3⟩; obtain ⟨rfl, rfl⟩ := HU.out _ _ _ _ HD.out hD2; have H3 := hid hr3; clear hD2 hr3; rw [← HNR.out])
          | (go_at_call 13; refine (cL1 _ _ _ H3.out hB3).mono ?_; rintro e w4 ⟨rfl, hB4⟩; clear cL1; have d2 := d1 _ (below_trans hB3 hB4))
          | (go_at_call 16; refine (cM1 _ (below_trans hB3 hB4)).mono ?_; rintro e w5 ⟨⟨o5, c5, rfl, hc5, hr5⟩, hB5⟩; have H5 := hid hr5; clear hr5; rw [← HNM.out])
          | (go_at_call 14; refine (cD1 _ _ _ H5.out (below_trans (below_trans hB3 hB4) hB5)).mono ?_; rintro e w6 ⟨⟨o6, c6, rfl, hc6, hr6⟩, hB6⟩; have H6 := hid hr6; clear hr6; rw [← HNA.out])
          | (go_at_call 13; refine (cL2 _ _ _ H6.out (below_trans (below_trans (below_trans hB3 hB4) hB5) hB6)).mono ?_; rintro e w7 ⟨rfl, hB7⟩))
        go_ret
        exact ⟨rfl, below_trans (below_trans hB (below_trans (below_trans (below_trans hB3 hB4) hB5) hB6)) hB7⟩

theorem walk (p : Int) (ao : Option Addr) (ca : Nat) (a : List Int) (ka : a.length ≤ ca) (ma : a.length ≤ 9223372036854775807) (bo : Option Addr) (cb : Nat) (b : List Int) (kb : b.length ≤ cb) (mb : b.length ≤ 9223372036854775807) (w : World) (ra : IRow w ao a) (rb : IRow w bo b) :
    Calls Try.prog 6 #[.int .i64 p, .slice ao a.length ca, .slice bo b.length cb] w fun e w' => e = .returned (.bool true) ∧ Below w.heap.size w w' := by
  obtain ⟨c, hc⟩ := pc_ex p a
  obtain ⟨d, hd⟩ := pc_ex p b
  have cT := fun w' (hB : Below w.heap.size w w') => two_any p ao bo ca cb a b ma mb c d hc hd w' (irow_below ra hB (Nat.le_refl _)) (irow_below rb hB (Nat.le_refl _))
  simp only [show (if c = 0 then d else c) = cd2 c d from rfl] at cT
  by_cases h0 : cd2 c d = 0
  · obtain ⟨P, rfl, hP, hP2, ha, hca, hb, hcb⟩ := both_ok hc hd h0
    rw [h0] at cT
    rcases Classical.em (b = []) with e0 | e0
    · subst e0
      have cA := Div_none P hP hP2 ao bo ca cb a ha hca w ra
      rw [show ([] : List Int).length = 0 from rfl] at cT ⊢
      generalize a.length = na at *
      clear hc hd ra rb hca hcb h0
      go_enter Try.func6, Try.ntmps6
      go_wp2_with (first
        | (go_at_call 17; refine cA.mono ?_; rintro e w1 ⟨rfl, hB⟩)
        | (go_at_call 12; refine (cT _ hB).mono ?_; rintro e w2 ⟨rfl, hw⟩; subst w2))
      go_ret
      exact ⟨rfl, hB⟩
    · exact walk_yes P hP hP2 ao ca a ha hca bo cb b hb hcb e0 w ra rb cT
  · have cA := Div_bad p ao bo ca cb a b ma mb c d hc hd h0 w ra rb
    generalize cd2 c d = x at *
    generalize a.length = na at *
    generalize b.length = nb at *
    have h1 : (x != 0) = true := by simpa using h0
    have h2 : (x == 0) = false := by simpa using h0
    clear hc hd ra rb
    go_enter Try.func6, Try.ntmps6
    go_wp2_with (first
      | (go_at_call 17; refine cA.mono ?_; rintro e w1 ⟨rfl, hB⟩)
      | (go_at_call 12; refine (cT _ hB).mono ?_; rintro e w2 ⟨rfl, hw⟩; subst w2))
    go_ret
    exact ⟨rfl, hB⟩

set_option maxRecDepth 100000 in
theorem lifted (os : Os) (started : os.Started) (H : Type) (enc : TypeId × Value → H) :
    ReturnsInHanded {} Try.checked os 6 .any (Rows.polyDivsSpec.pre6 enc Try.prog Try.f6 Rows.polyDivsRow.domain false) (Rows.polyDivsSpec.post enc Try.prog Try.f6 false true false false) := by
  refine returnsInHanded_of_change (C := Try.checked) own started (by kernel_rfl) Try.func6
    (ChangeSpec.witness6 (enc := enc) (C := Try.checked) false ⟨#[], #[.int .i64 0, .slice none 0 0, .slice none 0 0], []⟩ 8 (by kernel_rfl) (by kernel_rfl) (by kernel_rfl) (by kernel_rfl)) ?_
  intro W base args ds gs before hval0 hW hcnd _
  have hval : ∀ (j : Nat) t v, Try.f6.params[j]? = some t → args[j]? = some v → Value.okWide Try.prog W .any base t v := hval0
  have hW' := hW
  obtain ⟨p, q, hA0, hV, rfl, _, _⟩ := hW
  have hA : DataW.TrodAll enc Try.prog W 0 (fun _ => true) true Try.f6.params.toList args.toList ds p := hA0
  rw [Try.params6] at hA hval
  obtain ⟨v0, v1, v2, d0, d1, d2, p0, p1, p2, rfl, rfl, rfl, h0, h1, h2⟩ := trodAll_three hA
  obtain ⟨rfl, rfl⟩ := trodVars_none hV
  obtain ⟨a0, rfl, rfl, rfl, w0⟩ := open_int Try.underlying2 (hval 0 2 v0 rfl rfl) h0
  have hsl1 := okWide_slice Try.underlying22 (hval 1 22 v1 rfl rfl)
  have hsl2 := okWide_slice Try.underlying22 (hval 2 22 v2 rfl rfl)
  clear hA0 hval0
  simp only [List.append_nil, List.nil_append] at hW'
  have hlt1 : ∀ x ∈ p1, x.block < W.heap.size := fun x hx => by simpa using hW'.lt x (by simp [hx])
  have harg1 : ∀ (W' : World), Below W.heap.size W W' → DataW.Trod enc Try.prog W' 0 (fun b => decide (b < W.heap.size)) true 22 v1 d1 p1 :=
    fun W' hn => Below.trod laidOut (by kernel_rfl) (of_decide_eq_true (by kernel_rfl)) h1 hn hlt1
  obtain ⟨o1, c1, l1, rfl, r1, k1, m1⟩ := longs_view Try.underlying22 cells2 Try.underlying2 h1 hsl1
  have hlt2 : ∀ x ∈ p2, x.block < W.heap.size := fun x hx => by simpa using hW'.lt x (by simp [hx])
  have harg2 : ∀ (W' : World), Below W.heap.size W W' → DataW.Trod enc Try.prog W' 0 (fun b => decide (b < W.heap.size)) true 22 v2 d2 p2 :=
    fun W' hn => Below.trod laidOut (by kernel_rfl) (of_decide_eq_true (by kernel_rfl)) h2 hn hlt2
  obtain ⟨o2, c2, l2, rfl, r2, k2, m2⟩ := longs_view Try.underlying22 cells2 Try.underlying2 h2 hsl2
  refine (walk a0 o1 c1 l1 k1 m1 o2 c2 l2 k2 m2 W r1 r2).mono fun e W' ⟨he, hg⟩ => ?_
  subst he
  refine ⟨_, rfl, _, _, _, [], ([] : List MemPlace) ++ (p1 ++ (p2)), [], hW', ?_, ?_, rfl, hg.frame _, fun h => by cases h⟩
  · exact trodAll_mk1 (shut_bool Try.underlying4 true)
  · exact trodAll_mk3 (shut_int Try.underlying2 w0) (harg1 _ hg) (harg2 _ hg)

theorem over : Rows.polyDivsRow.holds Try.pinned (OpenSpec.ofChange Rows.polyDivsSpec) :=
  OpenClaim.holds_of_wide 6 Try.f6 rfl rfl rfl rfl rfl rfl rfl ⟨rfl, rfl, rfl, rfl, rfl⟩ rfl rfl rfl rfl rfl (by kernel_rfl) Try.func6 (by kernel_rfl)
    (of_decide_eq_true (by kernel_rfl)) (by unfold Func.isWrapper; first | (rw [if_pos (by decide +kernel)]; kernel_rfl) | (rw [if_neg (by decide +kernel)]; exact ⟨rfl, rfl⟩))
    (fun os started H enc _ => lifted os started H enc)

/-- ████ THE STATEMENT ████ -/
theorem proved : Rows.PolyDivsSaid :=
  over

end Go.Proofs.Ytiaabkadonimjaa.polyDivs
