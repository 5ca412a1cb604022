/-
  For any key, any number and any two primes the program tells from what it has come, by parts, or what is wrong.
-/
import Derived.Test.YtoohnfcikapmlaaRows
import Derived.Test.YtoohnfcikapmlaaCalls156
import Derived.Test.YtoohnfcikapmlaaBase10
import Derived.WalkKit
import Derived.ProofKit
import Derived.OpenShut
import Derived.Carry
namespace Go.Proofs.Ytoohnfcikapmlaa.rsaParts
open Go.ChangeShapes Go.WideShapes Go.ChangeAt Go.RowKit Go.Deep Go.Proofs.Ytoohnfcikapmlaa.Base Go.Proofs.Ytoohnfcikapmlaa.Base2 Go.Proofs.Ytoohnfcikapmlaa.Base10 Go.Proofs.Ytoohnfcikapmlaa.Num Go.Proofs.Ytoohnfcikapmlaa.Num56 Go.Proofs.Ytoohnfcikapmlaa.Calls150 Go.Proofs.Ytoohnfcikapmlaa.Calls151 Go.Proofs.Ytoohnfcikapmlaa.Calls152 Go.Proofs.Ytoohnfcikapmlaa.Calls153 Go.Proofs.Ytoohnfcikapmlaa.Calls154 Go.Proofs.Ytoohnfcikapmlaa.Calls155 Go.Proofs.Ytoohnfcikapmlaa.Calls156
set_option linter.unusedVariables false

theorem own : ownKnob Try.prog.godebug = none := by kernel_rfl

theorem laidOut : laidOutB Try.prog = true := by kernel_rfl

theorem cells2 : Try.prog.cellsOf 2 = 1 := by kernel_rfl

theorem cells_K : Try.prog.cellsOf 23 = 3 := by kernel_rfl

set_option maxRecDepth 100000 in
set_option maxHeartbeats 1000000 in
theorem walkF (N E D x p q : Int) (h : ¬ Cr x E D N) (w : World) :
    Calls Try.prog 5 #[.agg #[.int .i64 N, .int .i64 E, .int .i64 D], .int .i64 x, .int .i64 p, .int .i64 q] w fun e w' => e = .returned (.bool true) ∧ Below w.heap.size w w' := by
  have cL := fun w => Parts_bad p q N E D x h w
  have cK := fun w => keyCheck_no N E D x h w
  have K := hid (Kb.new w N E D)
  obtain ⟨c0, c1, c2⟩ := K.out.cells
  clear h
  go_enter Try.func5, Try.ntmps5
  go_wp2_with (first
    | (go_at_call 12; refine (cL _).mono ?_; clear cL; rintro e w1 ⟨rfl, hB1⟩; have K1 := hid (K.out.below hB1); obtain ⟨d0, d1, d2⟩ := K1.out.cells; clear hB1)
    | (go_at_call 9; refine (cK _).mono ?_; clear cK; rintro e w2 ⟨rfl, hB2⟩; have K2 := hid (K1.out.below hB2); obtain ⟨e0, e1, e2⟩ := K2.out.cells; clear hB2))
  go_ret
  exact ⟨rfl, K2.out.2⟩

set_option maxRecDepth 100000 in
set_option maxHeartbeats 1000000 in
theorem walkG (N E D x p q a b c : Int) (h : Cr x E D N) (hno : ¬ (twoP p q = true ∧ p * q = N)) (hc : c ≠ 0) (cA : ∀ w, Calls Try.prog 14 #[.int .i64 p] w fun e w' => e = .returned (.int .i64 a) ∧ w' = w) (cB : ∀ w, Calls Try.prog 14 #[.int .i64 q] w fun e w' => e = .returned (.int .i64 b) ∧ w' = w) (cF : ∀ w, Calls Try.prog 13 #[.int .i64 a, .int .i64 b] w fun e w' => e = .returned (.int .i64 c) ∧ w' = w) (w : World) :
    Calls Try.prog 5 #[.agg #[.int .i64 N, .int .i64 E, .int .i64 D], .int .i64 x, .int .i64 p, .int .i64 q] w fun e w' => e = .returned (.bool true) ∧ Below w.heap.size w w' := by
  have cL := fun w => Parts_arg p q N E D x h hno w
  have cK := fun w => keyCheck_yes N E D x h w
  have K := hid (Kb.new w N E D)
  obtain ⟨c0, c1, c2⟩ := K.out.cells
  clear h hno
  have hc1 : (c != 0) = true := by simpa using hc
  go_enter Try.func5, Try.ntmps5
  go_wp2_with (first
    | (go_at_call 12; refine (cL _).mono ?_; clear cL; rintro e w1 ⟨rfl, hB1⟩; have K1 := hid (K.out.below hB1); obtain ⟨d0, d1, d2⟩ := K1.out.cells; clear hB1)
    | (go_at_call 9; refine (cK _).mono ?_; clear cK; rintro e w2 ⟨rfl, hB2⟩; have K2 := hid (K1.out.below hB2); obtain ⟨e0, e1, e2⟩ := K2.out.cells; clear hB2)
    | (go_at_call 14; (first | (refine (cA _).mono ?_; clear cA) | (refine (cB _).mono ?_; clear cB)); rintro e w' ⟨rfl, hw⟩; subst w')
    | (go_at_call 13; refine (cF _).mono ?_; clear cF; rintro e w' ⟨rfl, hw⟩; subst w'))
  go_ret
  exact ⟨rfl, K2.out.2⟩

set_option maxRecDepth 100000 in
set_option maxHeartbeats 1000000 in
theorem walkS (N E D x p a b : Int) (h : Cr x E D N) (hno : ¬ (twoP p p = true ∧ p * p = N)) (cA : ∀ w, Calls Try.prog 14 #[.int .i64 p] w fun e w' => e = .returned (.int .i64 a) ∧ w' = w) (cB : ∀ w, Calls Try.prog 14 #[.int .i64 p] w fun e w' => e = .returned (.int .i64 b) ∧ w' = w) (cF : ∀ w, Calls Try.prog 13 #[.int .i64 a, .int .i64 b] w fun e w' => e = .returned (.int .i64 0) ∧ w' = w) (w : World) :
    Calls Try.prog 5 #[.agg #[.int .i64 N, .int .i64 E, .int .i64 D], .int .i64 x, .int .i64 p, .int .i64 p] w fun e w' => e = .returned (.bool true) ∧ Below w.heap.size w w' := by
  have cL := fun w => Parts_arg p p N E D x h hno w
  have cK := fun w => keyCheck_yes N E D x h w
  have K := hid (Kb.new w N E D)
  obtain ⟨c0, c1, c2⟩ := K.out.cells
  clear h hno
  go_enter Try.func5, Try.ntmps5
  go_wp2_with (first
    | (go_at_call 12; refine (cL _).mono ?_; clear cL; rintro e w1 ⟨rfl, hB1⟩; have K1 := hid (K.out.below hB1); obtain ⟨d0, d1, d2⟩ := K1.out.cells; clear hB1)
    | (go_at_call 9; refine (cK _).mono ?_; clear cK; rintro e w2 ⟨rfl, hB2⟩; have K2 := hid (K1.out.below hB2); obtain ⟨e0, e1, e2⟩ := K2.out.cells; clear hB2)
    | (go_at_call 14; (first | (refine (cA _).mono ?_; clear cA) | (refine (cB _).mono ?_; clear cB)); rintro e w' ⟨rfl, hw⟩; subst w')
    | (go_at_call 13; refine (cF _).mono ?_; clear cF; rintro e w' ⟨rfl, hw⟩; subst w'))
  go_ret
  exact ⟨rfl, K2.out.2⟩

set_option maxRecDepth 100000 in
set_option maxHeartbeats 1000000 in
theorem walkM (N E D x p q a b : Int) (h : Cr x E D N) (hno : ¬ (twoP p q = true ∧ p * q = N)) (hpq : p ≠ q) (hm : 0 ≤ p * q ∧ p * q ≤ 1099511627776) (hN : p * q ≠ N) (cA : ∀ w, Calls Try.prog 14 #[.int .i64 p] w fun e w' => e = .returned (.int .i64 a) ∧ w' = w) (cB : ∀ w, Calls Try.prog 14 #[.int .i64 q] w fun e w' => e = .returned (.int .i64 b) ∧ w' = w) (cF : ∀ w, Calls Try.prog 13 #[.int .i64 a, .int .i64 b] w fun e w' => e = .returned (.int .i64 0) ∧ w' = w) (w : World) :
    Calls Try.prog 5 #[.agg #[.int .i64 N, .int .i64 E, .int .i64 D], .int .i64 x, .int .i64 p, .int .i64 q] w fun e w' => e = .returned (.bool true) ∧ Below w.heap.size w w' := by
  have cL := fun w => Parts_arg p q N E D x h hno w
  have cK := fun w => keyCheck_yes N E D x h w
  have K := hid (Kb.new w N E D)
  obtain ⟨c0, c1, c2⟩ := K.out.cells
  clear h hno
  have e1 : (p == q) = false := by simpa using hpq
  have e2 : (p * q != N) = true := by simpa using hN
  have e3 : IntKind.i64.wrap (p * q) = p * q := wrap_in _ (by omega) (by omega)
  clear hm
  go_enter Try.func5, Try.ntmps5
  go_wp2_with (first
    | (go_at_call 12; refine (cL _).mono ?_; clear cL; rintro e w1 ⟨rfl, hB1⟩; have K1 := hid (K.out.below hB1); obtain ⟨d0, d1, d2⟩ := K1.out.cells; clear hB1)
    | (go_at_call 9; refine (cK _).mono ?_; clear cK; rintro e w2 ⟨rfl, hB2⟩; have K2 := hid (K1.out.below hB2); obtain ⟨e0, e1, e2⟩ := K2.out.cells; clear hB2)
    | (go_at_call 14; (first | (refine (cA _).mono ?_; clear cA) | (refine (cB _).mono ?_; clear cB)); rintro e w' ⟨rfl, hw⟩; subst w')
    | (go_at_call 13; refine (cF _).mono ?_; clear cF; rintro e w' ⟨rfl, hw⟩; subst w'))
  go_ret
  exact ⟨rfl, K2.out.2⟩

set_option maxRecDepth 100000 in
set_option maxHeartbeats 1000000 in
theorem walkY (N E D x : Nat) (p q a b : Int) (y : Nat) (hpq : p ≠ q) (hm : 0 ≤ p * q ∧ p * q ≤ 1099511627776) (hN : p * q = (N : Int)) (cA : ∀ w, Calls Try.prog 14 #[.int .i64 p] w fun e w' => e = .returned (.int .i64 a) ∧ w' = w) (cB : ∀ w, Calls Try.prog 14 #[.int .i64 q] w fun e w' => e = .returned (.int .i64 b) ∧ w' = w) (cF : ∀ w, Calls Try.prog 13 #[.int .i64 a, .int .i64 b] w fun e w' => e = .returned (.int .i64 0) ∧ w' = w)
    (cL : ∀ w, Calls Try.prog 12 #[.int .i64 p, .int .i64 q, .agg #[.int .i64 (N : Int), .int .i64 (E : Int), .int .i64 (D : Int)], .int .i64 (x : Int)] w fun e w' => e = .returned (.tuple #[.int .i64 (y : Int), .int .i64 0]) ∧ Below w.heap.size w w')
    (cK : ∀ w, Calls Try.prog 9 #[.agg #[.int .i64 (N : Int), .int .i64 (E : Int), .int .i64 (D : Int)], .int .i64 (x : Int)] w fun e w' => e = .returned (.int .i64 0) ∧ Below w.heap.size w w')
    (cP : ∀ w, Calls Try.prog 10 #[.int .i64 (x : Int), .int .i64 (D : Int), .int .i64 (N : Int)] w fun e w' => e = .returned (.int .i64 (y : Int)) ∧ w' = w) (w : World) :
    Calls Try.prog 5 #[.agg #[.int .i64 (N : Int), .int .i64 (E : Int), .int .i64 (D : Int)], .int .i64 (x : Int), .int .i64 p, .int .i64 q] w fun e w' => e = .returned (.bool true) ∧ Below w.heap.size w w' := by
  have K := hid (Kb.new w (N : Int) (E : Int) (D : Int))
  obtain ⟨c0, c1, c2⟩ := K.out.cells
  have e1 : (p == q) = false := by simpa using hpq
  have e2 : ((N : Int) != (N : Int)) = false := bne_self_eq_false _
  have e3 : IntKind.i64.wrap (p * q) = (N : Int) := by rw [wrap_in _ (by omega) (by omega), hN]
  clear hm hN
  go_enter Try.func5, Try.ntmps5
  go_wp2_with (first
    | (go_at_call 12; refine (cL _).mono ?_; clear cL; rintro e w1 ⟨rfl, hB1⟩; have K1 := hid (K.out.below hB1); obtain ⟨d0, d1, d2⟩ := K1.out.cells; clear hB1)
    | (go_at_call 9; refine (cK _).mono ?_; clear cK; rintro e w2 ⟨rfl, hB2⟩; have K2 := hid (K1.out.below hB2); obtain ⟨e0, e1, e2⟩ := K2.out.cells; clear hB2)
    | (go_at_call 14; (first | (refine (cA _).mono ?_; clear cA) | (refine (cB _).mono ?_; clear cB)); rintro e w' ⟨rfl, hw⟩; subst w')
    | (go_at_call 13; refine (cF _).mono ?_; clear cF; rintro e w' ⟨rfl, hw⟩; subst w')
    | (go_at_call 10; refine (cP _).mono ?_; clear cP; rintro e w3 ⟨rfl, hw⟩; subst w3))
  go_ret
  exact ⟨by simp, K2.out.2⟩

theorem walk (N E D : Int) (wN : (Lit.int .i64 N).wf = true) (wE : (Lit.int .i64 E).wf = true) (wD : (Lit.int .i64 D).wf = true) (x p q : Int) (w : World) :
    Calls Try.prog 5 #[.agg #[.int .i64 N, .int .i64 E, .int .i64 D], .int .i64 x, .int .i64 p, .int .i64 q] w fun e w' => e = .returned (.bool true) ∧ Below w.heap.size w w' := by
  by_cases h : Cr x E D N
  · obtain ⟨a, b, c, hc, cA, cB, cF⟩ := gates p q
    by_cases h0 : c = 0
    · subst h0
      obtain ⟨hp, hq⟩ := hc.1 rfl
      by_cases hpq : p = q
      · subst hpq
        exact walkS N E D x p a b h (fun e => by have := e.1; unfold twoP at this; simp at this) cA cB cF w
      · have ht : twoP p q = true := by unfold twoP; rw [hp, hq]; simpa using hpq
        obtain ⟨P, Q, rfl, rfl, hP, hQ, hne, hP2, hQ2⟩ := (twoP_iff p q).1 ht
        have hm0 : P * Q ≤ 1048576 * 1048576 := Nat.mul_le_mul hP2 hQ2
        have he : (P : Int) * (Q : Int) = ((P * Q : Nat) : Int) := by simp
        have hm : 0 ≤ (P : Int) * (Q : Int) ∧ (P : Int) * (Q : Int) ≤ 1099511627776 := by omega
        by_cases hN : (P : Int) * (Q : Int) = N
        · obtain ⟨x', e', d', n', rfl, rfl, rfl, rfl⟩ := h.nat
          have hn : n' = P * Q := by omega
          subst hn
          have h1 := h.1
          have h2 := h.2.2.1.2
          exact walkY (P * Q) e' d' x' (P : Int) (Q : Int) a b (x' ^ d' % (P * Q)) hpq hm hN cA cB cF (fun w => Parts_yes P Q e' d' x' hP hQ hne (by omega) h w) (fun w => keyCheck_yes _ _ _ _ h w) (fun w => refPow_nat x' d' (P * Q) (by omega) (by omega) (by omega) w) w
        · exact walkM N E D x _ _ a b h (fun e => hN e.2) hpq hm hN cA cB cF w
    · refine walkG N E D x p q a b c h (fun e => ?_) h0 cA cB cF w
      have ht := e.1
      unfold twoP at ht
      simp at ht
      exact h0 (hc.2 ht.1)
  · exact walkF N E D x p q h w

set_option maxRecDepth 100000 in
theorem lifted (os : Os) (started : os.Started) (H : Type) (enc : TypeId × Value → H) :
    ReturnsInHanded {} Try.checked os 5 .any (Rows.rsaPartsSpec.pre6 enc Try.prog Try.f5 Rows.rsaPartsRow.domain false) (Rows.rsaPartsSpec.post enc Try.prog Try.f5 false true false false) := by
  refine returnsInHanded_of_change (C := Try.checked) own started (by kernel_rfl) Try.func5
    (ChangeSpec.witness6 (enc := enc) (C := Try.checked) false ⟨#[], #[.agg #[.int .i64 0, .int .i64 0, .int .i64 0], .int .i64 0, .int .i64 0, .int .i64 0], []⟩ 8 (by kernel_rfl) (by kernel_rfl) (by kernel_rfl) (by kernel_rfl)) ?_
  intro W base args ds gs before hval0 hW hcnd _
  have hval : ∀ (j : Nat) t v, Try.f5.params[j]? = some t → args[j]? = some v → Value.okWide Try.prog W .any base t v := hval0
  have hW' := hW
  obtain ⟨p, q, hA0, hV, rfl, _, _⟩ := hW
  have hA : DataW.TrodAll enc Try.prog W 0 (fun _ => true) true Try.f5.params.toList args.toList ds p := hA0
  rw [Try.params5] at hA hval
  obtain ⟨v0, v1, v2, v3, d0, d1, d2, d3, p0, p1, p2, p3, rfl, rfl, rfl, h0, h1, h2, h3⟩ := trodAll_four hA
  obtain ⟨rfl, rfl⟩ := trodVars_none hV
  have hsv0 := hval 0 23 v0 rfl rfl
  obtain ⟨a1, rfl, rfl, rfl, w1⟩ := open_int Try.underlying2 (hval 1 2 v1 rfl rfl) h1
  obtain ⟨a2, rfl, rfl, rfl, w2⟩ := open_int Try.underlying2 (hval 2 2 v2 rfl rfl) h2
  obtain ⟨a3, rfl, rfl, rfl, w3⟩ := open_int Try.underlying2 (hval 3 2 v3 rfl rfl) h3
  clear hA0 hval0
  simp only [List.append_nil] at hW'
  have hlt0 : ∀ x ∈ p0, x.block < W.heap.size := fun x hx => by simpa using hW'.lt x (by simp [hx])
  have harg0 : ∀ (W' : World), Below W.heap.size W W' → DataW.Trod enc Try.prog W' 0 (fun b => decide (b < W.heap.size)) true 23 v0 d0 p0 :=
    fun W' hn => Below.trod laidOut (by kernel_rfl) (of_decide_eq_true (by kernel_rfl)) h0 hn hlt0
  obtain ⟨x0a, x0b, x0c, rfl, w0a, w0b, w0c⟩ := struct3_view Try.underlying23 cells_K rfl rfl rfl ⟨cells2, Try.underlying2⟩ ⟨cells2, Try.underlying2⟩ ⟨cells2, Try.underlying2⟩ h0 hsv0
  refine (walk x0a x0b x0c w0a w0b w0c a1 a2 a3 W ).mono fun e W' ⟨he, hg⟩ => ?_
  subst he
  refine ⟨_, rfl, _, _, _, [], p0 ++ (([] : List MemPlace) ++ (([] : List MemPlace) ++ (([] : List MemPlace)))), [], hW', ?_, ?_, rfl, hg.frame _, fun h => by cases h⟩
  · exact trodAll_mk1 (shut_bool Try.underlying4 true)
  · exact trodAll_mk4 (harg0 _ hg) (shut_int Try.underlying2 w1) (shut_int Try.underlying2 w2) (shut_int Try.underlying2 w3)

theorem over : Rows.rsaPartsRow.holds Try.pinned (OpenSpec.ofChange Rows.rsaPartsSpec) :=
  OpenClaim.holds_of_wide 5 Try.f5 rfl rfl rfl rfl rfl rfl rfl ⟨rfl, rfl, rfl, rfl, rfl⟩ rfl rfl rfl rfl rfl (by kernel_rfl) Try.func5 (by kernel_rfl)
    (of_decide_eq_true (by kernel_rfl)) (by unfold Func.isWrapper; first | (rw [if_pos (by decide +kernel)]; kernel_rfl) | (rw [if_neg (by decide +kernel)]; exact ⟨rfl, rfl⟩))
    (fun os started H enc _ => lifted os started H enc)

/-- ████ THE STATEMENT ████ -/
theorem proved : Rows.RsaPartsSaid :=
  over

end Go.Proofs.Ytoohnfcikapmlaa.rsaParts
