/-
  For any group, any member and any two talks the program tells what who can answer both knows.
-/
import Derived.Test.YtpflkihagebmlaaRows
import Derived.Test.YtpflkihagebmlaaCalls174
import Derived.Test.YtpflkihagebmlaaBase10
import Derived.WalkKit
import Derived.ProofKit
import Derived.OpenShut
import Derived.Carry
namespace Go.Proofs.Ytpflkihagebmlaa.talkExtracts
open Go.ChangeShapes Go.WideShapes Go.ChangeAt Go.RowKit Go.Deep Go.Proofs.Ytpflkihagebmlaa.Base Go.Proofs.Ytpflkihagebmlaa.Base2 Go.Proofs.Ytpflkihagebmlaa.Base4 Go.Proofs.Ytpflkihagebmlaa.Base10 Go.Proofs.Ytpflkihagebmlaa.Num Go.Proofs.Ytpflkihagebmlaa.Num56 Go.Proofs.Ytpflkihagebmlaa.Calls157 Go.Proofs.Ytpflkihagebmlaa.Calls158 Go.Proofs.Ytpflkihagebmlaa.Calls160 Go.Proofs.Ytpflkihagebmlaa.Calls159 Go.Proofs.Ytpflkihagebmlaa.Calls161 Go.Proofs.Ytpflkihagebmlaa.Calls167 Go.Proofs.Ytpflkihagebmlaa.Calls169 Go.Proofs.Ytpflkihagebmlaa.Calls170 Go.Proofs.Ytpflkihagebmlaa.Calls171 Go.Proofs.Ytpflkihagebmlaa.Calls172 Go.Proofs.Ytpflkihagebmlaa.Calls173 Go.Proofs.Ytpflkihagebmlaa.Calls174
set_option linter.unusedVariables false

theorem own : ownKnob Try.prog.godebug = none := by kernel_rfl

theorem laidOut : laidOutB Try.prog = true := by kernel_rfl

theorem cells2 : Try.prog.cellsOf 2 = 1 := by kernel_rfl

theorem cells_G : Try.prog.cellsOf 23 = 4 := by kernel_rfl

theorem cells_T : Try.prog.cellsOf 25 = 3 := by kernel_rfl

set_option maxRecDepth 100000 in
set_option maxHeartbeats 2000000 in
theorem walkF (P Q G H x f a z f2 a2 z2 : Int) (h : aC P Q G H [a, z, a2, z2] [x, f, f2] ≠ 0) (w : World) :
    Calls Try.prog 5 #[.agg #[.int .i64 P, .int .i64 Q, .int .i64 G, .int .i64 H], .int .i64 x, .agg #[.int .i64 f, .int .i64 a, .int .i64 z], .agg #[.int .i64 f2, .int .i64 a2, .int .i64 z2]] w fun e w' => e = .returned (.bool true) ∧ Below w.heap.size w w' := by
  have cL := fun w => Extract_bad P Q G H x f a z f2 a2 z2 h w
  have cK := fun w => sd2 P Q G H x f a z f2 a2 z2 w w.heap.size rfl
  have K := hid (Ge.new w P Q G H #[.int .i64 f, .int .i64 a, .int .i64 z] #[.int .i64 f2, .int .i64 a2, .int .i64 z2])
  obtain ⟨c0, c1, c2, c3⟩ := K.out.1.1.cells
  obtain ⟨t0, t1, t2, _⟩ := box_three K.out.1.2
  obtain ⟨u0, u1, u2, _⟩ := box_three K.out.2
  generalize aC P Q G H [a, z, a2, z2] [x, f, f2] = c at *
  have h1 : (c != 0) = true := by simpa using h
  have h2 : (c == 0) = false := by simpa using h
  clear h
  go_enter Try.func5, Try.ntmps5
  go_wp2_with (first
    | (go_at_call 15; refine (cL _).mono ?_; clear cL; rintro e w1 ⟨rfl, hB1⟩; have K := hid (K.out.below hB1); obtain ⟨c0, c1, c2, c3⟩ := K.out.1.1.cells; obtain ⟨t0, t1, t2, _⟩ := box_three K.out.1.2; obtain ⟨u0, u1, u2, _⟩ := box_three K.out.2; clear hB1)
    | (go_at_call 13; refine (cK _).mono ?_; clear cK; rintro e w2 ⟨rfl, hB2⟩; have K := hid (K.out.below hB2); clear hB2))
  go_ret
  exact ⟨by simp, K.out.1.1.2⟩

set_option maxRecDepth 100000 in
set_option maxHeartbeats 4000000 in
theorem walkA (P Q G H x f a z f2 a2 z2 : Nat) (hG : Grp P Q G H) (hx : Mem P Q x) (hf : Mem P Q f) (hf2 : Mem P Q f2) (ha : a < Q) (hz : z < Q) (ha2 : a2 < Q) (hz2 : z2 < Q)
    (hh : ¬ (f = fst P Q G x a z ∧ f2 = fst P Q G x a2 z2 ∧ f = f2 ∧ a ≠ a2)) (w : World) :
    Calls Try.prog 5 #[.agg #[.int .i64 (P : Int), .int .i64 (Q : Int), .int .i64 (G : Int), .int .i64 (H : Int)], .int .i64 (x : Int), .agg #[.int .i64 (f : Int), .int .i64 (a : Int), .int .i64 (z : Int)], .agg #[.int .i64 (f2 : Int), .int .i64 (a2 : Int), .int .i64 (z2 : Int)]] w fun e w' => e = .returned (.bool true) ∧ Below w.heap.size w w' := by
  have p3 := hG.p3
  have pb := hG.big
  have ql := hG.qlt
  have cL := fun w => Extract_no P Q G H x f a z f2 a2 z2 hG hx hf hf2 ha hz ha2 hz2 hh w
  have cK := fun w => sd2 (P : Int) (Q : Int) (G : Int) (H : Int) (x : Int) (f : Int) (a : Int) (z : Int) (f2 : Int) (a2 : Int) (z2 : Int) w w.heap.size rfl
  rw [aC_of hG (ex4 ha hz ha2 hz2) (me3 hx hf hf2)] at cK
  have cR := fun w => right_any P (Q : Int) G (H : Int) x f a z (by omega) pb hf.2.1 (by omega) (by omega) (decide (f = fst P Q G x a z)) (by rw [decide_eq_true_iff, fst_iff hG.g hx ha hf.2.1]) w
  have cT := fun w => right_any P (Q : Int) G (H : Int) x f2 a2 z2 (by omega) pb hf2.2.1 (by omega) (by omega) (decide (f2 = fst P Q G x a2 z2)) (by rw [decide_eq_true_iff, fst_iff hG.g hx ha2 hf2.2.1]) w
  have hb1 : decide (f = fst P Q G x a z) = true ↔ f = fst P Q G x a z := decide_eq_true_iff
  have hb2 : decide (f2 = fst P Q G x a2 z2) = true ↔ f2 = fst P Q G x a2 z2 := decide_eq_true_iff
  generalize decide (f = fst P Q G x a z) = b at *
  generalize decide (f2 = fst P Q G x a2 z2) = b2 at *
  have hh' : b = false ∨ (b = true ∧ b2 = false) ∨ (b = true ∧ b2 = true ∧ ((f : Int) != (f2 : Int)) = true) ∨ (b = true ∧ b2 = true ∧ ((f : Int) != (f2 : Int)) = false ∧ ((a : Int) == (a2 : Int)) = true) := by
    cases hb : b with
    | false => exact .inl rfl
    | true =>
      cases hc : b2 with
      | false => exact .inr (.inl ⟨rfl, rfl⟩)
      | true =>
        by_cases e : f = f2
        · by_cases e2 : a = a2
          · exact .inr (.inr (.inr ⟨rfl, rfl, by subst e; exact bne_self_eq_false _, i64_eq e2⟩))
          · exact absurd ⟨hb1.1 hb, hb2.1 hc, e, e2⟩ hh
        · exact .inr (.inr (.inl ⟨rfl, rfl, i64_bne e⟩))
  have K := hid (Ge.new w (P : Int) (Q : Int) (G : Int) (H : Int) #[.int .i64 (f : Int), .int .i64 (a : Int), .int .i64 (z : Int)] #[.int .i64 (f2 : Int), .int .i64 (a2 : Int), .int .i64 (z2 : Int)])
  obtain ⟨c0, c1, c2, c3⟩ := K.out.1.1.cells
  obtain ⟨t0, t1, t2, _⟩ := box_three K.out.1.2
  obtain ⟨u0, u1, u2, _⟩ := box_three K.out.2
  clear hG hx hf hf2 ha hz ha2 hz2 p3 pb ql hb1 hb2 hh
  rcases hh' with rfl | ⟨rfl, rfl⟩ | ⟨rfl, rfl, g1⟩ | ⟨rfl, rfl, g1, g2⟩
  all_goals
    go_enter Try.func5, Try.ntmps5
    go_wp2_with (first
      | (go_at_call 15; refine (cL _).mono ?_; clear cL; rintro e w1 ⟨rfl, hB1⟩; have K := hid (K.out.below hB1); obtain ⟨c0, c1, c2, c3⟩ := K.out.1.1.cells; obtain ⟨t0, t1, t2, _⟩ := box_three K.out.1.2; obtain ⟨u0, u1, u2, _⟩ := box_three K.out.2; clear hB1)
      | (go_at_call 13; refine (cK _).mono ?_; clear cK; rintro e w2 ⟨rfl, hB2⟩; have K := hid (K.out.below hB2); obtain ⟨c0, c1, c2, c3⟩ := K.out.1.1.cells; obtain ⟨t0, t1, t2, _⟩ := box_three K.out.1.2; obtain ⟨u0, u1, u2, _⟩ := box_three K.out.2; clear hB2)
      | (go_at_call 14; refine (cR _).mono ?_; clear cR; rintro e w3 ⟨rfl, hB3⟩; have K := hid (K.out.below hB3); obtain ⟨c0, c1, c2, c3⟩ := K.out.1.1.cells; obtain ⟨t0, t1, t2, _⟩ := box_three K.out.1.2; obtain ⟨u0, u1, u2, _⟩ := box_three K.out.2; clear hB3)
      | (go_at_call 14; refine (cT _).mono ?_; clear cT; rintro e w4 ⟨rfl, hB4⟩; have K := hid (K.out.below hB4); obtain ⟨c0, c1, c2, c3⟩ := K.out.1.1.cells; obtain ⟨t0, t1, t2, _⟩ := box_three K.out.1.2; obtain ⟨u0, u1, u2, _⟩ := box_three K.out.2; clear hB4))
    go_ret
    exact ⟨by simp, K.out.1.1.2⟩

set_option maxRecDepth 100000 in
set_option maxHeartbeats 4000000 in
theorem walkY (P Q G H x f a z a2 z2 s : Nat) (hs : s < Q)
    (cL : ∀ w, Calls Try.prog 15 #[.agg #[.int .i64 (P : Int), .int .i64 (Q : Int), .int .i64 (G : Int), .int .i64 (H : Int)], .int .i64 (x : Int), .agg #[.int .i64 (f : Int), .int .i64 (a : Int), .int .i64 (z : Int)], .agg #[.int .i64 (f : Int), .int .i64 (a2 : Int), .int .i64 (z2 : Int)]] w fun e w' => e = .returned (.tuple #[.int .i64 (s : Int), .int .i64 0]) ∧ Below w.heap.size w w')
    (cK : ∀ w, Calls Try.prog 13 #[.agg #[.int .i64 (P : Int), .int .i64 (Q : Int), .int .i64 (G : Int), .int .i64 (H : Int)], .int .i64 (x : Int), .slice (some ⟨w.heap.size, 0, none⟩) 2 2] (w.alloc (.cells #[.int .i64 (f : Int), .int .i64 (a : Int), .int .i64 (z : Int), .int .i64 (f : Int), .int .i64 (a2 : Int), .int .i64 (z2 : Int)] 25)) fun e w' => e = .returned (.int .i64 0) ∧ Below w.heap.size w w')
    (cR : ∀ w, Calls Try.prog 14 #[.agg #[.int .i64 (P : Int), .int .i64 (Q : Int), .int .i64 (G : Int), .int .i64 (H : Int)], .int .i64 (x : Int), .agg #[.int .i64 (f : Int), .int .i64 (a : Int), .int .i64 (z : Int)]] w fun e w' => e = .returned (.bool true) ∧ Below w.heap.size w w')
    (cT : ∀ w, Calls Try.prog 14 #[.agg #[.int .i64 (P : Int), .int .i64 (Q : Int), .int .i64 (G : Int), .int .i64 (H : Int)], .int .i64 (x : Int), .agg #[.int .i64 (f : Int), .int .i64 (a2 : Int), .int .i64 (z2 : Int)]] w fun e w' => e = .returned (.bool true) ∧ Below w.heap.size w w')
    (cP : ∀ w, Calls Try.prog 11 #[.int .i64 (G : Int), .int .i64 (s : Int), .int .i64 (P : Int)] w fun e w' => e = .returned (.int .i64 (x : Int)) ∧ w' = w)
    (g2 : ((a : Int) == (a2 : Int)) = false) (w : World) :
    Calls Try.prog 5 #[.agg #[.int .i64 (P : Int), .int .i64 (Q : Int), .int .i64 (G : Int), .int .i64 (H : Int)], .int .i64 (x : Int), .agg #[.int .i64 (f : Int), .int .i64 (a : Int), .int .i64 (z : Int)], .agg #[.int .i64 (f : Int), .int .i64 (a2 : Int), .int .i64 (z2 : Int)]] w fun e w' => e = .returned (.bool true) ∧ Below w.heap.size w w' := by
  have g1 : ((f : Int) != (f : Int)) = false := bne_self_eq_false _
  have s0 : (0 : Int) ≤ (s : Int) := by omega
  have s1 : (s : Int) < (Q : Int) := by omega
  have K := hid (Ge.new w (P : Int) (Q : Int) (G : Int) (H : Int) #[.int .i64 (f : Int), .int .i64 (a : Int), .int .i64 (z : Int)] #[.int .i64 (f : Int), .int .i64 (a2 : Int), .int .i64 (z2 : Int)])
  obtain ⟨c0, c1, c2, c3⟩ := K.out.1.1.cells
  obtain ⟨t0, t1, t2, _⟩ := box_three K.out.1.2
  obtain ⟨u0, u1, u2, _⟩ := box_three K.out.2
  go_enter Try.func5, Try.ntmps5
  go_wp2_with (first
    | (go_at_call 15; refine (cL _).mono ?_; clear cL; rintro e w1 ⟨rfl, hB1⟩; have K := hid (K.out.below hB1); obtain ⟨c0, c1, c2, c3⟩ := K.out.1.1.cells; obtain ⟨t0, t1, t2, _⟩ := box_three K.out.1.2; obtain ⟨u0, u1, u2, _⟩ := box_three K.out.2; clear hB1)
    | (go_at_call 13; refine (cK _).mono ?_; clear cK; rintro e w2 ⟨rfl, hB2⟩; have K := hid (K.out.below hB2); obtain ⟨c0, c1, c2, c3⟩ := K.out.1.1.cells; obtain ⟨t0, t1, t2, _⟩ := box_three K.out.1.2; obtain ⟨u0, u1, u2, _⟩ := box_three K.out.2; clear hB2)
    | (go_at_call 14; refine (cR _).mono ?_; clear cR; rintro e w3 ⟨rfl, hB3⟩; have K := hid (K.out.below hB3); obtain ⟨c0, c1, c2, c3⟩ := K.out.1.1.cells; obtain ⟨t0, t1, t2, _⟩ := box_three K.out.1.2; obtain ⟨u0, u1, u2, _⟩ := box_three K.out.2; clear hB3)
    | (go_at_call 14; refine (cT _).mono ?_; clear cT; rintro e w4 ⟨rfl, hB4⟩; have K := hid (K.out.below hB4); obtain ⟨c0, c1, c2, c3⟩ := K.out.1.1.cells; obtain ⟨t0, t1, t2, _⟩ := box_three K.out.1.2; obtain ⟨u0, u1, u2, _⟩ := box_three K.out.2; clear hB4)
    | (go_at_call 11; refine (cP _).mono ?_; clear cP; rintro e w5 ⟨rfl, hw⟩; subst w5))
  go_ret
  exact ⟨by simp, K.out.1.1.2⟩

theorem walk (P Q G H : Int) (wP : (Lit.int .i64 P).wf = true) (wQ : (Lit.int .i64 Q).wf = true) (wG : (Lit.int .i64 G).wf = true) (wH : (Lit.int .i64 H).wf = true) (x f a z : Int) (wf : (Lit.int .i64 f).wf = true) (wa : (Lit.int .i64 a).wf = true) (wz : (Lit.int .i64 z).wf = true) (f2 a2 z2 : Int) (wf2 : (Lit.int .i64 f2).wf = true) (wa2 : (Lit.int .i64 a2).wf = true) (wz2 : (Lit.int .i64 z2).wf = true) (w : World) :
    Calls Try.prog 5 #[.agg #[.int .i64 P, .int .i64 Q, .int .i64 G, .int .i64 H], .int .i64 x, .agg #[.int .i64 f, .int .i64 a, .int .i64 z], .agg #[.int .i64 f2, .int .i64 a2, .int .i64 z2]] w fun e w' => e = .returned (.bool true) ∧ Below w.heap.size w w' := by
  by_cases h : aC P Q G H [a, z, a2, z2] [x, f, f2] = 0
  · obtain ⟨p, q, g, h', rfl, rfl, rfl, rfl, hG, h1, h2⟩ := aC_zero h
    obtain ⟨a', rfl, ha⟩ := h1 a (by simp)
    obtain ⟨z', rfl, hz⟩ := h1 z (by simp)
    obtain ⟨b', rfl, ha2⟩ := h1 a2 (by simp)
    obtain ⟨y', rfl, hz2⟩ := h1 z2 (by simp)
    obtain ⟨x', rfl, hx⟩ := h2 x (by simp)
    obtain ⟨f', rfl, hf⟩ := h2 f (by simp)
    obtain ⟨g', rfl, hf2⟩ := h2 f2 (by simp)
    by_cases hh : f' = fst p q g x' a' z' ∧ g' = fst p q g x' b' y' ∧ f' = g' ∧ a' ≠ b'
    · obtain ⟨k1, k2, rfl, k3⟩ := hh
      have p3 := hG.p3
      have pb := hG.big
      have ql := hG.qlt
      obtain ⟨s, ⟨hs, es⟩, cL⟩ := Extract_yes p q g h' x' f' a' z' b' y' hG hx hf ha hz ha2 hz2 k1 k2 k3
      have cK := fun w => sd2 (p : Int) (q : Int) (g : Int) (h' : Int) (x' : Int) (f' : Int) (a' : Int) (z' : Int) (f' : Int) (b' : Int) (y' : Int) w w.heap.size rfl
      rw [h] at cK
      have cP := fun w => refPow_nat g s p (by omega) pb (by omega) w
      rw [es] at cP
      exact walkY p q g h' x' f' a' z' b' y' s hs cL cK (fun w => right_any p (q : Int) g (h' : Int) x' f' a' z' (by omega) pb hf.2.1 (by omega) (by omega) true (by rw [fst_iff hG.g hx ha hf.2.1]; simp [← k1]) w) (fun w => right_any p (q : Int) g (h' : Int) x' f' b' y' (by omega) pb hf.2.1 (by omega) (by omega) true (by rw [fst_iff hG.g hx ha2 hf.2.1]; simp [← k2]) w) cP (i64_ne k3) w
    · exact walkA p q g h' x' f' a' z' g' b' y' hG hx hf hf2 ha hz ha2 hz2 hh w
  · exact walkF P Q G H x f a z f2 a2 z2 h w

set_option maxRecDepth 100000 in
theorem lifted (os : Os) (started : os.Started) (H : Type) (enc : TypeId × Value → H) :
    ReturnsInHanded {} Try.checked os 5 .any (Rows.talkExtractsSpec.pre6 enc Try.prog Try.f5 Rows.talkExtractsRow.domain false) (Rows.talkExtractsSpec.post enc Try.prog Try.f5 false true false false) := by
  refine returnsInHanded_of_change (C := Try.checked) own started (by kernel_rfl) Try.func5
    (ChangeSpec.witness6 (enc := enc) (C := Try.checked) false ⟨#[], #[.agg #[.int .i64 0, .int .i64 0, .int .i64 0, .int .i64 0], .int .i64 0, .agg #[.int .i64 0, .int .i64 0, .int .i64 0], .agg #[.int .i64 0, .int .i64 0, .int .i64 0]], []⟩ 8 (by kernel_rfl) (by kernel_rfl) (by kernel_rfl) (by kernel_rfl)) ?_
  intro W base args ds gs before hval0 hW hcnd _
  have hval : ∀ (j : Nat) t v, Try.f5.params[j]? = some t → args[j]? = some v → Value.okWide Try.prog W .any base t v := hval0
  have hW' := hW
  obtain ⟨p, q, hA0, hV, rfl, _, _⟩ := hW
  have hA : DataW.TrodAll enc Try.prog W 0 (fun _ => true) true Try.f5.params.toList args.toList ds p := hA0
  rw [Try.params5] at hA hval
  obtain ⟨v0, v1, v2, v3, d0, d1, d2, d3, p0, p1, p2, p3, rfl, rfl, rfl, h0, h1, h2, h3⟩ := trodAll_four hA
  obtain ⟨rfl, rfl⟩ := trodVars_none hV
  have hsv0 := hval 0 23 v0 rfl rfl
  obtain ⟨a1, rfl, rfl, rfl, w1⟩ := open_int Try.underlying2 (hval 1 2 v1 rfl rfl) h1
  have hsv2 := hval 2 25 v2 rfl rfl
  have hsv3 := hval 3 25 v3 rfl rfl
  clear hA0 hval0
  simp only [List.append_nil] at hW'
  have hlt0 : ∀ x ∈ p0, x.block < W.heap.size := fun x hx => by simpa using hW'.lt x (by simp [hx])
  have harg0 : ∀ (W' : World), Below W.heap.size W W' → DataW.Trod enc Try.prog W' 0 (fun b => decide (b < W.heap.size)) true 23 v0 d0 p0 :=
    fun W' hn => Below.trod laidOut (by kernel_rfl) (of_decide_eq_true (by kernel_rfl)) h0 hn hlt0
  obtain ⟨x0a, x0b, x0c, x0d, rfl, w0a, w0b, w0c, w0d⟩ := struct4_view Try.underlying23 cells_G rfl rfl rfl rfl ⟨cells2, Try.underlying2⟩ ⟨cells2, Try.underlying2⟩ ⟨cells2, Try.underlying2⟩ ⟨cells2, Try.underlying2⟩ h0 hsv0
  have hlt2 : ∀ x ∈ p2, x.block < W.heap.size := fun x hx => by simpa using hW'.lt x (by simp [hx])
  have harg2 : ∀ (W' : World), Below W.heap.size W W' → DataW.Trod enc Try.prog W' 0 (fun b => decide (b < W.heap.size)) true 25 v2 d2 p2 :=
    fun W' hn => Below.trod laidOut (by kernel_rfl) (of_decide_eq_true (by kernel_rfl)) h2 hn hlt2
  obtain ⟨x2a, x2b, x2c, rfl, w2a, w2b, w2c⟩ := struct3_view Try.underlying25 cells_T rfl rfl rfl ⟨cells2, Try.underlying2⟩ ⟨cells2, Try.underlying2⟩ ⟨cells2, Try.underlying2⟩ h2 hsv2
  have hlt3 : ∀ x ∈ p3, x.block < W.heap.size := fun x hx => by simpa using hW'.lt x (by simp [hx])
  have harg3 : ∀ (W' : World), Below W.heap.size W W' → DataW.Trod enc Try.prog W' 0 (fun b => decide (b < W.heap.size)) true 25 v3 d3 p3 :=
    fun W' hn => Below.trod laidOut (by kernel_rfl) (of_decide_eq_true (by kernel_rfl)) h3 hn hlt3
  obtain ⟨x3a, x3b, x3c, rfl, w3a, w3b, w3c⟩ := struct3_view Try.underlying25 cells_T rfl rfl rfl ⟨cells2, Try.underlying2⟩ ⟨cells2, Try.underlying2⟩ ⟨cells2, Try.underlying2⟩ h3 hsv3
  refine (walk x0a x0b x0c x0d w0a w0b w0c w0d a1 x2a x2b x2c w2a w2b w2c x3a x3b x3c w3a w3b w3c W ).mono fun e W' ⟨he, hg⟩ => ?_
  subst he
  refine ⟨_, rfl, _, _, _, [], p0 ++ (([] : List MemPlace) ++ (p2 ++ (p3))), [], hW', ?_, ?_, rfl, hg.frame _, fun h => by cases h⟩
  · exact trodAll_mk1 (shut_bool Try.underlying4 true)
  · exact trodAll_mk4 (harg0 _ hg) (shut_int Try.underlying2 w1) (harg2 _ hg) (harg3 _ hg)

theorem over : Rows.talkExtractsRow.holds Try.pinned (OpenSpec.ofChange Rows.talkExtractsSpec) :=
  OpenClaim.holds_of_wide 5 Try.f5 rfl rfl rfl rfl rfl rfl rfl ⟨rfl, rfl, rfl, rfl, rfl⟩ rfl rfl rfl rfl rfl (by kernel_rfl) Try.func5 (by kernel_rfl)
    (of_decide_eq_true (by kernel_rfl)) (by unfold Func.isWrapper; first | (rw [if_pos (by decide +kernel)]; kernel_rfl) | (rw [if_neg (by decide +kernel)]; exact ⟨rfl, rfl⟩))
    (fun os started H enc _ => lifted os started H enc)

/-- ████ THE STATEMENT ████ -/
theorem proved : Rows.TalkExtractsSaid :=
  over

end Go.Proofs.Ytpflkihagebmlaa.talkExtracts
