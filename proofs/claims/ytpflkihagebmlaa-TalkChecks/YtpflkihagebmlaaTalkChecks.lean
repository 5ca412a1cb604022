/-
  For any group, any member and any talk the program tells whether it fits.
-/
import Derived.Test.YtpflkihagebmlaaRows
import Derived.Test.YtpflkihagebmlaaCalls174
import Derived.Test.YtpflkihagebmlaaBase10
import Derived.WalkKit
import Derived.ProofKit
import Derived.OpenShut
import Derived.Carry
namespace Go.Proofs.Ytpflkihagebmlaa.talkChecks
open Go.ChangeShapes Go.WideShapes Go.ChangeAt Go.RowKit Go.Deep Go.Proofs.Ytpflkihagebmlaa.Base Go.Proofs.Ytpflkihagebmlaa.Base2 Go.Proofs.Ytpflkihagebmlaa.Base4 Go.Proofs.Ytpflkihagebmlaa.Base10 Go.Proofs.Ytpflkihagebmlaa.Num Go.Proofs.Ytpflkihagebmlaa.Num56 Go.Proofs.Ytpflkihagebmlaa.Calls157 Go.Proofs.Ytpflkihagebmlaa.Calls158 Go.Proofs.Ytpflkihagebmlaa.Calls160 Go.Proofs.Ytpflkihagebmlaa.Calls159 Go.Proofs.Ytpflkihagebmlaa.Calls161 Go.Proofs.Ytpflkihagebmlaa.Calls167 Go.Proofs.Ytpflkihagebmlaa.Calls169 Go.Proofs.Ytpflkihagebmlaa.Calls170 Go.Proofs.Ytpflkihagebmlaa.Calls171 Go.Proofs.Ytpflkihagebmlaa.Calls172 Go.Proofs.Ytpflkihagebmlaa.Calls173 Go.Proofs.Ytpflkihagebmlaa.Calls174
set_option linter.unusedVariables false

theorem own : ownKnob Try.prog.godebug = none := by kernel_rfl

theorem laidOut : laidOutB Try.prog = true := by kernel_rfl

theorem cells2 : Try.prog.cellsOf 2 = 1 := by kernel_rfl

theorem cells_G : Try.prog.cellsOf 23 = 4 := by kernel_rfl

theorem cells_T : Try.prog.cellsOf 25 = 3 := by kernel_rfl

set_option maxRecDepth 100000 in
set_option maxHeartbeats 1000000 in
theorem walkF (P Q G H x f a z : Int) (h : aC P Q G H [a, z] [x, f] ≠ 0) (w : World) :
    Calls Try.prog 4 #[.agg #[.int .i64 P, .int .i64 Q, .int .i64 G, .int .i64 H], .int .i64 x, .agg #[.int .i64 f, .int .i64 a, .int .i64 z]] w fun e w' => e = .returned (.bool true) ∧ Below w.heap.size w w' := by
  have cL := fun w => Check_bad P Q G H x f a z h w
  have cK := fun w => sd1 P Q G H x f a z w w.heap.size rfl
  have K := hid (Gs.new w P Q G H #[.int .i64 f, .int .i64 a, .int .i64 z])
  obtain ⟨c0, c1, c2, c3⟩ := K.out.1.cells
  obtain ⟨t0, t1, t2, _⟩ := box_three K.out.2
  generalize aC P Q G H [a, z] [x, f] = c at *
  have h1 : (c != 0) = true := by simpa using h
  go_enter Try.func4, Try.ntmps4
  go_wp2_with (first
    | (go_at_call 12; refine (cL _).mono ?_; clear cL; rintro e w1 ⟨rfl, hB1⟩; have K1 := hid (K.out.below hB1); obtain ⟨d0, d1, d2, d3⟩ := K1.out.1.cells; obtain ⟨u0, u1, u2, _⟩ := box_three K1.out.2; clear hB1)
    | (go_at_call 13; refine (cK _).mono ?_; clear cK; rintro e w2 ⟨rfl, hB2⟩; have K2 := hid (K1.out.below hB2); clear hB2))
  go_ret
  exact ⟨by simp, K2.out.1.2⟩

set_option maxRecDepth 100000 in
set_option maxHeartbeats 2000000 in
theorem walkY (P Q G H x f a z : Nat) (hG : Grp P Q G H) (hx : Mem P Q x) (hf : Mem P Q f) (ha : a < Q) (hz : z < Q) (w : World) :
    Calls Try.prog 4 #[.agg #[.int .i64 (P : Int), .int .i64 (Q : Int), .int .i64 (G : Int), .int .i64 (H : Int)], .int .i64 (x : Int), .agg #[.int .i64 (f : Int), .int .i64 (a : Int), .int .i64 (z : Int)]] w fun e w' => e = .returned (.bool true) ∧ Below w.heap.size w w' := by
  have p3 := hG.p3
  have pb := hG.big
  have ql := hG.qlt
  have cL := fun w => Check_yes P Q G H x f a z hG hx hf ha hz (decide (f = fst P Q G x a z)) (by rw [decide_eq_true_iff]) w
  have cK := fun w => sd1 (P : Int) (Q : Int) (G : Int) (H : Int) (x : Int) (f : Int) (a : Int) (z : Int) w w.heap.size rfl
  rw [aC_of hG (ex2 ha hz) (me2 hx hf)] at cK
  have cR := fun w => right_any P (Q : Int) G (H : Int) x f a z (by omega) pb hf.2.1 (by omega) (by omega) (decide (f = fst P Q G x a z)) (by rw [decide_eq_true_iff, fst_iff hG.g hx ha hf.2.1]) w
  generalize decide (f = fst P Q G x a z) = b at *
  have K := hid (Gs.new w (P : Int) (Q : Int) (G : Int) (H : Int) #[.int .i64 (f : Int), .int .i64 (a : Int), .int .i64 (z : Int)])
  obtain ⟨c0, c1, c2, c3⟩ := K.out.1.cells
  obtain ⟨t0, t1, t2, _⟩ := box_three K.out.2
  clear hG hx hf ha hz p3 pb ql
  go_enter Try.func4, Try.ntmps4
  go_wp2_with (first
    | (go_at_call 12; refine (cL _).mono ?_; clear cL; rintro e w1 ⟨rfl, hB1⟩; have K1 := hid (K.out.below hB1); obtain ⟨d0, d1, d2, d3⟩ := K1.out.1.cells; obtain ⟨u0, u1, u2, _⟩ := box_three K1.out.2; clear hB1)
    | (go_at_call 13; refine (cK _).mono ?_; clear cK; rintro e w2 ⟨rfl, hB2⟩; have K2 := hid (K1.out.below hB2); obtain ⟨e0, e1, e2, e3⟩ := K2.out.1.cells; obtain ⟨v0, v1, v2, _⟩ := box_three K2.out.2; clear hB2)
    | (go_at_call 14; refine (cR _).mono ?_; clear cR; rintro e w3 ⟨rfl, hB3⟩; have K3 := hid (K2.out.below hB3); clear hB3))
  go_ret
  exact ⟨by simp, K3.out.1.2⟩

theorem walk (P Q G H : Int) (wP : (Lit.int .i64 P).wf = true) (wQ : (Lit.int .i64 Q).wf = true) (wG : (Lit.int .i64 G).wf = true) (wH : (Lit.int .i64 H).wf = true) (x f a z : Int) (wf : (Lit.int .i64 f).wf = true) (wa : (Lit.int .i64 a).wf = true) (wz : (Lit.int .i64 z).wf = true) (w : World) :
    Calls Try.prog 4 #[.agg #[.int .i64 P, .int .i64 Q, .int .i64 G, .int .i64 H], .int .i64 x, .agg #[.int .i64 f, .int .i64 a, .int .i64 z]] w fun e w' => e = .returned (.bool true) ∧ Below w.heap.size w w' := by
  by_cases h : aC P Q G H [a, z] [x, f] = 0
  · obtain ⟨p, q, g, h', rfl, rfl, rfl, rfl, hG, h1, h2⟩ := aC_zero h
    obtain ⟨a', rfl, ha⟩ := h1 a (by simp)
    obtain ⟨z', rfl, hz⟩ := h1 z (by simp)
    obtain ⟨x', rfl, hx⟩ := h2 x (by simp)
    obtain ⟨f', rfl, hf⟩ := h2 f (by simp)
    exact walkY p q g h' x' f' a' z' hG hx hf ha hz w
  · exact walkF P Q G H x f a z h w

set_option maxRecDepth 100000 in
theorem lifted (os : Os) (started : os.Started) (H : Type) (enc : TypeId × Value → H) :
    ReturnsInHanded {} Try.checked os 4 .any (Rows.talkChecksSpec.pre6 enc Try.prog Try.f4 Rows.talkChecksRow.domain false) (Rows.talkChecksSpec.post enc Try.prog Try.f4 false true false false) := by
  refine returnsInHanded_of_change (C := Try.checked) own started (by kernel_rfl) Try.func4
    (ChangeSpec.witness6 (enc := enc) (C := Try.checked) false ⟨#[], #[.agg #[.int .i64 0, .int .i64 0, .int .i64 0, .int .i64 0], .int .i64 0, .agg #[.int .i64 0, .int .i64 0, .int .i64 0]], []⟩ 8 (by kernel_rfl) (by kernel_rfl) (by kernel_rfl) (by kernel_rfl)) ?_
  intro W base args ds gs before hval0 hW hcnd _
  have hval : ∀ (j : Nat) t v, Try.f4.params[j]? = some t → args[j]? = some v → Value.okWide Try.prog W .any base t v := hval0
  have hW' := hW
  obtain ⟨p, q, hA0, hV, rfl, _, _⟩ := hW
  have hA : DataW.TrodAll enc Try.prog W 0 (fun _ => true) true Try.f4.params.toList args.toList ds p := hA0
  rw [Try.params4] at hA hval
  obtain ⟨v0, v1, v2, d0, d1, d2, p0, p1, p2, rfl, rfl, rfl, h0, h1, h2⟩ := trodAll_three hA
  obtain ⟨rfl, rfl⟩ := trodVars_none hV
  have hsv0 := hval 0 23 v0 rfl rfl
  obtain ⟨a1, rfl, rfl, rfl, w1⟩ := open_int Try.underlying2 (hval 1 2 v1 rfl rfl) h1
  have hsv2 := hval 2 25 v2 rfl rfl
  clear hA0 hval0
  simp only [List.append_nil] at hW'
  have hlt0 : ∀ x ∈ p0, x.block < W.heap.size := fun x hx => by simpa using hW'.lt x (by simp [hx])
  have harg0 : ∀ (W' : World), Below W.heap.size W W' → DataW.Trod enc Try.prog W' 0 (fun b => decide (b < W.heap.size)) true 23 v0 d0 p0 :=
    fun W' hn => Below.trod laidOut (by kernel_rfl) (of_decide_eq_true (by kernel_rfl)) h0 hn hlt0
  obtain ⟨x0a, x0b, x0c, x0d, rfl, w0a, w0b, w0c, w0d⟩ := struct4_view Try.underlying23 cells_G rfl rfl rfl rfl ⟨cells2, Try.underlying2⟩ ⟨cells2, Try.underlying2⟩ ⟨cells2, Try.underlying2⟩ ⟨cells2, Try.underlying2⟩ h0 hsv0
  have hlt2 : ∀ x ∈ p2, x.block < W.heap.size := fun x hx => by simpa using hW'.lt x (by simp [hx])
  have harg2 : ∀ (W' : World), Below W.heap.size W W' → DataW.Trod enc Try.prog W' 0 (fun b => decide (b < W.heap.size)) true 25 v2 d2 p2 :=
    fun W' hn => Below.trod laidOut (by kernel_rfl) (of_decide_eq_true (by kernel_rfl)) h2 hn hlt2
  obtain ⟨x2a, x2b, x2c, rfl, w2a, w2b, w2c⟩ := struct3_view Try.underlying25 cells_T rfl rfl rfl ⟨cells2, Try.underlying2⟩ ⟨cells2, Try.underlying2⟩ ⟨cells2, Try.underlying2⟩ h2 hsv2
  refine (walk x0a x0b x0c x0d w0a w0b w0c w0d a1 x2a x2b x2c w2a w2b w2c W ).mono fun e W' ⟨he, hg⟩ => ?_
  subst he
  refine ⟨_, rfl, _, _, _, [], p0 ++ (([] : List MemPlace) ++ (p2)), [], hW', ?_, ?_, rfl, hg.frame _, fun h => by cases h⟩
  · exact trodAll_mk1 (shut_bool Try.underlying4 true)
  · exact trodAll_mk3 (harg0 _ hg) (shut_int Try.underlying2 w1) (harg2 _ hg)

theorem over : Rows.talkChecksRow.holds Try.pinned (OpenSpec.ofChange Rows.talkChecksSpec) :=
  OpenClaim.holds_of_wide 4 Try.f4 rfl rfl rfl rfl rfl rfl rfl ⟨rfl, rfl, rfl, rfl, rfl⟩ rfl rfl rfl rfl rfl (by kernel_rfl) Try.func4 (by kernel_rfl)
    (of_decide_eq_true (by kernel_rfl)) (by unfold Func.isWrapper; first | (rw [if_pos (by decide +kernel)]; kernel_rfl) | (rw [if_neg (by decide +kernel)]; exact ⟨rfl, rfl⟩))
    (fun os started H enc _ => lifted os started H enc)

/-- ████ THE STATEMENT ████ -/
theorem proved : Rows.TalkChecksSaid :=
  over

end Go.Proofs.Ytpflkihagebmlaa.talkChecks
