/-
  For any group, any member and any numbers the program tells what who doesn't know says.
-/
import Derived.Test.YtpflkihagebmlaaRows
import Derived.Test.YtpflkihagebmlaaCalls174
import Derived.Test.YtpflkihagebmlaaBase10
import Derived.WalkKit
import Derived.ProofKit
import Derived.OpenShut
import Derived.Carry
namespace Go.Proofs.Ytpflkihagebmlaa.talkFakes
open Go.ChangeShapes Go.WideShapes Go.ChangeAt Go.RowKit Go.Deep Go.Proofs.Ytpflkihagebmlaa.Base Go.Proofs.Ytpflkihagebmlaa.Base2 Go.Proofs.Ytpflkihagebmlaa.Base4 Go.Proofs.Ytpflkihagebmlaa.Base10 Go.Proofs.Ytpflkihagebmlaa.Num Go.Proofs.Ytpflkihagebmlaa.Num56 Go.Proofs.Ytpflkihagebmlaa.Calls157 Go.Proofs.Ytpflkihagebmlaa.Calls158 Go.Proofs.Ytpflkihagebmlaa.Calls160 Go.Proofs.Ytpflkihagebmlaa.Calls159 Go.Proofs.Ytpflkihagebmlaa.Calls161 Go.Proofs.Ytpflkihagebmlaa.Calls167 Go.Proofs.Ytpflkihagebmlaa.Calls169 Go.Proofs.Ytpflkihagebmlaa.Calls170 Go.Proofs.Ytpflkihagebmlaa.Calls171 Go.Proofs.Ytpflkihagebmlaa.Calls172 Go.Proofs.Ytpflkihagebmlaa.Calls173 Go.Proofs.Ytpflkihagebmlaa.Calls174
set_option linter.unusedVariables false

theorem own : ownKnob Try.prog.godebug = none := by kernel_rfl

theorem laidOut : laidOutB Try.prog = true := by kernel_rfl

theorem cells2 : Try.prog.cellsOf 2 = 1 := by kernel_rfl

theorem cells_G : Try.prog.cellsOf 23 = 4 := by kernel_rfl

set_option maxRecDepth 100000 in
set_option maxHeartbeats 1000000 in
theorem walkF (P Q G H x a z : Int) (c : Int) (hc : c ≠ 0)
    (cL : ∀ w, Calls Try.prog 16 #[.agg #[.int .i64 P, .int .i64 Q, .int .i64 G, .int .i64 H], .int .i64 x, .int .i64 a, .int .i64 z] w fun e w' => e = .returned (.tuple #[.agg #[.int .i64 0, .int .i64 0, .int .i64 0], .int .i64 c]) ∧ Below w.heap.size w w')
    (hK : aC P Q G H [a, z] [x, 1] = c) (w : World) :
    Calls Try.prog 6 #[.agg #[.int .i64 P, .int .i64 Q, .int .i64 G, .int .i64 H], .int .i64 x, .int .i64 a, .int .i64 z] w fun e w' => e = .returned (.bool true) ∧ Below w.heap.size w w' := by
  have cK := hid (fun (w1 : World) => sd1 P Q G H x 1 a z (w1.alloc (.cells #[.int .i64 0, .int .i64 0, .int .i64 0] 25)) (w1.heap.size + 1) (World.size_alloc _ _).symm)
  rw [hK] at cK
  have K := hid (Gb.new w P Q G H)
  obtain ⟨c0, c1, c2, c3⟩ := K.out.cells
  have h1 : (c != 0) = true := by simpa using hc
  clear hK hc
  go_enter Try.func6, Try.ntmps6
  go_wp2_with (first
    | (go_at_call 16; refine (cL _).mono ?_; clear cL; rintro e w1 ⟨rfl, hB1⟩; have K1 := hid ((K.out.below hB1).alloc (.cells #[.int .i64 0, .int .i64 0, .int .i64 0] 25)); have R1 := hid (BoxC.new w1 25 #[.int .i64 0, .int .i64 0, .int .i64 0]); obtain ⟨d0, d1, d2, d3⟩ := K1.out.cells; clear hB1)
    | (go_at_call 13; refine (cK.out _).mono ?_; clear cK; rintro e w2 ⟨rfl, hB2⟩; have K2 := hid (K1.out.below hB2); have R2 := hid (bxk R1.out hB2); obtain ⟨r0, r1, r2, _⟩ := box_three R2.out; clear hB2))
  go_ret
  exact ⟨by simp, K2.out.2⟩

set_option maxRecDepth 100000 in
set_option maxHeartbeats 2000000 in
theorem walkY (P Q G H x a z : Nat) (hG : Grp P Q G H) (hx : Mem P Q x) (ha : a < Q) (hz : z < Q) (w : World) :
    Calls Try.prog 6 #[.agg #[.int .i64 (P : Int), .int .i64 (Q : Int), .int .i64 (G : Int), .int .i64 (H : Int)], .int .i64 (x : Int), .int .i64 (a : Int), .int .i64 (z : Int)] w fun e w' => e = .returned (.bool true) ∧ Below w.heap.size w w' := by
  have p3 := hG.p3
  have pb := hG.big
  have ql := hG.qlt
  have mo := fst_mem (a := a) (z := z) hG.g hx
  have cL := fun w => Feign_yes P Q G H x a z hG hx ha hz w
  have cK := hid (fun (w1 : World) => sd1 (P : Int) (Q : Int) (G : Int) (H : Int) (x : Int) 1 (a : Int) (z : Int) (w1.alloc (.cells #[.int .i64 (fst P Q G x a z : Nat), .int .i64 (a : Int), .int .i64 (z : Int)] 25)) (w1.heap.size + 1) (World.size_alloc _ _).symm)
  rw [show (1 : Int) = ((1 : Nat) : Int) from rfl, aC_of hG (ex2 ha hz) (me2 hx (Mem.one hG.g.pr))] at cK
  have cR := fun w => right_any P (Q : Int) G (H : Int) x (fst P Q G x a z) a z (by omega) pb mo.2.1 (by omega) (by omega) true (by rw [fst_iff hG.g hx ha mo.2.1]; simp) w
  have cM := fun w => refMember_any P Q (G : Int) (H : Int) (fst P Q G x a z : Nat) (by omega) pb (by omega) w
  rw [(noM_iff P Q _).2 ⟨_, rfl, mo⟩] at cM
  have K := hid (Gb.new w (P : Int) (Q : Int) (G : Int) (H : Int))
  obtain ⟨c0, c1, c2, c3⟩ := K.out.cells
  clear hG hx ha hz p3 pb ql mo
  generalize fst P Q G x a z = o at *
  go_enter Try.func6, Try.ntmps6
  go_wp2_with (first
    | (go_at_call 16; refine (cL _).mono ?_; clear cL; rintro e w1 ⟨rfl, hB1⟩; have K1 := hid ((K.out.below hB1).alloc (.cells #[.int .i64 (o : Int), .int .i64 (a : Int), .int .i64 (z : Int)] 25)); have R1 := hid (BoxC.new w1 25 #[.int .i64 (o : Int), .int .i64 (a : Int), .int .i64 (z : Int)]); obtain ⟨d0, d1, d2, d3⟩ := K1.out.cells; clear hB1)
    | (go_at_call 13; refine (cK.out _).mono ?_; clear cK; rintro e w2 ⟨rfl, hB2⟩; have K2 := hid (K1.out.below hB2); have R2 := hid (bxk R1.out hB2); obtain ⟨e0, e1, e2, e3⟩ := K2.out.cells; obtain ⟨r0, r1, r2, _⟩ := box_three R2.out; clear hB2)
    | (go_at_call 17; refine (cM _).mono ?_; clear cM; rintro e w3 ⟨rfl, hB3⟩; have K3 := hid (K2.out.below hB3); have R3 := hid (bxk R2.out hB3); obtain ⟨f0, f1, f2, f3⟩ := K3.out.cells; obtain ⟨s0, s1, s2, _⟩ := box_three R3.out; clear hB3)
    | (go_at_call 14; refine (cR _).mono ?_; clear cR; rintro e w4 ⟨rfl, hB4⟩; have K4 := hid (K3.out.below hB4); clear hB4))
  go_ret
  exact ⟨by simp, K4.out.2⟩

theorem walk (P Q G H : Int) (wP : (Lit.int .i64 P).wf = true) (wQ : (Lit.int .i64 Q).wf = true) (wG : (Lit.int .i64 G).wf = true) (wH : (Lit.int .i64 H).wf = true) (x a z : Int) (w : World) :
    Calls Try.prog 6 #[.agg #[.int .i64 P, .int .i64 Q, .int .i64 G, .int .i64 H], .int .i64 x, .int .i64 a, .int .i64 z] w fun e w' => e = .returned (.bool true) ∧ Below w.heap.size w w' := by
  by_cases h : aC P Q G H [a, z] [x] = 0
  · obtain ⟨p, q, g, h', rfl, rfl, rfl, rfl, hG, h1, h2⟩ := aC_zero h
    obtain ⟨a', rfl, ha⟩ := h1 a (by simp)
    obtain ⟨z', rfl, hz⟩ := h1 z (by simp)
    obtain ⟨x', rfl, hx⟩ := h2 x (by simp)
    exact walkY p q g h' x' a' z' hG hx ha hz w
  · refine walkF P Q G H x a z _ h (fun w => Feign_bad P Q G H x a z h w) ?_ w
    unfold aC
    by_cases h0 : gC P Q G H = 0
    · obtain ⟨p, q, g, k, rfl, rfl, rfl, rfl, hG⟩ := gC_zero h0
      have e : noM (p : Int) (q : Int) 1 = false := (noM_iff p q _).2 ⟨1, rfl, Mem.one hG.g.pr⟩
      simp [e]
    · rw [if_neg h0, if_neg h0]

set_option maxRecDepth 100000 in
theorem lifted (os : Os) (started : os.Started) (H : Type) (enc : TypeId × Value → H) :
    ReturnsInHanded {} Try.checked os 6 .any (Rows.talkFakesSpec.pre6 enc Try.prog Try.f6 Rows.talkFakesRow.domain false) (Rows.talkFakesSpec.post enc Try.prog Try.f6 false true false false) := by
  refine returnsInHanded_of_change (C := Try.checked) own started (by kernel_rfl) Try.func6
    (ChangeSpec.witness6 (enc := enc) (C := Try.checked) false ⟨#[], #[.agg #[.int .i64 0, .int .i64 0, .int .i64 0, .int .i64 0], .int .i64 0, .int .i64 0, .int .i64 0], []⟩ 8 (by kernel_rfl) (by kernel_rfl) (by kernel_rfl) (by kernel_rfl)) ?_
  intro W base args ds gs before hval0 hW hcnd _
  have hval : ∀ (j : Nat) t v, Try.f6.params[j]? = some t → args[j]? = some v → Value.okWide Try.prog W .any base t v := hval0
  have hW' := hW
  obtain ⟨p, q, hA0, hV, rfl, _, _⟩ := hW
  have hA : DataW.TrodAll enc Try.prog W 0 (fun _ => true) true Try.f6.params.toList args.toList ds p := hA0
  rw [Try.params6] at hA hval
  obtain ⟨v0, v1, v2, v3, d0, d1, d2, d3, p0, p1, p2, p3, rfl, rfl, rfl, h0, h1, h2, h3⟩ := trodAll_four hA
  obtain ⟨rfl, rfl⟩ := trodVars_none hV
  have hsv0 := hval 0 23 v0 rfl rfl
  obtain ⟨a1, rfl, rfl, rfl, w1⟩ := open_int Try.underlying2 (hval 1 2 v1 rfl rfl) h1
  obtain ⟨a2, rfl, rfl, rfl, w2⟩ := open_int Try.underlying2 (hval 2 2 v2 rfl rfl) h2
  obtain ⟨a3, rfl, rfl, rfl, w3⟩ := open_int Try.underlying2 (hval 3 2 v3 rfl rfl) h3
  clear hA0 hval0
  simp only [List.append_nil] at hW'
  have hlt0 : ∀ x ∈ p0, x.block < W.heap.size := fun x hx => by simpa using hW'.lt x (by simp [hx])
  have harg0 : ∀ (W' : World), Below W.heap.size W W' → DataW.Trod enc Try.prog W' 0 (fun b => decide (b < W.heap.size)) true 23 v0 d0 p0 :=
    fun W' hn => Below.trod laidOut (by kernel_rfl) (of_decide_eq_true (by kernel_rfl)) h0 hn hlt0
  obtain ⟨x0a, x0b, x0c, x0d, rfl, w0a, w0b, w0c, w0d⟩ := struct4_view Try.underlying23 cells_G rfl rfl rfl rfl ⟨cells2, Try.underlying2⟩ ⟨cells2, Try.underlying2⟩ ⟨cells2, Try.underlying2⟩ ⟨cells2, Try.underlying2⟩ h0 hsv0
  refine (walk x0a x0b x0c x0d w0a w0b w0c w0d a1 a2 a3 W ).mono fun e W' ⟨he, hg⟩ => ?_
  subst he
  refine ⟨_, rfl, _, _, _, [], p0 ++ (([] : List MemPlace) ++ (([] : List MemPlace) ++ (([] : List MemPlace)))), [], hW', ?_, ?_, rfl, hg.frame _, fun h => by cases h⟩
  · exact trodAll_mk1 (shut_bool Try.underlying4 true)
  · exact trodAll_mk4 (harg0 _ hg) (shut_int Try.underlying2 w1) (shut_int Try.underlying2 w2) (shut_int Try.underlying2 w3)

theorem over : Rows.talkFakesRow.holds Try.pinned (OpenSpec.ofChange Rows.talkFakesSpec) :=
  OpenClaim.holds_of_wide 6 Try.f6 rfl rfl rfl rfl rfl rfl rfl ⟨rfl, rfl, rfl, rfl, rfl⟩ rfl rfl rfl rfl rfl (by kernel_rfl) Try.func6 (by kernel_rfl)
    (of_decide_eq_true (by kernel_rfl)) (by unfold Func.isWrapper; first | (rw [if_pos (by decide +kernel)]; kernel_rfl) | (rw [if_neg (by decide +kernel)]; exact ⟨rfl, rfl⟩))
    (fun os started H enc _ => lifted os started H enc)

/-- ████ THE STATEMENT ████ -/
theorem proved : Rows.TalkFakesSaid :=
  over

end Go.Proofs.Ytpflkihagebmlaa.talkFakes
