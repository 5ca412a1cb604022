/-
  For any group and any numbers the program tells what who knows says.
-/
import Derived.Test.YtpflkihagebmlaaRows
import Derived.Test.YtpflkihagebmlaaCalls174
import Derived.Test.YtpflkihagebmlaaBase10
import Derived.WalkKit
import Derived.ProofKit
import Derived.OpenShut
import Derived.Carry
namespace Go.Proofs.Ytpflkihagebmlaa.talkSpeaks
open Go.ChangeShapes Go.WideShapes Go.ChangeAt Go.RowKit Go.Deep Go.Proofs.Ytpflkihagebmlaa.Base Go.Proofs.Ytpflkihagebmlaa.Base2 Go.Proofs.Ytpflkihagebmlaa.Base4 Go.Proofs.Ytpflkihagebmlaa.Base10 Go.Proofs.Ytpflkihagebmlaa.Num Go.Proofs.Ytpflkihagebmlaa.Num56 Go.Proofs.Ytpflkihagebmlaa.Calls157 Go.Proofs.Ytpflkihagebmlaa.Calls158 Go.Proofs.Ytpflkihagebmlaa.Calls160 Go.Proofs.Ytpflkihagebmlaa.Calls159 Go.Proofs.Ytpflkihagebmlaa.Calls161 Go.Proofs.Ytpflkihagebmlaa.Calls167 Go.Proofs.Ytpflkihagebmlaa.Calls169 Go.Proofs.Ytpflkihagebmlaa.Calls170 Go.Proofs.Ytpflkihagebmlaa.Calls171 Go.Proofs.Ytpflkihagebmlaa.Calls172 Go.Proofs.Ytpflkihagebmlaa.Calls173 Go.Proofs.Ytpflkihagebmlaa.Calls174
set_option linter.unusedVariables false

theorem own : ownKnob Try.prog.godebug = none := by kernel_rfl

theorem laidOut : laidOutB Try.prog = true := by kernel_rfl

theorem cells2 : Try.prog.cellsOf 2 = 1 := by kernel_rfl

theorem cells_G : Try.prog.cellsOf 23 = 4 := by kernel_rfl

set_option maxRecDepth 100000 in
set_option maxHeartbeats 1000000 in
theorem walkF (P Q G H s k a : Int) (h : aC P Q G H [s, k, a] [] ≠ 0) (w : World) :
    Calls Try.prog 3 #[.agg #[.int .i64 P, .int .i64 Q, .int .i64 G, .int .i64 H], .int .i64 s, .int .i64 k, .int .i64 a] w fun e w' => e = .returned (.bool true) ∧ Below w.heap.size w w' := by
  have cL := fun w => Speak_bad P Q G H s k a h w
  have cK := hid (fun (w1 : World) => ak30 P Q G H s k a (w1.alloc (.cells #[.int .i64 0, .int .i64 0, .int .i64 0] 25)) (w1.heap.size + 1) (World.size_alloc _ _).symm)
  have K := hid (Gb.new w P Q G H)
  obtain ⟨c0, c1, c2, c3⟩ := K.out.cells
  generalize aC P Q G H [s, k, a] [] = c at *
  have h1 : (c != 0) = true := by simpa using h
  go_enter Try.func3, Try.ntmps3
  go_wp2_with (first
    | (go_at_call 9; refine (cL _).mono ?_; clear cL; rintro e w1 ⟨rfl, hB1⟩; have K1 := hid ((K.out.below hB1).alloc (.cells #[.int .i64 0, .int .i64 0, .int .i64 0] 25)); have R1 := hid (BoxC.new w1 25 #[.int .i64 0, .int .i64 0, .int .i64 0]); obtain ⟨d0, d1, d2, d3⟩ := K1.out.cells; clear hB1)
    | (go_at_call 10; refine (cK.out _).mono ?_; clear cK; rintro e w2 ⟨rfl, hB2⟩; have K2 := hid (K1.out.below hB2); have R2 := hid (bxk R1.out hB2); obtain ⟨r0, r1, r2, _⟩ := box_three R2.out; clear hB2))
  go_ret
  exact ⟨by simp, K2.out.2⟩

set_option maxRecDepth 100000 in
set_option maxHeartbeats 2000000 in
theorem walkY (P Q G H s k a : Nat) (hG : Grp P Q G H) (hs : s < Q) (hk : k < Q) (ha : a < Q) (w : World) :
    Calls Try.prog 3 #[.agg #[.int .i64 (P : Int), .int .i64 (Q : Int), .int .i64 (G : Int), .int .i64 (H : Int)], .int .i64 (s : Int), .int .i64 (k : Int), .int .i64 (a : Int)] w fun e w' => e = .returned (.bool true) ∧ Below w.heap.size w w' := by
  have p3 := hG.p3
  have pb := hG.big
  have ql := hG.qlt
  have q2 := hG.q2
  have cL := fun w => Speak_yes P Q G H s k a hG hs hk ha w
  have cK := hid (fun (w1 : World) => ak30 (P : Int) (Q : Int) (G : Int) (H : Int) (s : Int) (k : Int) (a : Int) (w1.alloc (.cells #[.int .i64 (G ^ k % P : Nat), .int .i64 (a : Int), .int .i64 ((k + a * s) % Q : Nat)] 25)) (w1.heap.size + 1) (World.size_alloc _ _).symm)
  rw [aC_of hG (ex3 hs hk ha) none0] at cK
  have cP := fun w => refPow_nat G k P (by omega) pb (by omega) w
  obtain ⟨m1, m2⟩ := mul_bds (by omega : Q ≤ 1048576) ha hs
  have w1' : IntKind.i64.wrap ((a : Int) * (s : Int)) = (a : Int) * (s : Int) := wrap_in _ (by omega) (by omega)
  have w2' : IntKind.i64.wrap ((k : Int) + (a : Int) * (s : Int)) = (k : Int) + (a : Int) * (s : Int) := wrap_in _ (by omega) (by omega)
  have n0 : ¬ (Q : Int) = 0 := by omega
  have n1 : ¬ Q = 0 := by omega
  have E1 : ((k : Int) + (a : Int) * (s : Int)) = ((k + a * s : Nat) : Int) := by simp
  have E2 : ((k : Int) + (a : Int) * (s : Int)).tmod (Q : Int) = (((k + a * s) % Q : Nat) : Int) := by rw [E1, ← Int.ofNat_tmod]
  have E3 : ((k : Int) + (a : Int) * (s : Int)) % (Q : Int) = (((k + a * s) % Q : Nat) : Int) := by rw [E1, ← Int.natCast_emod]
  have K := hid (Gb.new w (P : Int) (Q : Int) (G : Int) (H : Int))
  obtain ⟨c0, c1, c2, c3⟩ := K.out.cells
  clear hG hs hk ha p3 pb ql q2 E1
  generalize (k + a * s) % Q = z at *
  generalize G ^ k % P = y at *
  go_enter Try.func3, Try.ntmps3
  go_wp2_with (first
    | (go_at_call 9; refine (cL _).mono ?_; clear cL; rintro e w1 ⟨rfl, hB1⟩; have K1 := hid ((K.out.below hB1).alloc (.cells #[.int .i64 (y : Int), .int .i64 (a : Int), .int .i64 (z : Int)] 25)); have R1 := hid (BoxC.new w1 25 #[.int .i64 (y : Int), .int .i64 (a : Int), .int .i64 (z : Int)]); obtain ⟨d0, d1, d2, d3⟩ := K1.out.cells; clear hB1)
    | (go_at_call 10; refine (cK.out _).mono ?_; clear cK; rintro e w2 ⟨rfl, hB2⟩; have K2 := hid (K1.out.below hB2); have R2 := hid (bxk R1.out hB2); obtain ⟨e0, e1, e2, e3⟩ := K2.out.cells; obtain ⟨r0, r1, r2, _⟩ := box_three R2.out; clear hB2))
  go_quiet ((go_at_call 11; exact Calls.quiet_of_same (cP _)))
  go_wp2
  go_ret
  exact ⟨by simp, by first | exact K2.out.2 | exact K2.out.drew.2 | exact Go.Proofs.Ytpflkihagebmlaa.Base.below_drewN K2.out.2 _⟩

theorem walk (P Q G H : Int) (wP : (Lit.int .i64 P).wf = true) (wQ : (Lit.int .i64 Q).wf = true) (wG : (Lit.int .i64 G).wf = true) (wH : (Lit.int .i64 H).wf = true) (s k a : Int) (w : World) :
    Calls Try.prog 3 #[.agg #[.int .i64 P, .int .i64 Q, .int .i64 G, .int .i64 H], .int .i64 s, .int .i64 k, .int .i64 a] w fun e w' => e = .returned (.bool true) ∧ Below w.heap.size w w' := by
  by_cases h : aC P Q G H [s, k, a] [] = 0
  · obtain ⟨p, q, g, h', rfl, rfl, rfl, rfl, hG, h1, _⟩ := aC_zero h
    obtain ⟨s', rfl, hs⟩ := h1 s (by simp)
    obtain ⟨k', rfl, hk⟩ := h1 k (by simp)
    obtain ⟨a', rfl, ha⟩ := h1 a (by simp)
    exact walkY p q g h' s' k' a' hG hs hk ha w
  · exact walkF P Q G H s k a h w

set_option maxRecDepth 100000 in
theorem lifted (os : Os) (started : os.Started) (H : Type) (enc : TypeId × Value → H) :
    ReturnsInHanded {} Try.checked os 3 .any (Rows.talkSpeaksSpec.pre6 enc Try.prog Try.f3 Rows.talkSpeaksRow.domain false) (Rows.talkSpeaksSpec.post enc Try.prog Try.f3 false true false false) := by
  refine returnsInHanded_of_change (C := Try.checked) own started (by kernel_rfl) Try.func3
    (ChangeSpec.witness6 (enc := enc) (C := Try.checked) false ⟨#[], #[.agg #[.int .i64 0, .int .i64 0, .int .i64 0, .int .i64 0], .int .i64 0, .int .i64 0, .int .i64 0], []⟩ 8 (by kernel_rfl) (by kernel_rfl) (by kernel_rfl) (by kernel_rfl)) ?_
  intro W base args ds gs before hval0 hW hcnd _
  have hval : ∀ (j : Nat) t v, Try.f3.params[j]? = some t → args[j]? = some v → Value.okWide Try.prog W .any base t v := hval0
  have hW' := hW
  obtain ⟨p, q, hA0, hV, rfl, _, _⟩ := hW
  have hA : DataW.TrodAll enc Try.prog W 0 (fun _ => true) true Try.f3.params.toList args.toList ds p := hA0
  rw [Try.params3] at hA hval
  obtain ⟨v0, v1, v2, v3, d0, d1, d2, d3, p0, p1, p2, p3, rfl, rfl, rfl, h0, h1, h2, h3⟩ := trodAll_four hA
  obtain ⟨rfl, rfl⟩ := trodVars_none hV
  have hsv0 := hval 0 23 v0 rfl rfl
  obtain ⟨a1, rfl, rfl, rfl, w1⟩ := open_int Try.underlying2 (hval 1 2 v1 rfl rfl) h1
  obtain ⟨a2, rfl, rfl, rfl, w2⟩ := open_int Try.underlying2 (hval 2 2 v2 rfl rfl) h2
  obtain ⟨a3, rfl, rfl, rfl, w3⟩ := open_int Try.underlying2 (hval 3 2 v3 rfl rfl) h3
  clear hA0 hval0
  simp only [List.append_nil] at hW'
  have hlt0 : ∀ x ∈ p0, x.block < W.heap.size := fun x hx => by simpa using hW'.lt x (by simp [hx])
  have harg0 : ∀ (W' : World), Below W.heap.size W W' → DataW.Trod enc Try.prog W' 0 (fun b => decide (b < W.heap.size)) true 23 v0 d0 p0 :=
    fun W' hn => Below.trod laidOut (by kernel_rfl) (of_decide_eq_true (by kernel_rfl)) h0 hn hlt0
  obtain ⟨x0a, x0b, x0c, x0d, rfl, w0a, w0b, w0c, w0d⟩ := struct4_view Try.underlying23 cells_G rfl rfl rfl rfl ⟨cells2, Try.underlying2⟩ ⟨cells2, Try.underlying2⟩ ⟨cells2, Try.underlying2⟩ ⟨cells2, Try.underlying2⟩ h0 hsv0
  refine (walk x0a x0b x0c x0d w0a w0b w0c w0d a1 a2 a3 W ).mono fun e W' ⟨he, hg⟩ => ?_
  subst he
  refine ⟨_, rfl, _, _, _, [], p0 ++ (([] : List MemPlace) ++ (([] : List MemPlace) ++ (([] : List MemPlace)))), [], hW', ?_, ?_, rfl, hg.frame _, fun h => by cases h⟩
  · exact trodAll_mk1 (shut_bool Try.underlying4 true)
  · exact trodAll_mk4 (harg0 _ hg) (shut_int Try.underlying2 w1) (shut_int Try.underlying2 w2) (shut_int Try.underlying2 w3)

theorem over : Rows.talkSpeaksRow.holds Try.pinned (OpenSpec.ofChange Rows.talkSpeaksSpec) :=
  OpenClaim.holds_of_wide 3 Try.f3 rfl rfl rfl rfl rfl rfl rfl ⟨rfl, rfl, rfl, rfl, rfl⟩ rfl rfl rfl rfl rfl (by kernel_rfl) Try.func3 (by kernel_rfl)
    (of_decide_eq_true (by kernel_rfl)) (by unfold Func.isWrapper; first | (rw [if_pos (by decide +kernel)]; kernel_rfl) | (rw [if_neg (by decide +kernel)]; exact ⟨rfl, rfl⟩))
    (fun os started H enc _ => lifted os started H enc)

/-- ████ THE STATEMENT ████ -/
theorem proved : Rows.TalkSpeaksSaid :=
  over

end Go.Proofs.Ytpflkihagebmlaa.talkSpeaks
