/-
  SCHNORR: for any group, any secret, whatever is drawn and asked: who knows the secret says what fits.
-/
import Derived.Test.YtpflkihagebmlabRows
import Derived.Test.YtpflkihagebmlabCalls175
import Derived.Test.YtpflkihagebmlabBase10
import Derived.WalkKit
import Derived.ProofKit
import Derived.OpenShut
import Derived.Carry
namespace Go.Proofs.Ytpflkihagebmlab.talkWhole
open Go.ChangeShapes Go.WideShapes Go.ChangeAt Go.RowKit Go.Deep Go.Proofs.Ytpflkihagebmlab.Base Go.Proofs.Ytpflkihagebmlab.Base2 Go.Proofs.Ytpflkihagebmlab.Base4 Go.Proofs.Ytpflkihagebmlab.Base10 Go.Proofs.Ytpflkihagebmlab.Num Go.Proofs.Ytpflkihagebmlab.Num56 Go.Proofs.Ytpflkihagebmlab.Calls157 Go.Proofs.Ytpflkihagebmlab.Calls158 Go.Proofs.Ytpflkihagebmlab.Calls160 Go.Proofs.Ytpflkihagebmlab.Base8 Go.Proofs.Ytpflkihagebmlab.Num55 Go.Proofs.Ytpflkihagebmlab.Calls162 Go.Proofs.Ytpflkihagebmlab.Calls167 Go.Proofs.Ytpflkihagebmlab.Calls168 Go.Proofs.Ytpflkihagebmlab.Calls169 Go.Proofs.Ytpflkihagebmlab.Calls170 Go.Proofs.Ytpflkihagebmlab.Calls171 Go.Proofs.Ytpflkihagebmlab.Calls175
set_option linter.unusedVariables false

theorem own : ownKnob Try.prog.godebug = none := by kernel_rfl

theorem laidOut : laidOutB Try.prog = true := by kernel_rfl

theorem cells2 : Try.prog.cellsOf 2 = 1 := by kernel_rfl

theorem cells_G : Try.prog.cellsOf 23 = 4 := by kernel_rfl

set_option maxRecDepth 100000 in
set_option maxHeartbeats 2000000 in
theorem walkN (P Q G H s k a c : Int) (hc : c ≠ 0)
    (cS : ∀ w, Calls Try.prog 7 #[.agg #[.int .i64 P, .int .i64 Q, .int .i64 G, .int .i64 H], .int .i64 s, .int .i64 k, .int .i64 a] w fun e w' => e = .returned (.tuple #[.agg #[.int .i64 0, .int .i64 0, .int .i64 0], .int .i64 c]) ∧ Below w.heap.size w w')
    (cP : Hid (∀ w1 : World, Calls Try.prog 8 #[.agg #[.int .i64 P, .int .i64 Q, .int .i64 G, .int .i64 H], .slice (some ⟨w1.heap.size + 1, 0, none⟩) 3 3] ((w1.alloc (.cells #[.int .i64 0, .int .i64 0, .int .i64 0] 25)).alloc (.cells #[.int .i64 s, .int .i64 k, .int .i64 a] 2)) fun e w' => e = .returned (.bool false) ∧ Below (w1.alloc (.cells #[.int .i64 0, .int .i64 0, .int .i64 0] 25)).heap.size (w1.alloc (.cells #[.int .i64 0, .int .i64 0, .int .i64 0] 25)) w')) (w : World) :
    Calls Try.prog 3 #[.agg #[.int .i64 P, .int .i64 Q, .int .i64 G, .int .i64 H], .int .i64 s, .int .i64 k, .int .i64 a] w fun e w' => e = .returned (.bool true) ∧ Below w.heap.size w w' := by
  have h1 : (c != 0) = true := by simpa using hc
  have K := hid (Gb.new w P Q G H)
  obtain ⟨c0, c1, c2, c3⟩ := K.out.cells
  go_enter Try.func3, Try.ntmps3
  go_wp2_with (first
    | (go_at_call 7; refine (cS _).mono ?_; clear cS; rintro e w1 ⟨rfl, hB1⟩; have K1 := hid ((K.out.below hB1).alloc (.cells #[.int .i64 0, .int .i64 0, .int .i64 0] 25)); have R1 := hid (BoxC.new w1 25 #[.int .i64 0, .int .i64 0, .int .i64 0]); obtain ⟨d0, d1, d2, d3⟩ := K1.out.cells; obtain ⟨r0, r1, r2, _⟩ := box_three R1.out; clear hB1)
    | (go_at_call 8; refine (cP.out _).mono ?_; clear cP; rintro e w2 ⟨rfl, hB2⟩; have K2 := hid (K1.out.below hB2); have R2 := hid (bx R1.out hB2); obtain ⟨e0, e1, e2, e3⟩ := K2.out.cells; obtain ⟨s0, s1, s2, _⟩ := box_three R2.out; clear hB2))
  go_ret
  exact ⟨by simp, K2.out.2⟩

set_option maxRecDepth 100000 in
set_option maxHeartbeats 2000000 in
theorem walkY (P Q G H s k a x y z : Int)
    (cS : ∀ w, Calls Try.prog 7 #[.agg #[.int .i64 P, .int .i64 Q, .int .i64 G, .int .i64 H], .int .i64 s, .int .i64 k, .int .i64 a] w fun e w' => e = .returned (.tuple #[.agg #[.int .i64 y, .int .i64 a, .int .i64 z], .int .i64 0]) ∧ Below w.heap.size w w')
    (cP : Hid (∀ w1 : World, Calls Try.prog 8 #[.agg #[.int .i64 P, .int .i64 Q, .int .i64 G, .int .i64 H], .slice (some ⟨w1.heap.size + 1, 0, none⟩) 3 3] ((w1.alloc (.cells #[.int .i64 y, .int .i64 a, .int .i64 z] 25)).alloc (.cells #[.int .i64 s, .int .i64 k, .int .i64 a] 2)) fun e w' => e = .returned (.bool true) ∧ Below (w1.alloc (.cells #[.int .i64 y, .int .i64 a, .int .i64 z] 25)).heap.size (w1.alloc (.cells #[.int .i64 y, .int .i64 a, .int .i64 z] 25)) w'))
    (cA : ∀ w, Calls Try.prog 9 #[.agg #[.int .i64 P, .int .i64 Q, .int .i64 G, .int .i64 H], .int .i64 s] w fun e w' => e = .returned (.tuple #[.int .i64 x, .int .i64 0]) ∧ Below w.heap.size w w')
    (cC : ∀ w, Calls Try.prog 10 #[.agg #[.int .i64 P, .int .i64 Q, .int .i64 G, .int .i64 H], .int .i64 x, .agg #[.int .i64 y, .int .i64 a, .int .i64 z]] w fun e w' => e = .returned (.tuple #[.bool true, .int .i64 0]) ∧ Below w.heap.size w w') (w : World) :
    Calls Try.prog 3 #[.agg #[.int .i64 P, .int .i64 Q, .int .i64 G, .int .i64 H], .int .i64 s, .int .i64 k, .int .i64 a] w fun e w' => e = .returned (.bool true) ∧ Below w.heap.size w w' := by
  have K := hid (Gb.new w P Q G H)
  obtain ⟨c0, c1, c2, c3⟩ := K.out.cells
  go_enter Try.func3, Try.ntmps3
  go_wp2_with (first
    | (go_at_call 7; refine (cS _).mono ?_; clear cS; rintro e w1 ⟨rfl, hB1⟩; have K1 := hid ((K.out.below hB1).alloc (.cells #[.int .i64 y, .int .i64 a, .int .i64 z] 25)); have R1 := hid (BoxC.new w1 25 #[.int .i64 y, .int .i64 a, .int .i64 z]); obtain ⟨d0, d1, d2, d3⟩ := K1.out.cells; obtain ⟨r0, r1, r2, _⟩ := box_three R1.out; clear hB1)
    | (go_at_call 8; refine (cP.out _).mono ?_; clear cP; rintro e w2 ⟨rfl, hB2⟩; have K2 := hid (K1.out.below hB2); have R2 := hid (bx R1.out hB2); obtain ⟨e0, e1, e2, e3⟩ := K2.out.cells; obtain ⟨s0, s1, s2, _⟩ := box_three R2.out; clear hB2)
    | (go_at_call 9; refine (cA _).mono ?_; clear cA; rintro e w3 ⟨rfl, hB3⟩; have K3 := hid (K2.out.below hB3); have R3 := hid (bx R2.out hB3); obtain ⟨f0, f1, f2, f3⟩ := K3.out.cells; obtain ⟨t0, t1, t2, _⟩ := box_three R3.out; clear hB3)
    | (go_at_call 10; refine (cC _).mono ?_; clear cC; rintro e w4 ⟨rfl, hB4⟩; have K4 := hid (K3.out.below hB4); have R4 := hid (bx R3.out hB4); obtain ⟨g0, g1, g2, g3⟩ := K4.out.cells; obtain ⟨u0, u1, u2, _⟩ := box_three R4.out; clear hB4))
  go_ret
  exact ⟨by simp, K4.out.2⟩

theorem pw3 (P Q G H s k a : Int) (v : Bool) (hv : v = true ↔ aC P Q G H [s, k, a] [] = 0) (tb : Array Value) (w1 : World) : Calls Try.prog 8 #[.agg #[.int .i64 P, .int .i64 Q, .int .i64 G, .int .i64 H], .slice (some ⟨w1.heap.size + 1, 0, none⟩) 3 3] ((w1.alloc (.cells tb 25)).alloc (.cells #[.int .i64 s, .int .i64 k, .int .i64 a] 2)) fun e w' => e = .returned (.bool v) ∧ Below (w1.alloc (.cells tb 25)).heap.size (w1.alloc (.cells tb 25)) w' := by
  have h := pk3 P Q G H s k a v hv (w1.alloc (.cells tb 25))
  rw [World.size_alloc] at h ⊢
  exact h

theorem walk (P Q G H : Int) (wP : (Lit.int .i64 P).wf = true) (wQ : (Lit.int .i64 Q).wf = true) (wG : (Lit.int .i64 G).wf = true) (wH : (Lit.int .i64 H).wf = true) (s k a : Int) (w : World) :
    Calls Try.prog 3 #[.agg #[.int .i64 P, .int .i64 Q, .int .i64 G, .int .i64 H], .int .i64 s, .int .i64 k, .int .i64 a] w fun e w' => e = .returned (.bool true) ∧ Below w.heap.size w w' := by
  by_cases h : aC P Q G H [s, k, a] [] = 0
  · obtain ⟨p, q, g, h', rfl, rfl, rfl, rfl, hG, h1, _⟩ := aC_zero h
    obtain ⟨s, rfl, hs⟩ := h1 s (by simp)
    obtain ⟨k, rfl, hk⟩ := h1 k (by simp)
    obtain ⟨a, rfl, ha⟩ := h1 a (by simp)
    have q2 := hG.q2
    have hzl : (k + a * s) % q < q := Nat.mod_lt _ (by omega)
    have mx : Mem p q (g ^ s % p) := hG.g.mem.pow hG.g.pr hG.g.prq s
    have my : Mem p q (g ^ k % p) := hG.g.mem.pow hG.g.pr hG.g.prq k
    have hft := said_fits (k := k) (s := s) hG.g ha
    exact walkY p q g h' s k a _ _ _ (fun w => Speak_yes p q g h' s k a hG hs hk ha w) (hid fun w1 => pw3 _ _ _ _ _ _ _ true (by simp [h]) _ w1) (fun w => Public_yes p q g h' s hG hs w) (fun w => Check_yes p q g h' (g ^ s % p) (g ^ k % p) a ((k + a * s) % q) hG mx my ha hzl true (by simp [← hft]) w) w
  · exact walkN P Q G H s k a _ h (fun w => Speak_bad P Q G H s k a h w) (hid fun w1 => pw3 P Q G H s k a false (by simp [h]) _ w1) w

set_option maxRecDepth 100000 in
theorem lifted (os : Os) (started : os.Started) (H : Type) (enc : TypeId × Value → H) :
    ReturnsInHanded {} Try.checked os 3 .any (Rows.talkWholeSpec.pre6 enc Try.prog Try.f3 Rows.talkWholeRow.domain false) (Rows.talkWholeSpec.post enc Try.prog Try.f3 false true false false) := by
  refine returnsInHanded_of_change (C := Try.checked) own started (by kernel_rfl) Try.func3
    (ChangeSpec.witness6 (enc := enc) (C := Try.checked) false ⟨#[], #[.agg #[.int .i64 0, .int .i64 0, .int .i64 0, .int .i64 0], .int .i64 0, .int .i64 0, .int .i64 0], []⟩ 8 (by kernel_rfl) (by kernel_rfl) (by kernel_rfl) (by kernel_rfl)) ?_
  intro W base args ds gs before hval0 hW hcnd _
  have hval : ∀ (j : Nat) t v, Try.f3.params[j]? = some t → args[j]? = some v → Value.okWide Try.prog W .any base t v := hval0
  have hW' := hW
  obtain ⟨p, q, hA0, hV, rfl, _, _⟩ := hW
  have hA : DataW.TrodAll enc Try.prog W 0 (fun _ => true) true Try.f3.params.toList args.toList ds p := hA0
  rw [Try.params3] at hA hval
  obtain ⟨v0, v1, v2, v3, d0, d1, d2, d3, p0, p1, p2, p3, rfl, rfl, rfl, h0, h1, h2, h3⟩ := trodAll_four hA
  obtain ⟨rfl, rfl⟩ := trodVars_none hV
  have hsv0 := hval 0 23 v0 rfl rfl
  obtain ⟨a1, rfl, rfl, rfl, w1⟩ := open_int Try.underlying2 (hval 1 2 v1 rfl rfl) h1
  obtain ⟨a2, rfl, rfl, rfl, w2⟩ := open_int Try.underlying2 (hval 2 2 v2 rfl rfl) h2
  obtain ⟨a3, rfl, rfl, rfl, w3⟩ := open_int Try.underlying2 (hval 3 2 v3 rfl rfl) h3
  clear hA0 hval0
  simp only [List.append_nil] at hW'
  have hlt0 : ∀ x ∈ p0, x.block < W.heap.size := fun x hx => by simpa using hW'.lt x (by simp [hx])
  have harg0 : ∀ (W' : World), Below W.heap.size W W' → DataW.Trod enc Try.prog W' 0 (fun b => decide (b < W.heap.size)) true 23 v0 d0 p0 :=
    fun W' hn => Below.trod laidOut (by kernel_rfl) (of_decide_eq_true (by kernel_rfl)) h0 hn hlt0
  obtain ⟨x0a, x0b, x0c, x0d, rfl, w0a, w0b, w0c, w0d⟩ := struct4_view Try.underlying23 cells_G rfl rfl rfl rfl ⟨cells2, Try.underlying2⟩ ⟨cells2, Try.underlying2⟩ ⟨cells2, Try.underlying2⟩ ⟨cells2, Try.underlying2⟩ h0 hsv0
  refine (walk x0a x0b x0c x0d w0a w0b w0c w0d a1 a2 a3 W ).mono fun e W' ⟨he, hg⟩ => ?_
  subst he
  refine ⟨_, rfl, _, _, _, [], p0 ++ (([] : List MemPlace) ++ (([] : List MemPlace) ++ (([] : List MemPlace)))), [], hW', ?_, ?_, rfl, hg.frame _, fun h => by cases h⟩
  · exact trodAll_mk1 (shut_bool Try.underlying4 true)
  · exact trodAll_mk4 (harg0 _ hg) (shut_int Try.underlying2 w1) (shut_int Try.underlying2 w2) (shut_int Try.underlying2 w3)

theorem over : Rows.talkWholeRow.holds Try.pinned (OpenSpec.ofChange Rows.talkWholeSpec) :=
  OpenClaim.holds_of_wide 3 Try.f3 rfl rfl rfl rfl rfl rfl rfl ⟨rfl, rfl, rfl, rfl, rfl⟩ rfl rfl rfl rfl rfl (by kernel_rfl) Try.func3 (by kernel_rfl)
    (of_decide_eq_true (by kernel_rfl)) (by unfold Func.isWrapper; first | (rw [if_pos (by decide +kernel)]; kernel_rfl) | (rw [if_neg (by decide +kernel)]; exact ⟨rfl, rfl⟩))
    (fun os started H enc _ => lifted os started H enc)

/-- ████ THE STATEMENT ████ -/
theorem proved : Rows.TalkWholeSaid :=
  over

end Go.Proofs.Ytpflkihagebmlab.talkWhole
