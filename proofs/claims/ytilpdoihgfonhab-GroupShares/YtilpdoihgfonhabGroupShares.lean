/-
  For any group and any two secrets: what both have in common is the same from either side, and a member; and different secrets make different numbers public.
-/
import Derived.Test.YtilpdoihgfonhabRows
import Derived.Test.YtilpdoihgfonhabCalls162
import Derived.Test.YtilpdoihgfonhabBase10
import Derived.WalkKit
import Derived.ProofKit
import Derived.OpenShut
import Derived.Carry
namespace Go.Proofs.Ytilpdoihgfonhab.groupShares
open Go.ChangeShapes Go.WideShapes Go.ChangeAt Go.RowKit Go.Deep Go.Proofs.Ytilpdoihgfonhab.Base Go.Proofs.Ytilpdoihgfonhab.Base2 Go.Proofs.Ytilpdoihgfonhab.Base4 Go.Proofs.Ytilpdoihgfonhab.Base10 Go.Proofs.Ytilpdoihgfonhab.Num Go.Proofs.Ytilpdoihgfonhab.Num56 Go.Proofs.Ytilpdoihgfonhab.Calls157 Go.Proofs.Ytilpdoihgfonhab.Calls158 Go.Proofs.Ytilpdoihgfonhab.Calls160 Go.Proofs.Ytilpdoihgfonhab.Calls159 Go.Proofs.Ytilpdoihgfonhab.Calls162
set_option linter.unusedVariables false

theorem own : ownKnob Try.prog.godebug = none := by kernel_rfl

theorem laidOut : laidOutB Try.prog = true := by kernel_rfl

theorem cells2 : Try.prog.cellsOf 2 = 1 := by kernel_rfl

theorem cells_G : Try.prog.cellsOf 23 = 4 := by kernel_rfl

set_option maxRecDepth 100000 in
set_option maxHeartbeats 1000000 in
theorem walkF (P Q G H a b y z : Int) (c f : Int) (hne : c ≠ 0 ∨ f ≠ 0)
    (cA : ∀ w, Calls Try.prog 6 #[.agg #[.int .i64 P, .int .i64 Q, .int .i64 G, .int .i64 H], .int .i64 a] w fun e w' => e = .returned (.tuple #[.int .i64 y, .int .i64 c]) ∧ Below w.heap.size w w')
    (cB : ∀ w, Calls Try.prog 6 #[.agg #[.int .i64 P, .int .i64 Q, .int .i64 G, .int .i64 H], .int .i64 b] w fun e w' => e = .returned (.tuple #[.int .i64 z, .int .i64 f]) ∧ Below w.heap.size w w')
    (cP : ∀ wr, Calls Try.prog 7 #[.agg #[.int .i64 P, .int .i64 Q, .int .i64 G, .int .i64 H], .slice (some ⟨wr.heap.size, 0, none⟩) 2 2] (wr.alloc (.cells #[.int .i64 a, .int .i64 b] 2)) fun e w' => e = .returned (.bool false) ∧ Below wr.heap.size wr w') (w : World) :
    Calls Try.prog 3 #[.agg #[.int .i64 P, .int .i64 Q, .int .i64 G, .int .i64 H], .int .i64 a, .int .i64 b] w fun e w' => e = .returned (.bool true) ∧ Below w.heap.size w w' := by
  have K := hid (Gb.new w P Q G H)
  obtain ⟨c0, c1, c2, c3⟩ := K.out.cells
  have hh : (c != 0) = true ∨ ((c != 0) = false ∧ (f != 0) = true) := by
    by_cases e : c = 0
    · exact .inr ⟨by simpa using e, by simpa using hne.resolve_left (fun h => h e)⟩
    · exact .inl (by simpa using e)
  clear hne
  rcases hh with h1 | ⟨h1, h2⟩
  all_goals
    go_enter Try.func3, Try.ntmps3
    go_wp2_with (first
      | (go_at_call 6; refine (cA _).mono ?_; clear cA; rintro e w1 ⟨rfl, hB1⟩; have K1 := hid (K.out.below hB1); obtain ⟨d0, d1, d2, d3⟩ := K1.out.cells; clear hB1)
      | (go_at_call 6; refine (cB _).mono ?_; clear cB; rintro e w2 ⟨rfl, hB2⟩; have K2 := hid (K1.out.below hB2); obtain ⟨e0, e1, e2, e3⟩ := K2.out.cells; clear hB2)
      | (go_at_call 7; refine (cP _).mono ?_; clear cP; rintro e w3 ⟨rfl, hB3⟩; have K3 := hid (K2.out.below hB3); obtain ⟨f0, f1, f2, f3⟩ := K3.out.cells; clear hB3))
    go_ret
    exact ⟨by simp, K3.out.2⟩

theorem mem_no {P Q n : Nat} (h : Mem P Q n) : (!noM (P : Int) (Q : Int) (n : Int)) = true := by
  rw [(noM_iff P Q _).2 ⟨n, rfl, h⟩]; rfl

set_option maxRecDepth 100000 in
set_option maxHeartbeats 2000000 in
theorem walkY (P Q G H a b : Nat) (hG : Grp P Q G H) (ha : a < Q) (hb : b < Q)
    (cP : ∀ wr, Calls Try.prog 7 #[.agg #[.int .i64 (P : Int), .int .i64 (Q : Int), .int .i64 (G : Int), .int .i64 (H : Int)], .slice (some ⟨wr.heap.size, 0, none⟩) 2 2] (wr.alloc (.cells #[.int .i64 (a : Int), .int .i64 (b : Int)] 2)) fun e w' => e = .returned (.bool true) ∧ Below wr.heap.size wr w') (w : World) :
    Calls Try.prog 3 #[.agg #[.int .i64 (P : Int), .int .i64 (Q : Int), .int .i64 (G : Int), .int .i64 (H : Int)], .int .i64 (a : Int), .int .i64 (b : Int)] w fun e w' => e = .returned (.bool true) ∧ Below w.heap.size w w' := by
  have p3 := hG.p3
  have pb := hG.big
  have ql := hG.qlt
  have mx : Mem P Q (G ^ a % P) := Mem.pow hG.g.pr hG.g.prq hG.g.mem a
  have my : Mem P Q (G ^ b % P) := Mem.pow hG.g.pr hG.g.prq hG.g.mem b
  have ms : Mem P Q ((G ^ b % P) ^ a % P) := Mem.pow hG.g.pr hG.g.prq my a
  have cA := fun w => Public_yes P Q G H a hG ha w
  have cB := fun w => Public_yes P Q G H b hG hb w
  have cS := fun w => Shared_yes P Q G H a (G ^ b % P) hG ha my w
  have cT := fun w => Shared_yes P Q G H b (G ^ a % P) hG hb mx w
  rw [shares P G a b] at cT
  have cM := fun w => refMember_any P Q (G : Int) (H : Int) ((G ^ b % P) ^ a % P : Nat) (by omega) pb (by omega) w
  have cN := fun w => refMember_any P Q (G : Int) (H : Int) (G ^ a % P : Nat) (by omega) pb (by omega) w
  rw [mem_no ms] at cM
  rw [mem_no mx] at cN
  have hi : (((G ^ a % P : Nat) : Int) == ((G ^ b % P : Nat) : Int)) = ((a : Int) == (b : Int)) := by
    have h := pow_lt_iff hG.g ha hb
    by_cases e : a = b
    · subst e; simp
    · rw [beq_eq_false_iff_ne.2 (show (a : Int) ≠ (b : Int) by omega), beq_eq_false_iff_ne]
      intro h2
      exact e (h.1 (by exact_mod_cast h2))
  have K := hid (Gb.new w (P : Int) (Q : Int) (G : Int) (H : Int))
  obtain ⟨c0, c1, c2, c3⟩ := K.out.cells
  clear hG ha hb p3 pb ql mx my ms
  generalize (G ^ b % P) ^ a % P = s at *
  generalize G ^ a % P = x at *
  generalize G ^ b % P = y at *
  go_enter Try.func3, Try.ntmps3
  go_wp2_with (first
    | (go_at_call 6; refine (cA _).mono ?_; clear cA; rintro e w1 ⟨rfl, hB1⟩; have K1 := hid (K.out.below hB1); obtain ⟨d0, d1, d2, d3⟩ := K1.out.cells; clear hB1)
    | (go_at_call 6; refine (cB _).mono ?_; clear cB; rintro e w2 ⟨rfl, hB2⟩; have K2 := hid (K1.out.below hB2); obtain ⟨e0, e1, e2, e3⟩ := K2.out.cells; clear hB2)
    | (go_at_call 7; refine (cP _).mono ?_; clear cP; rintro e w3 ⟨rfl, hB3⟩; have K3 := hid (K2.out.below hB3); obtain ⟨f0, f1, f2, f3⟩ := K3.out.cells; clear hB3)
    | (go_at_call 8; refine (cS _).mono ?_; clear cS; rintro e w4 ⟨rfl, hB4⟩; have K4 := hid (K3.out.below hB4); obtain ⟨g0, g1, g2, g3⟩ := K4.out.cells; clear hB4)
    | (go_at_call 8; refine (cT _).mono ?_; clear cT; rintro e w5 ⟨rfl, hB5⟩; have K5 := hid (K4.out.below hB5); obtain ⟨k0, k1, k2, k3⟩ := K5.out.cells; clear hB5)
    | (go_at_call 9; refine (cM _).mono ?_; clear cM; rintro e w6 ⟨rfl, hB6⟩; have K6 := hid (K5.out.below hB6); obtain ⟨l0, l1, l2, l3⟩ := K6.out.cells; clear hB6)
    | (go_at_call 9; refine (cN _).mono ?_; clear cN; rintro e w7 ⟨rfl, hB7⟩; have K7 := hid (K6.out.below hB7); clear hB7))
  go_ret
  exact ⟨by simp, K7.out.2⟩

theorem walk (P Q G H : Int) (wP : (Lit.int .i64 P).wf = true) (wQ : (Lit.int .i64 Q).wf = true) (wG : (Lit.int .i64 G).wf = true) (wH : (Lit.int .i64 H).wf = true) (a b : Int) (w : World) :
    Calls Try.prog 3 #[.agg #[.int .i64 P, .int .i64 Q, .int .i64 G, .int .i64 H], .int .i64 a, .int .i64 b] w fun e w' => e = .returned (.bool true) ∧ Below w.heap.size w w' := by
  obtain ⟨v, hv⟩ := bool_of (aC P Q G H [a, b] [] = 0)
  have cP := fun wr => pk2 P Q G H a b v hv wr
  by_cases h : aC P Q G H [a, b] [] = 0
  · obtain rfl : v = true := hv.2 h
    obtain ⟨p, q, g, k, rfl, rfl, rfl, rfl, hG, h1, _⟩ := aC_zero h
    obtain ⟨n, rfl, hn⟩ := h1 a (by simp)
    obtain ⟨m, rfl, hm⟩ := h1 b (by simp)
    exact walkY p q g k n m hG hn hm cP w
  · obtain rfl : v = false := by
      cases v with
      | false => rfl
      | true => exact absurd (hv.1 rfl) h
    obtain ⟨y, cA⟩ := Public_any P Q G H a
    obtain ⟨z, cB⟩ := Public_any P Q G H b
    refine walkF P Q G H a b y z _ _ ?_ cA cB cP w
    by_cases e : aC P Q G H [a] [] = 0
    · right
      intro e2
      obtain ⟨p, q, g, k, rfl, rfl, rfl, rfl, hG, h1, _⟩ := aC_zero e
      obtain ⟨n, hn, hq⟩ := h1 a (by simp)
      have h3 : (exB (q : Int) b) = false := by
        obtain ⟨p', q', g', k', _, eq, _, _, _, h4, _⟩ := aC_zero e2
        obtain ⟨m, hm, hmq⟩ := h4 b (by simp)
        rw [exB_iff]; omega
      exact h (aC_of hG (fun x hx => by
        simp at hx
        rcases hx with rfl | rfl
        · exact ⟨n, hn, hq⟩
        · have := (exB_iff _ _).1 h3
          exact ⟨x.toNat, by omega, by omega⟩) none0)
    · exact .inl e

set_option maxRecDepth 100000 in
theorem lifted (os : Os) (started : os.Started) (H : Type) (enc : TypeId × Value → H) :
    ReturnsInHanded {} Try.checked os 3 .any (Rows.groupSharesSpec.pre6 enc Try.prog Try.f3 Rows.groupSharesRow.domain false) (Rows.groupSharesSpec.post enc Try.prog Try.f3 false true false false) := by
  refine returnsInHanded_of_change (C := Try.checked) own started (by kernel_rfl) Try.func3
    (ChangeSpec.witness6 (enc := enc) (C := Try.checked) false ⟨#[], #[.agg #[.int .i64 0, .int .i64 0, .int .i64 0, .int .i64 0], .int .i64 0, .int .i64 0], []⟩ 8 (by kernel_rfl) (by kernel_rfl) (by kernel_rfl) (by kernel_rfl)) ?_
  intro W base args ds gs before hval0 hW hcnd _
  have hval : ∀ (j : Nat) t v, Try.f3.params[j]? = some t → args[j]? = some v → Value.okWide Try.prog W .any base t v := hval0
  have hW' := hW
  obtain ⟨p, q, hA0, hV, rfl, _, _⟩ := hW
  have hA : DataW.TrodAll enc Try.prog W 0 (fun _ => true) true Try.f3.params.toList args.toList ds p := hA0
  rw [Try.params3] at hA hval
  obtain ⟨v0, v1, v2, d0, d1, d2, p0, p1, p2, rfl, rfl, rfl, h0, h1, h2⟩ := trodAll_three hA
  obtain ⟨rfl, rfl⟩ := trodVars_none hV
  have hsv0 := hval 0 23 v0 rfl rfl
  obtain ⟨a1, rfl, rfl, rfl, w1⟩ := open_int Try.underlying2 (hval 1 2 v1 rfl rfl) h1
  obtain ⟨a2, rfl, rfl, rfl, w2⟩ := open_int Try.underlying2 (hval 2 2 v2 rfl rfl) h2
  clear hA0 hval0
  simp only [List.append_nil] at hW'
  have hlt0 : ∀ x ∈ p0, x.block < W.heap.size := fun x hx => by simpa using hW'.lt x (by simp [hx])
  have harg0 : ∀ (W' : World), Below W.heap.size W W' → DataW.Trod enc Try.prog W' 0 (fun b => decide (b < W.heap.size)) true 23 v0 d0 p0 :=
    fun W' hn => Below.trod laidOut (by kernel_rfl) (of_decide_eq_true (by kernel_rfl)) h0 hn hlt0
  obtain ⟨x0a, x0b, x0c, x0d, rfl, w0a, w0b, w0c, w0d⟩ := struct4_view Try.underlying23 cells_G rfl rfl rfl rfl ⟨cells2, Try.underlying2⟩ ⟨cells2, Try.underlying2⟩ ⟨cells2, Try.underlying2⟩ ⟨cells2, Try.underlying2⟩ h0 hsv0
  refine (walk x0a x0b x0c x0d w0a w0b w0c w0d a1 a2 W ).mono fun e W' ⟨he, hg⟩ => ?_
  subst he
  refine ⟨_, rfl, _, _, _, [], p0 ++ (([] : List MemPlace) ++ (([] : List MemPlace))), [], hW', ?_, ?_, rfl, hg.frame _, fun h => by cases h⟩
  · exact trodAll_mk1 (shut_bool Try.underlying4 true)
  · exact trodAll_mk3 (harg0 _ hg) (shut_int Try.underlying2 w1) (shut_int Try.underlying2 w2)

theorem over : Rows.groupSharesRow.holds Try.pinned (OpenSpec.ofChange Rows.groupSharesSpec) :=
  OpenClaim.holds_of_wide 3 Try.f3 rfl rfl rfl rfl rfl rfl rfl ⟨rfl, rfl, rfl, rfl, rfl⟩ rfl rfl rfl rfl rfl (by kernel_rfl) Try.func3 (by kernel_rfl)
    (of_decide_eq_true (by kernel_rfl)) (by unfold Func.isWrapper; first | (rw [if_pos (by decide +kernel)]; kernel_rfl) | (rw [if_neg (by decide +kernel)]; exact ⟨rfl, rfl⟩))
    (fun os started H enc _ => lifted os started H enc)

/-- ████ THE STATEMENT ████ -/
theorem proved : Rows.GroupSharesSaid :=
  over

end Go.Proofs.Ytilpdoihgfonhab.groupShares
