/-
  For any group and any number: Public answers the power of G, or what is wrong, as the document asks.
-/
import Derived.Test.YtilpdoihgfonhaaRows
import Derived.Test.YtilpdoihgfonhaaCalls161
import Derived.Test.YtilpdoihgfonhaaBase10
import Derived.WalkKit
import Derived.ProofKit
import Derived.OpenShut
import Derived.Carry
namespace Go.Proofs.Ytilpdoihgfonhaa.groupPublics
open Go.ChangeShapes Go.WideShapes Go.ChangeAt Go.RowKit Go.Deep Go.Proofs.Ytilpdoihgfonhaa.Base Go.Proofs.Ytilpdoihgfonhaa.Base2 Go.Proofs.Ytilpdoihgfonhaa.Base4 Go.Proofs.Ytilpdoihgfonhaa.Base10 Go.Proofs.Ytilpdoihgfonhaa.Num Go.Proofs.Ytilpdoihgfonhaa.Num56 Go.Proofs.Ytilpdoihgfonhaa.Calls157 Go.Proofs.Ytilpdoihgfonhaa.Calls158 Go.Proofs.Ytilpdoihgfonhaa.Calls160 Go.Proofs.Ytilpdoihgfonhaa.Calls159 Go.Proofs.Ytilpdoihgfonhaa.Calls161
set_option linter.unusedVariables false

theorem own : ownKnob Try.prog.godebug = none := by kernel_rfl

theorem laidOut : laidOutB Try.prog = true := by kernel_rfl

theorem cells2 : Try.prog.cellsOf 2 = 1 := by kernel_rfl

theorem cells_G : Try.prog.cellsOf 23 = 4 := by kernel_rfl

set_option maxRecDepth 100000 in
theorem walkF (P Q G H a : Int) (h : aC P Q G H [a] [] ≠ 0) (w : World) :
    Calls Try.prog 4 #[.agg #[.int .i64 P, .int .i64 Q, .int .i64 G, .int .i64 H], .int .i64 a] w fun e w' => e = .returned (.bool true) ∧ Below w.heap.size w w' := by
  have cL := fun w => Public_bad P Q G H a h w
  have cK := fun w => ak10 P Q G H a w w.heap.size rfl
  have K := hid (Gb.new w P Q G H)
  obtain ⟨c0, c1, c2, c3⟩ := K.out.cells
  generalize aC P Q G H [a] [] = c at *
  have h1 : (c != 0) = true := by simpa using h
  go_enter Try.func4, Try.ntmps4
  go_wp2_with (first
    | (go_at_call 11; refine (cL _).mono ?_; clear cL; rintro e w1 ⟨rfl, hB1⟩; have K1 := hid (K.out.below hB1); obtain ⟨d0, d1, d2, d3⟩ := K1.out.cells; clear hB1)
    | (go_at_call 12; refine (cK _).mono ?_; clear cK; rintro e w2 ⟨rfl, hB2⟩; have K2 := hid (K1.out.below hB2); obtain ⟨e0, e1, e2, e3⟩ := K2.out.cells; clear hB2))
  go_ret
  exact ⟨by simp, K2.out.2⟩

set_option maxRecDepth 100000 in
theorem walkY (P Q G H a : Nat) (hG : Grp P Q G H) (ha : a < Q) (w : World) :
    Calls Try.prog 4 #[.agg #[.int .i64 (P : Int), .int .i64 (Q : Int), .int .i64 (G : Int), .int .i64 (H : Int)], .int .i64 (a : Int)] w fun e w' => e = .returned (.bool true) ∧ Below w.heap.size w w' := by
  have p3 := hG.p3
  have pb := hG.big
  have ql := hG.qlt
  have cL := fun w => Public_yes P Q G H a hG ha w
  have cK := fun w => ak10 (P : Int) (Q : Int) (G : Int) (H : Int) (a : Int) w w.heap.size rfl
  rw [aC_of hG (ex1 ha) none0] at cK
  have cP := fun w => refPow_nat G a P (by omega) pb (by omega) w
  have K := hid (Gb.new w (P : Int) (Q : Int) (G : Int) (H : Int))
  obtain ⟨c0, c1, c2, c3⟩ := K.out.cells
  clear hG ha p3 pb ql
  generalize G ^ a % P = y at *
  go_enter Try.func4, Try.ntmps4
  go_wp2_with (first
    | (go_at_call 11; refine (cL _).mono ?_; clear cL; rintro e w1 ⟨rfl, hB1⟩; have K1 := hid (K.out.below hB1); obtain ⟨d0, d1, d2, d3⟩ := K1.out.cells; clear hB1)
    | (go_at_call 12; refine (cK _).mono ?_; clear cK; rintro e w2 ⟨rfl, hB2⟩; have K2 := hid (K1.out.below hB2); obtain ⟨e0, e1, e2, e3⟩ := K2.out.cells; clear hB2)
    | (go_at_call 13; refine (cP _).mono ?_; clear cP; rintro e w3 ⟨rfl, hw⟩; subst w3))
  go_ret
  exact ⟨by simp, K2.out.2⟩

theorem walk (P Q G H : Int) (wP : (Lit.int .i64 P).wf = true) (wQ : (Lit.int .i64 Q).wf = true) (wG : (Lit.int .i64 G).wf = true) (wH : (Lit.int .i64 H).wf = true) (a : Int) (w : World) :
    Calls Try.prog 4 #[.agg #[.int .i64 P, .int .i64 Q, .int .i64 G, .int .i64 H], .int .i64 a] w fun e w' => e = .returned (.bool true) ∧ Below w.heap.size w w' := by
  by_cases h : aC P Q G H [a] [] = 0
  · obtain ⟨p, q, g, k, rfl, rfl, rfl, rfl, hG, h1, _⟩ := aC_zero h
    obtain ⟨n, rfl, hn⟩ := h1 a (by simp)
    exact walkY p q g k n hG hn w
  · exact walkF P Q G H a h w

set_option maxRecDepth 100000 in
theorem lifted (os : Os) (started : os.Started) (H : Type) (enc : TypeId × Value → H) :
    ReturnsInHanded {} Try.checked os 4 .any (Rows.groupPublicsSpec.pre6 enc Try.prog Try.f4 Rows.groupPublicsRow.domain false) (Rows.groupPublicsSpec.post enc Try.prog Try.f4 false true false false) := by
  refine returnsInHanded_of_change (C := Try.checked) own started (by kernel_rfl) Try.func4
    (ChangeSpec.witness6 (enc := enc) (C := Try.checked) false ⟨#[], #[.agg #[.int .i64 0, .int .i64 0, .int .i64 0, .int .i64 0], .int .i64 0], []⟩ 8 (by kernel_rfl) (by kernel_rfl) (by kernel_rfl) (by kernel_rfl)) ?_
  intro W base args ds gs before hval0 hW hcnd _
  have hval : ∀ (j : Nat) t v, Try.f4.params[j]? = some t → args[j]? = some v → Value.okWide Try.prog W .any base t v := hval0
  have hW' := hW
  obtain ⟨p, q, hA0, hV, rfl, _, _⟩ := hW
  have hA : DataW.TrodAll enc Try.prog W 0 (fun _ => true) true Try.f4.params.toList args.toList ds p := hA0
  rw [Try.params4] at hA hval
  obtain ⟨v0, v1, d0, d1, p0, p1, rfl, rfl, rfl, h0, h1⟩ := trodAll_two hA
  obtain ⟨rfl, rfl⟩ := trodVars_none hV
  have hsv0 := hval 0 23 v0 rfl rfl
  obtain ⟨a1, rfl, rfl, rfl, w1⟩ := open_int Try.underlying2 (hval 1 2 v1 rfl rfl) h1
  clear hA0 hval0
  simp only [List.append_nil] at hW'
  have hlt0 : ∀ x ∈ p0, x.block < W.heap.size := fun x hx => by simpa using hW'.lt x (by simp [hx])
  have harg0 : ∀ (W' : World), Below W.heap.size W W' → DataW.Trod enc Try.prog W' 0 (fun b => decide (b < W.heap.size)) true 23 v0 d0 p0 :=
    fun W' hn => Below.trod laidOut (by kernel_rfl) (of_decide_eq_true (by kernel_rfl)) h0 hn hlt0
  obtain ⟨x0a, x0b, x0c, x0d, rfl, w0a, w0b, w0c, w0d⟩ := struct4_view Try.underlying23 cells_G rfl rfl rfl rfl ⟨cells2, Try.underlying2⟩ ⟨cells2, Try.underlying2⟩ ⟨cells2, Try.underlying2⟩ ⟨cells2, Try.underlying2⟩ h0 hsv0
  refine (walk x0a x0b x0c x0d w0a w0b w0c w0d a1 W ).mono fun e W' ⟨he, hg⟩ => ?_
  subst he
  refine ⟨_, rfl, _, _, _, [], p0 ++ (([] : List MemPlace)), [], hW', ?_, ?_, rfl, hg.frame _, fun h => by cases h⟩
  · exact trodAll_mk1 (shut_bool Try.underlying4 true)
  · exact trodAll_mk2 (harg0 _ hg) (shut_int Try.underlying2 w1)

theorem over : Rows.groupPublicsRow.holds Try.pinned (OpenSpec.ofChange Rows.groupPublicsSpec) :=
  OpenClaim.holds_of_wide 4 Try.f4 rfl rfl rfl rfl rfl rfl rfl ⟨rfl, rfl, rfl, rfl, rfl⟩ rfl rfl rfl rfl rfl (by kernel_rfl) Try.func4 (by kernel_rfl)
    (of_decide_eq_true (by kernel_rfl)) (by unfold Func.isWrapper; first | (rw [if_pos (by decide +kernel)]; kernel_rfl) | (rw [if_neg (by decide +kernel)]; exact ⟨rfl, rfl⟩))
    (fun os started H enc _ => lifted os started H enc)

/-- ████ THE STATEMENT ████ -/
theorem proved : Rows.GroupPublicsSaid :=
  over

end Go.Proofs.Ytilpdoihgfonhaa.groupPublics
