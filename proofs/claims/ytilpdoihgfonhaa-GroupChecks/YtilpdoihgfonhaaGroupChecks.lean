/-
  For any four numbers: Check answers just what the document asks.
-/
import Derived.Test.YtilpdoihgfonhaaRows
import Derived.Test.YtilpdoihgfonhaaCalls161
import Derived.Test.YtilpdoihgfonhaaBase10
import Derived.WalkKit
import Derived.ProofKit
import Derived.OpenShut
import Derived.Carry
namespace Go.Proofs.Ytilpdoihgfonhaa.groupChecks
open Go.ChangeShapes Go.WideShapes Go.ChangeAt Go.RowKit Go.Deep Go.Proofs.Ytilpdoihgfonhaa.Base Go.Proofs.Ytilpdoihgfonhaa.Base2 Go.Proofs.Ytilpdoihgfonhaa.Base4 Go.Proofs.Ytilpdoihgfonhaa.Base10 Go.Proofs.Ytilpdoihgfonhaa.Num Go.Proofs.Ytilpdoihgfonhaa.Num56 Go.Proofs.Ytilpdoihgfonhaa.Calls157 Go.Proofs.Ytilpdoihgfonhaa.Calls158 Go.Proofs.Ytilpdoihgfonhaa.Calls160 Go.Proofs.Ytilpdoihgfonhaa.Calls159 Go.Proofs.Ytilpdoihgfonhaa.Calls161
set_option linter.unusedVariables false

theorem own : ownKnob Try.prog.godebug = none := by kernel_rfl

theorem laidOut : laidOutB Try.prog = true := by kernel_rfl

theorem cells2 : Try.prog.cellsOf 2 = 1 := by kernel_rfl

theorem cells_G : Try.prog.cellsOf 23 = 4 := by kernel_rfl

set_option maxRecDepth 100000 in
theorem walk (P Q G H : Int) (wP : (Lit.int .i64 P).wf = true) (wQ : (Lit.int .i64 Q).wf = true) (wG : (Lit.int .i64 G).wf = true) (wH : (Lit.int .i64 H).wf = true) (w : World) :
    Calls Try.prog 3 #[.agg #[.int .i64 P, .int .i64 Q, .int .i64 G, .int .i64 H]] w fun e w' => e = .returned (.bool true) ∧ Below w.heap.size w w' := by
  have cA := fun w => Check_any P Q G H w
  have cB := fun w => refCheck_any P Q G H w
  have K := hid (Gb.new w P Q G H)
  obtain ⟨d0, d1, d2, d3⟩ := K.out.cells
  generalize gC P Q G H = c at *
  go_enter Try.func3, Try.ntmps3
  go_wp2
  go_region_held3 (fun w' => w'.cell? ⟨w.heap.size, 0, none⟩ = some (.int .i64 P) ∧ w'.cell? ⟨w.heap.size, 1, none⟩ = some (.int .i64 Q) ∧ w'.cell? ⟨w.heap.size, 2, none⟩ = some (.int .i64 G) ∧ w'.cell? ⟨w.heap.size, 3, none⟩ = some (.int .i64 H)) (first | exact ⟨d0, d1, d2, d3⟩ | exact K.out.drew.cells)
    (first
      | (go_at_call 9; refine (cA _).mono ?_; rintro e w2 ⟨rfl, hB2⟩; have K := hid (show Gb w w2 _ _ _ _ by first | exact K.out.below hB2 | exact K.out.drew.below hB2); obtain ⟨d0, d1, d2, d3⟩ := K.out.cells; clear hB2)
      | (go_at_call 10; refine (cB _).mono ?_; rintro e w2 ⟨rfl, hB2⟩; have K := hid (show Gb w w2 _ _ _ _ by first | exact K.out.below hB2 | exact K.out.drew.below hB2); obtain ⟨d0, d1, d2, d3⟩ := K.out.cells; clear hB2))
  all_goals
    go_wp2
    go_ret
    exact ⟨by simp, K.out.2⟩

set_option maxRecDepth 100000 in
theorem lifted (os : Os) (started : os.Started) (H : Type) (enc : TypeId × Value → H) :
    ReturnsInHanded {} Try.checked os 3 .any (Rows.groupChecksSpec.pre6 enc Try.prog Try.f3 Rows.groupChecksRow.domain false) (Rows.groupChecksSpec.post enc Try.prog Try.f3 false true false false) := by
  refine returnsInHanded_of_change (C := Try.checked) own started (by kernel_rfl) Try.func3
    (ChangeSpec.witness6 (enc := enc) (C := Try.checked) false ⟨#[], #[.agg #[.int .i64 0, .int .i64 0, .int .i64 0, .int .i64 0]], []⟩ 8 (by kernel_rfl) (by kernel_rfl) (by kernel_rfl) (by kernel_rfl)) ?_
  intro W base args ds gs before hval0 hW hcnd _
  have hval : ∀ (j : Nat) t v, Try.f3.params[j]? = some t → args[j]? = some v → Value.okWide Try.prog W .any base t v := hval0
  have hW' := hW
  obtain ⟨p0, q, hA0, hV, rfl, _, _⟩ := hW
  have hA : DataW.TrodAll enc Try.prog W 0 (fun _ => true) true Try.f3.params.toList args.toList ds p0 := hA0
  rw [Try.params3] at hA hval
  obtain ⟨v0, d0, rfl, rfl, h0⟩ := trodAll_one hA
  obtain ⟨rfl, rfl⟩ := trodVars_none hV
  have hsv0 := hval 0 23 v0 rfl rfl
  clear hA0 hval0
  simp only [List.append_nil] at hW'
  have hlt0 : ∀ x ∈ p0, x.block < W.heap.size := fun x hx => by simpa using hW'.lt x (by simp [hx])
  have harg0 : ∀ (W' : World), Below W.heap.size W W' → DataW.Trod enc Try.prog W' 0 (fun b => decide (b < W.heap.size)) true 23 v0 d0 p0 :=
    fun W' hn => Below.trod laidOut (by kernel_rfl) (of_decide_eq_true (by kernel_rfl)) h0 hn hlt0
  obtain ⟨x0a, x0b, x0c, x0d, rfl, w0a, w0b, w0c, w0d⟩ := struct4_view Try.underlying23 cells_G rfl rfl rfl rfl ⟨cells2, Try.underlying2⟩ ⟨cells2, Try.underlying2⟩ ⟨cells2, Try.underlying2⟩ ⟨cells2, Try.underlying2⟩ h0 hsv0
  refine (walk x0a x0b x0c x0d w0a w0b w0c w0d W ).mono fun e W' ⟨he, hg⟩ => ?_
  subst he
  refine ⟨_, rfl, _, _, _, [], p0, [], hW', ?_, ?_, rfl, hg.frame _, fun h => by cases h⟩
  · exact trodAll_mk1 (shut_bool Try.underlying4 true)
  · exact trodAll_mk1 (harg0 _ hg)

theorem over : Rows.groupChecksRow.holds Try.pinned (OpenSpec.ofChange Rows.groupChecksSpec) :=
  OpenClaim.holds_of_wide 3 Try.f3 rfl rfl rfl rfl rfl rfl rfl ⟨rfl, rfl, rfl, rfl, rfl⟩ rfl rfl rfl rfl rfl (by kernel_rfl) Try.func3 (by kernel_rfl)
    (of_decide_eq_true (by kernel_rfl)) (by unfold Func.isWrapper; first | (rw [if_pos (by decide +kernel)]; kernel_rfl) | (rw [if_neg (by decide +kernel)]; exact ⟨rfl, rfl⟩))
    (fun os started H enc _ => lifted os started H enc)

/-- ████ THE STATEMENT ████ -/
theorem proved : Rows.GroupChecksSaid :=
  over

end Go.Proofs.Ytilpdoihgfonhaa.groupChecks
