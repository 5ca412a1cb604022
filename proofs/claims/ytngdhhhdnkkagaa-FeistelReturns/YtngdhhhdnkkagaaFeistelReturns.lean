/-
  For any rounds the program tells when all are back; without a condition.
-/
import Derived.Test.YtngdhhhdnkkagaaRows
import Derived.Test.YtngdhhhdnkkagaaCalls109
import Derived.WalkKit
import Derived.ProofKit
import Derived.OpenShut
import Derived.Carry
namespace Go.Proofs.Ytngdhhhdnkkagaa.feistelReturns
open Go.ChangeShapes Go.WideShapes Go.ChangeAt Go.RowKit Go.Deep Go.Proofs.Ytngdhhhdnkkagaa.Base Go.Proofs.Ytngdhhhdnkkagaa.Base2 Go.Proofs.Ytngdhhhdnkkagaa.Num16 Go.Proofs.Ytngdhhhdnkkagaa.Num17 Go.Proofs.Ytngdhhhdnkkagaa.Num34 Go.Proofs.Ytngdhhhdnkkagaa.Num51 Go.Proofs.Ytngdhhhdnkkagaa.Base4 Go.Proofs.Ytngdhhhdnkkagaa.Base5 Go.Proofs.Ytngdhhhdnkkagaa.Calls96 Go.Proofs.Ytngdhhhdnkkagaa.Calls103 Go.Proofs.Ytngdhhhdnkkagaa.Calls104 Go.Proofs.Ytngdhhhdnkkagaa.Calls105 Go.Proofs.Ytngdhhhdnkkagaa.Num18 Go.Proofs.Ytngdhhhdnkkagaa.Num52 Go.Proofs.Ytngdhhhdnkkagaa.Num53 Go.Proofs.Ytngdhhhdnkkagaa.Calls108 Go.Proofs.Ytngdhhhdnkkagaa.Calls109
set_option linter.unusedVariables false

theorem own : ownKnob Try.prog.godebug = none := by kernel_rfl

theorem laidOut : laidOutB Try.prog = true := by kernel_rfl

theorem cells2 : Try.prog.cellsOf 2 = 1 := by kernel_rfl

theorem cellsR : Try.prog.cellsOf 34 = 1 := by kernel_rfl

theorem cells3 : Try.prog.cellsOf 3 = 1 := by kernel_rfl

set_option maxRecDepth 100000 in
set_option maxHeartbeats 1000000 in
theorem walk (ao : Option Addr) (cap : Nat) (L : List (List Int)) (kl : L.length ≤ cap) (ml : L.length ≤ 9223372036854775807) (w : World) (hrow : RRow w ao L) :
    Calls Try.prog 5 #[.slice ao L.length cap] w fun e w' => e = .returned (.bool true) ∧ Below w.heap.size w w' := by
  obtain ⟨c, hc⟩ := FC.ex L 0
  have cR := fun w' (hB : Below w.heap.size w w') => refRounds_any ao cap L 0 c hc ml w' (rb hrow hB)
  by_cases h0 : c = 0
  · subst h0
    obtain ⟨hl, hR, _, _⟩ := hc.ok.1 rfl
    obtain ⟨o, ho, ho2⟩ := order_ex hR
    have cS := Order_yes ao cap L hR hl o ho ho2 w hrow
    have cD := fun w' (hB : Below w.heap.size w w') => refOrder_any ao cap L hR hl o ho ho2 w' (rb hrow hB)
    generalize L.length = n at *
    clear hc hrow ho ho2
    go_enter Try.func5, Try.ntmps5
    go_wp2_with (first
      | (go_at_call 13; refine cS.mono ?_; rintro e w1 ⟨rfl, hB⟩)
      | (go_at_call 10; refine (cR _ hB).mono ?_; rintro e w2 ⟨rfl, hw⟩; subst w2)
      | (go_at_call 14; refine (cD _ hB).mono ?_; rintro e w3 ⟨rfl, hB3⟩))
    go_ret
    exact ⟨by simp, below_trans hB hB3⟩
  · have cS := Order_bad ao cap L c hc h0 ml w hrow
    have h1 : (c != 0) = true := by simpa using h0
    have h2 : (c == 0) = false := by simpa using h0
    generalize L.length = n at *
    clear hc hrow
    go_enter Try.func5, Try.ntmps5
    go_wp2_with (first
      | (go_at_call 13; refine cS.mono ?_; rintro e w1 ⟨rfl, hB⟩)
      | (go_at_call 10; refine (cR _ hB).mono ?_; rintro e w2 ⟨rfl, hw⟩; subst w2))
    go_ret
    exact ⟨by simp, hB⟩

set_option maxRecDepth 100000 in
theorem lifted (os : Os) (started : os.Started) (H : Type) (enc : TypeId × Value → H) :
    ReturnsInHanded {} Try.checked os 5 .any (Rows.feistelReturnsSpec.pre6 enc Try.prog Try.f5 Rows.feistelReturnsRow.domain false) (Rows.feistelReturnsSpec.post enc Try.prog Try.f5 false true false false) := by
  refine returnsInHanded_of_change (C := Try.checked) own started (by kernel_rfl) Try.func5
    (ChangeSpec.witness6 (enc := enc) (C := Try.checked) false ⟨#[], #[.slice none 0 0], []⟩ 8 (by kernel_rfl) (by kernel_rfl) (by kernel_rfl) (by kernel_rfl)) ?_
  intro W base args ds gs before hval0 hW hcnd _
  have hval : ∀ (j : Nat) t v, Try.f5.params[j]? = some t → args[j]? = some v → Value.okWide Try.prog W .any base t v := hval0
  have hW' := hW
  obtain ⟨p0, q, hA0, hV, rfl, _, _⟩ := hW
  have hA : DataW.TrodAll enc Try.prog W 0 (fun _ => true) true Try.f5.params.toList args.toList ds p0 := hA0
  rw [Try.params5] at hA hval
  obtain ⟨v0, d0, rfl, rfl, h0⟩ := trodAll_one hA
  obtain ⟨rfl, rfl⟩ := trodVars_none hV
  have hsl0 := okWide_slice Try.underlying22 (hval 0 22 v0 rfl rfl)
  clear hA0 hval0
  simp only [List.append_nil] at hW'
  have hlt0 : ∀ x ∈ p0, x.block < W.heap.size := fun x hx => by simpa using hW'.lt x (by simp [hx])
  have harg0 : ∀ (W' : World), Below W.heap.size W W' → DataW.Trod enc Try.prog W' 0 (fun b => decide (b < W.heap.size)) true 22 v0 d0 p0 :=
    fun W' hn => Below.trod laidOut (by kernel_rfl) (of_decide_eq_true (by kernel_rfl)) h0 hn hlt0
  obtain ⟨o0, c0, l0, rfl, r0, k0, m0⟩ := rows_view Try.underlying22 cellsR Try.underlying34 cells3 Try.underlying3 h0 hsl0
  refine (walk o0 c0 l0 k0 m0 W r0).mono fun e W' ⟨he, hg⟩ => ?_
  subst he
  refine ⟨_, rfl, _, _, _, [], p0, [], hW', ?_, ?_, rfl, hg.frame _, fun h => by cases h⟩
  · exact trodAll_mk1 (shut_bool Try.underlying4 true)
  · exact trodAll_mk1 (harg0 _ hg)

theorem over : Rows.feistelReturnsRow.holds Try.pinned (OpenSpec.ofChange Rows.feistelReturnsSpec) :=
  OpenClaim.holds_of_wide 5 Try.f5 rfl rfl rfl rfl rfl rfl rfl ⟨rfl, rfl, rfl, rfl, rfl⟩ rfl rfl rfl rfl rfl (by kernel_rfl) Try.func5 (by kernel_rfl)
    (of_decide_eq_true (by kernel_rfl)) (by unfold Func.isWrapper; first | (rw [if_pos (by decide +kernel)]; kernel_rfl) | (rw [if_neg (by decide +kernel)]; exact ⟨rfl, rfl⟩))
    (fun os started H enc _ => lifted os started H enc)

/-- ████ THE STATEMENT ████ -/
theorem proved : Rows.FeistelReturnsSaid :=
  over

end Go.Proofs.Ytngdhhhdnkkagaa.feistelReturns
