/-
  For any list of bits: package shift's Short answers the shortest rule, of several that whose first taps are not set, as the document's sums of equations find it: at every input.
-/
import Derived.Test.YtfomanpehfdnbaaRows
import Derived.Test.YtfomanpehfdnbaaCalls121
import Derived.Test.YtfomanpehfdnbaaCalls123
import Derived.WalkKit
import Derived.ProofKit
import Derived.OpenShut
import Derived.Carry
namespace Go.Proofs.Ytfomanpehfdnbaa.shiftShort
open Go.ChangeShapes Go.WideShapes Go.ChangeAt Go.RowKit Go.Deep Go.Proofs.Ytfomanpehfdnbaa.Base Go.Proofs.Ytfomanpehfdnbaa.Base2 Go.Proofs.Ytfomanpehfdnbaa.Base7 Go.Proofs.Ytfomanpehfdnbaa.Num44 Go.Proofs.Ytfomanpehfdnbaa.Num54 Go.Proofs.Ytfomanpehfdnbaa.Num65 Go.Proofs.Ytfomanpehfdnbaa.Calls120 Go.Proofs.Ytfomanpehfdnbaa.Calls121 Go.Proofs.Ytfomanpehfdnbaa.Calls123
set_option linter.unusedVariables false

theorem own : ownKnob Try.prog.godebug = none := by kernel_rfl

theorem laidOut : laidOutB Try.prog = true := by kernel_rfl

theorem cells2 : Try.prog.cellsOf 2 = 1 := by kernel_rfl

theorem cells4 : Try.prog.cellsOf 4 = 1 := by kernel_rfl

set_option maxRecDepth 100000 in
set_option maxHeartbeats 1000000 in
theorem walk (o0 : Option Addr) (c0 : Nat) (l0 : List Bool) (k0 : l0.length ≤ c0) (m0 : l0.length ≤ 9223372036854775807) (w : World) (r0 : BRow w o0 l0) :
    Calls Try.prog 4 #[.slice o0 l0.length c0] w fun e w' => e = .returned (.bool true) ∧ Below w.heap.size w w' := by
  by_cases h : 64 < l0.length
  · have cS := Short_bad o0 c0 l0 h w
    have h' : (64 : Int) < (l0.length : Int) := by omega
    generalize l0.length = N at *
    go_enter Try.func4, Try.ntmps4
    go_wp2_with (go_at_call 11; refine cS.mono ?_; rintro e w2 ⟨rfl, hB2⟩)
    go_ret
    exact ⟨rfl, hB2⟩
  · obtain ⟨T, hT, hTl⟩ := shl_ex l0
    have cS := Short_yes o0 c0 l0 T hT (by omega) w r0
    have cR := hid (fun (w' : World) (h' : Below w.heap.size w w') => refShort_any o0 c0 l0 T hT (by omega) w' (brow_below r0 h'))
    have cE := hid (fun (ao bo : Option Addr) (ca cb : Nat) (w' : World) (ra : BRow w' ao T) (rb : BRow w' bo T) => refBools_any ao bo ca cb T T true (by simp) (by omega) w' ra rb)
    have h' : ¬ (64 : Int) < (l0.length : Int) := by omega
    unfold RetBE at cS
    unfold RetB at cR
    clear hT hTl r0
    generalize l0.length = N at *
    generalize T.length = M at *
    go_enter Try.func4, Try.ntmps4
    go_wp2_with (first
      | (go_at_call 11; refine cS.mono ?_; rintro e w2 ⟨⟨bo, cb, rfl, hcb, hb⟩, hB2⟩; have HB := hid hb; clear hb cS)
      | (go_at_call 12; refine (cR.out _ hB2).mono ?_; rintro e w3 ⟨⟨b3, c3, rfl, hc3, hb3⟩, hB3⟩; have HB3 := hid hb3; have HBB := hid (brow_below HB.out hB3); clear hb3)
      | (go_at_call 9; refine (cE.out _ _ _ _ _ HBB.out HB3.out).mono ?_; rintro e w4 ⟨rfl, hB4⟩))
    go_ret
    exact ⟨rfl, below_trans hB2 (below_trans hB3 hB4)⟩

set_option maxRecDepth 100000 in
theorem lifted (os : Os) (started : os.Started) (H : Type) (enc : TypeId × Value → H) :
    ReturnsInHanded {} Try.checked os 4 .any (Rows.shiftShortSpec.pre6 enc Try.prog Try.f4 Rows.shiftShortRow.domain false) (Rows.shiftShortSpec.post enc Try.prog Try.f4 false true false false) := by
  refine returnsInHanded_of_change (C := Try.checked) own started (by kernel_rfl) Try.func4
    (ChangeSpec.witness6 (enc := enc) (C := Try.checked) false ⟨#[], #[.slice none 0 0], []⟩ 8 (by kernel_rfl) (by kernel_rfl) (by kernel_rfl) (by kernel_rfl)) ?_
  intro W base args ds gs before hval0 hW hcnd _
  have hval : ∀ (j : Nat) t v, Try.f4.params[j]? = some t → args[j]? = some v → Value.okWide Try.prog W .any base t v := hval0
  have hW' := hW
  obtain ⟨p0, q, hA0, hV, rfl, _, _⟩ := hW
  have hA : DataW.TrodAll enc Try.prog W 0 (fun _ => true) true Try.f4.params.toList args.toList ds p0 := hA0
  rw [Try.params4] at hA hval
  obtain ⟨v0, d0, rfl, rfl, h0⟩ := trodAll_one hA
  obtain ⟨rfl, rfl⟩ := trodVars_none hV
  have hsl0 := okWide_slice Try.underlying22 (hval 0 22 v0 rfl rfl)
  clear hA0 hval0
  simp only [List.append_nil] at hW'
  have hlt0 : ∀ x ∈ p0, x.block < W.heap.size := fun x hx => by simpa using hW'.lt x (by simp [hx])
  have harg0 : ∀ (W' : World), Below W.heap.size W W' → DataW.Trod enc Try.prog W' 0 (fun b => decide (b < W.heap.size)) true 22 v0 d0 p0 :=
    fun W' hn => Below.trod laidOut (by kernel_rfl) (of_decide_eq_true (by kernel_rfl)) h0 hn hlt0
  obtain ⟨o0, c0, l0, rfl, r0, k0, m0⟩ := bools_view Try.underlying22 cells4 Try.underlying4 h0 hsl0
  refine (walk o0 c0 l0 k0 m0 W r0).mono fun e W' ⟨he, hg⟩ => ?_
  subst he
  refine ⟨_, rfl, _, _, _, [], p0, [], hW', ?_, ?_, rfl, hg.frame _, fun h => by cases h⟩
  · exact trodAll_mk1 (shut_bool Try.underlying4 true)
  · exact trodAll_mk1 (harg0 _ hg)

theorem over : Rows.shiftShortRow.holds Try.pinned (OpenSpec.ofChange Rows.shiftShortSpec) :=
  OpenClaim.holds_of_wide 4 Try.f4 rfl rfl rfl rfl rfl rfl rfl ⟨rfl, rfl, rfl, rfl, rfl⟩ rfl rfl rfl rfl rfl (by kernel_rfl) Try.func4 (by kernel_rfl)
    (of_decide_eq_true (by kernel_rfl)) (by unfold Func.isWrapper; first | (rw [if_pos (by decide +kernel)]; kernel_rfl) | (rw [if_neg (by decide +kernel)]; exact ⟨rfl, rfl⟩))
    (fun os started H enc _ => lifted os started H enc)

/-- ████ THE STATEMENT ████ -/
theorem proved : Rows.ShiftShortSaid :=
  over

end Go.Proofs.Ytfomanpehfdnbaa.shiftShort
