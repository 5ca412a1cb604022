/-
  For any number and any byte: package hash's Step answers what the document's mixing makes of them, reckoned by sums and rests: at every input.
-/
import Derived.Test.YtpmdfiebcaifmaaRows
import Derived.Test.YtpmdfiebcaifmaaCalls132
import Derived.WalkKit
import Derived.ProofKit
import Derived.OpenShut
import Derived.Carry
namespace Go.Proofs.Ytpmdfiebcaifmaa.hashMixes
open Go.ChangeShapes Go.WideShapes Go.ChangeAt Go.RowKit Go.Deep Go.Proofs.Ytpmdfiebcaifmaa.Base Go.Proofs.Ytpmdfiebcaifmaa.Base2 Go.Proofs.Ytpmdfiebcaifmaa.Base7 Go.Proofs.Ytpmdfiebcaifmaa.Base8 Go.Proofs.Ytpmdfiebcaifmaa.Num55 Go.Proofs.Ytpmdfiebcaifmaa.Calls125 Go.Proofs.Ytpmdfiebcaifmaa.Calls126 Go.Proofs.Ytpmdfiebcaifmaa.Calls127 Go.Proofs.Ytpmdfiebcaifmaa.Calls128 Go.Proofs.Ytpmdfiebcaifmaa.Calls129 Go.Proofs.Ytpmdfiebcaifmaa.Calls130 Go.Proofs.Ytpmdfiebcaifmaa.Calls131 Go.Proofs.Ytpmdfiebcaifmaa.Calls132
set_option linter.unusedVariables false

theorem own : ownKnob Try.prog.godebug = none := by kernel_rfl

theorem laidOut : laidOutB Try.prog = true := by kernel_rfl

theorem cells2 : Try.prog.cellsOf 2 = 1 := by kernel_rfl

set_option maxRecDepth 100000 in
theorem walk (h : Int) (wh : (Lit.int .u32 h).wf = true) (b : Int) (wb : (Lit.int .u8 b).wf = true) (w : World) :
    Calls Try.prog 3 #[.int .u32 h, .int .u8 b] w fun e w' => e = .returned (.bool true) ∧ Below w.heap.size w w' := by
  obtain ⟨m, hm, rfl⟩ := u32_of wh
  obtain ⟨n, hn, rfl⟩ := u8_of wb
  clear wh wb
  have cA := Step_any m n hm hn w
  have cB := refStep_any m n hm hn w
  have hs := stp_lt m n
  generalize stp m n = s at *
  go_enter Try.func3, Try.ntmps3
  go_wp2_with (first
    | (go_at_call 9; refine cA.mono ?_; rintro e w1 ⟨rfl, hw⟩; subst w1)
    | (go_at_call 10; refine cB.mono ?_; rintro e w1 ⟨rfl, hw⟩; subst w1))
  go_ret
  exact ⟨rfl, Below.refl _ _⟩

set_option maxRecDepth 100000 in
theorem lifted (os : Os) (started : os.Started) (H : Type) (enc : TypeId × Value → H) :
    ReturnsInHanded {} Try.checked os 3 .any (Rows.hashMixesSpec.pre6 enc Try.prog Try.f3 Rows.hashMixesRow.domain false) (Rows.hashMixesSpec.post enc Try.prog Try.f3 false true false false) := by
  refine returnsInHanded_of_change (C := Try.checked) own started (by kernel_rfl) Try.func3
    (ChangeSpec.witness6 (enc := enc) (C := Try.checked) false ⟨#[], #[.int .u32 0, .int .u8 0], []⟩ 8 (by kernel_rfl) (by kernel_rfl) (by kernel_rfl) (by kernel_rfl)) ?_
  intro W base args ds gs before hval0 hW hcnd _
  have hval : ∀ (j : Nat) t v, Try.f3.params[j]? = some t → args[j]? = some v → Value.okWide Try.prog W .any base t v := hval0
  have hW' := hW
  obtain ⟨p, q, hA0, hV, rfl, _, _⟩ := hW
  have hA : DataW.TrodAll enc Try.prog W 0 (fun _ => true) true Try.f3.params.toList args.toList ds p := hA0
  rw [Try.params3] at hA hval
  obtain ⟨v0, v1, d0, d1, p0, p1, rfl, rfl, rfl, h0, h1⟩ := trodAll_two hA
  obtain ⟨rfl, rfl⟩ := trodVars_none hV
  obtain ⟨a0, rfl, rfl, rfl, w0⟩ := open_int Try.underlying22 (hval 0 22 v0 rfl rfl) h0
  obtain ⟨a1, rfl, rfl, rfl, w1⟩ := open_int Try.underlying5 (hval 1 5 v1 rfl rfl) h1
  clear hA0 hval0
  simp only [List.append_nil] at hW'
  refine (walk a0 w0 a1 w1 W ).mono fun e W' ⟨he, hg⟩ => ?_
  subst he
  refine ⟨_, rfl, _, _, _, [], ([] : List MemPlace) ++ (([] : List MemPlace)), [], hW', ?_, ?_, rfl, hg.frame _, fun h => by cases h⟩
  · exact trodAll_mk1 (shut_bool Try.underlying4 true)
  · exact trodAll_mk2 (shut_int Try.underlying22 w0) (shut_int Try.underlying5 w1)

theorem over : Rows.hashMixesRow.holds Try.pinned (OpenSpec.ofChange Rows.hashMixesSpec) :=
  OpenClaim.holds_of_wide 3 Try.f3 rfl rfl rfl rfl rfl rfl rfl ⟨rfl, rfl, rfl, rfl, rfl⟩ rfl rfl rfl rfl rfl (by kernel_rfl) Try.func3 (by kernel_rfl)
    (of_decide_eq_true (by kernel_rfl)) (by unfold Func.isWrapper; first | (rw [if_pos (by decide +kernel)]; kernel_rfl) | (rw [if_neg (by decide +kernel)]; exact ⟨rfl, rfl⟩))
    (fun os started H enc _ => lifted os started H enc)

/-- ████ THE STATEMENT ████ -/
theorem proved : Rows.HashMixesSaid :=
  over

end Go.Proofs.Ytpmdfiebcaifmaa.hashMixes
