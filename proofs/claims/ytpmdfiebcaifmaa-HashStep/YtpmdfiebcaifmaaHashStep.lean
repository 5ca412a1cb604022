/-
  For any two numbers below 65536 and any two bytes: what package hash's Step makes is below 65536, and with one byte, or one number, in common it is the same just if the others are: at every input.
-/
import Derived.Test.YtpmdfiebcaifmaaRows
import Derived.Test.YtpmdfiebcaifmaaCalls132
import Derived.WalkKit
import Derived.ProofKit
import Derived.OpenShut
import Derived.Carry
namespace Go.Proofs.Ytpmdfiebcaifmaa.hashStep
open Go.ChangeShapes Go.WideShapes Go.ChangeAt Go.RowKit Go.Deep Go.Proofs.Ytpmdfiebcaifmaa.Base Go.Proofs.Ytpmdfiebcaifmaa.Base2 Go.Proofs.Ytpmdfiebcaifmaa.Base7 Go.Proofs.Ytpmdfiebcaifmaa.Base8 Go.Proofs.Ytpmdfiebcaifmaa.Num55 Go.Proofs.Ytpmdfiebcaifmaa.Calls125 Go.Proofs.Ytpmdfiebcaifmaa.Calls126 Go.Proofs.Ytpmdfiebcaifmaa.Calls127 Go.Proofs.Ytpmdfiebcaifmaa.Calls128 Go.Proofs.Ytpmdfiebcaifmaa.Calls129 Go.Proofs.Ytpmdfiebcaifmaa.Calls130 Go.Proofs.Ytpmdfiebcaifmaa.Calls131 Go.Proofs.Ytpmdfiebcaifmaa.Calls132
set_option linter.unusedVariables false

theorem own : ownKnob Try.prog.godebug = none := by kernel_rfl

theorem laidOut : laidOutB Try.prog = true := by kernel_rfl

theorem cells2 : Try.prog.cellsOf 2 = 1 := by kernel_rfl

set_option maxRecDepth 100000 in
set_option maxHeartbeats 1000000 in
theorem walk (g : Int) (wg : (Lit.int .u16 g).wf = true) (h : Int) (wh : (Lit.int .u16 h).wf = true) (a : Int) (wa : (Lit.int .u8 a).wf = true) (b : Int) (wb : (Lit.int .u8 b).wf = true) (w : World) :
    Calls Try.prog 8 #[.int .u16 g, .int .u16 h, .int .u8 a, .int .u8 b] w fun e w' => e = .returned (.bool true) ∧ Below w.heap.size w w' := by
  obtain ⟨g, hg, rfl⟩ := u16_of wg
  obtain ⟨h, hh, rfl⟩ := u16_of wh
  obtain ⟨a, ha, rfl⟩ := u8_of wa
  obtain ⟨b, hb, rfl⟩ := u8_of wb
  clear wg wh wa wb
  have c1 := Step_any g a (by omega) ha w
  have c2 := Step_any h a (by omega) ha w
  have c3 := Step_any g b (by omega) hb w
  have l1 := stp_lt g a
  have i1 := stp_left (h := g) (h' := h) (b := a) hg hh (by omega)
  have i2 := stp_right (h := g) (b := a) (b' := b) hg (by omega) (by omega)
  by_cases e1 : g = h
  · subst e1
    by_cases e2 : a = b
    · subst e2
      clear i1 i2
      generalize stp g a = x at *
      have q1 : (x : Int) < 65536 := by omega
      have q2 : decide ((x : Int) < 65536) = true := decide_eq_true q1
      have q3 : decide (x < 65536) = true := decide_eq_true l1
      clear l1
      go_enter Try.func8, Try.ntmps8
      go_wp2_with (first
        | (go_at_call 9; refine c1.mono ?_; rintro e w1 ⟨rfl, hw⟩; subst w1; clear c1)
        | (go_at_call 9; refine c2.mono ?_; rintro e w1 ⟨rfl, hw⟩; subst w1; clear c2)
        | (go_at_call 9; refine c3.mono ?_; rintro e w1 ⟨rfl, hw⟩; subst w1; clear c3))
      go_ret
      exact ⟨rfl, Below.refl _ _⟩
    · have n2 : stp g a ≠ stp g b := fun h => e2 (i2.1 h)
      clear i1 i2
      generalize stp g a = x at *
      have q1 : (x : Int) < 65536 := by omega
      have q2 : decide ((x : Int) < 65536) = true := decide_eq_true q1
      have q3 : decide (x < 65536) = true := decide_eq_true l1
      clear l1
      generalize stp g b = z at *
      have d1 : ((x : Int) == (z : Int)) = false := by simp; omega
      have d2 : ((a : Int) == (b : Int)) = false := by simp; omega
      have d3 : ¬ (x : Int) = (z : Int) := by omega
      have d4 : ¬ (a : Int) = (b : Int) := by omega
      go_enter Try.func8, Try.ntmps8
      go_wp2_with (first
        | (go_at_call 9; refine c1.mono ?_; rintro e w1 ⟨rfl, hw⟩; subst w1; clear c1)
        | (go_at_call 9; refine c2.mono ?_; rintro e w1 ⟨rfl, hw⟩; subst w1; clear c2)
        | (go_at_call 9; refine c3.mono ?_; rintro e w1 ⟨rfl, hw⟩; subst w1; clear c3))
      go_ret
      exact ⟨rfl, Below.refl _ _⟩
  · have n1 : stp g a ≠ stp h a := fun h => e1 (i1.1 h)
    have d5 : ((g : Int) == (h : Int)) = false := by simp; omega
    have d6 : ¬ (g : Int) = (h : Int) := by omega
    by_cases e2 : a = b
    · subst e2
      clear i1 i2
      generalize stp g a = x at *
      have q1 : (x : Int) < 65536 := by omega
      have q2 : decide ((x : Int) < 65536) = true := decide_eq_true q1
      have q3 : decide (x < 65536) = true := decide_eq_true l1
      clear l1
      generalize stp h a = y at *
      have d7 : ((x : Int) == (y : Int)) = false := by simp; omega
      have d8 : ¬ (x : Int) = (y : Int) := by omega
      go_enter Try.func8, Try.ntmps8
      go_wp2_with (first
        | (go_at_call 9; refine c1.mono ?_; rintro e w1 ⟨rfl, hw⟩; subst w1; clear c1)
        | (go_at_call 9; refine c2.mono ?_; rintro e w1 ⟨rfl, hw⟩; subst w1; clear c2)
        | (go_at_call 9; refine c3.mono ?_; rintro e w1 ⟨rfl, hw⟩; subst w1; clear c3))
      go_ret
      exact ⟨rfl, Below.refl _ _⟩
    · have n2 : stp g a ≠ stp g b := fun h => e2 (i2.1 h)
      clear i1 i2
      generalize stp g a = x at *
      have q1 : (x : Int) < 65536 := by omega
      have q2 : decide ((x : Int) < 65536) = true := decide_eq_true q1
      have q3 : decide (x < 65536) = true := decide_eq_true l1
      clear l1
      generalize stp h a = y at *
      generalize stp g b = z at *
      have d7 : ((x : Int) == (y : Int)) = false := by simp; omega
      have d8 : ¬ (x : Int) = (y : Int) := by omega
      have d1 : ((x : Int) == (z : Int)) = false := by simp; omega
      have d2 : ((a : Int) == (b : Int)) = false := by simp; omega
      have d3 : ¬ (x : Int) = (z : Int) := by omega
      have d4 : ¬ (a : Int) = (b : Int) := by omega
      go_enter Try.func8, Try.ntmps8
      go_wp2_with (first
        | (go_at_call 9; refine c1.mono ?_; rintro e w1 ⟨rfl, hw⟩; subst w1; clear c1)
        | (go_at_call 9; refine c2.mono ?_; rintro e w1 ⟨rfl, hw⟩; subst w1; clear c2)
        | (go_at_call 9; refine c3.mono ?_; rintro e w1 ⟨rfl, hw⟩; subst w1; clear c3))
      go_ret
      exact ⟨rfl, Below.refl _ _⟩

set_option maxRecDepth 100000 in
theorem lifted (os : Os) (started : os.Started) (H : Type) (enc : TypeId × Value → H) :
    ReturnsInHanded {} Try.checked os 8 .any (Rows.hashStepSpec.pre6 enc Try.prog Try.f8 Rows.hashStepRow.domain false) (Rows.hashStepSpec.post enc Try.prog Try.f8 false true false false) := by
  refine returnsInHanded_of_change (C := Try.checked) own started (by kernel_rfl) Try.func8
    (ChangeSpec.witness6 (enc := enc) (C := Try.checked) false ⟨#[], #[.int .u16 0, .int .u16 0, .int .u8 0, .int .u8 0], []⟩ 8 (by kernel_rfl) (by kernel_rfl) (by kernel_rfl) (by kernel_rfl)) ?_
  intro W base args ds gs before hval0 hW hcnd _
  have hval : ∀ (j : Nat) t v, Try.f8.params[j]? = some t → args[j]? = some v → Value.okWide Try.prog W .any base t v := hval0
  have hW' := hW
  obtain ⟨p, q, hA0, hV, rfl, _, _⟩ := hW
  have hA : DataW.TrodAll enc Try.prog W 0 (fun _ => true) true Try.f8.params.toList args.toList ds p := hA0
  rw [Try.params8] at hA hval
  obtain ⟨v0, v1, v2, v3, d0, d1, d2, d3, p0, p1, p2, p3, rfl, rfl, rfl, h0, h1, h2, h3⟩ := trodAll_four hA
  obtain ⟨rfl, rfl⟩ := trodVars_none hV
  obtain ⟨a0, rfl, rfl, rfl, w0⟩ := open_int Try.underlying39 (hval 0 39 v0 rfl rfl) h0
  obtain ⟨a1, rfl, rfl, rfl, w1⟩ := open_int Try.underlying39 (hval 1 39 v1 rfl rfl) h1
  obtain ⟨a2, rfl, rfl, rfl, w2⟩ := open_int Try.underlying5 (hval 2 5 v2 rfl rfl) h2
  obtain ⟨a3, rfl, rfl, rfl, w3⟩ := open_int Try.underlying5 (hval 3 5 v3 rfl rfl) h3
  clear hA0 hval0
  simp only [List.append_nil] at hW'
  refine (walk a0 w0 a1 w1 a2 w2 a3 w3 W ).mono fun e W' ⟨he, hg⟩ => ?_
  subst he
  refine ⟨_, rfl, _, _, _, [], ([] : List MemPlace) ++ (([] : List MemPlace) ++ (([] : List MemPlace) ++ (([] : List MemPlace)))), [], hW', ?_, ?_, rfl, hg.frame _, fun h => by cases h⟩
  · exact trodAll_mk1 (shut_bool Try.underlying4 true)
  · exact trodAll_mk4 (shut_int Try.underlying39 w0) (shut_int Try.underlying39 w1) (shut_int Try.underlying5 w2) (shut_int Try.underlying5 w3)

theorem over : Rows.hashStepRow.holds Try.pinned (OpenSpec.ofChange Rows.hashStepSpec) :=
  OpenClaim.holds_of_wide 8 Try.f8 rfl rfl rfl rfl rfl rfl rfl ⟨rfl, rfl, rfl, rfl, rfl⟩ rfl rfl rfl rfl rfl (by kernel_rfl) Try.func8 (by kernel_rfl)
    (of_decide_eq_true (by kernel_rfl)) (by unfold Func.isWrapper; first | (rw [if_pos (by decide +kernel)]; kernel_rfl) | (rw [if_neg (by decide +kernel)]; exact ⟨rfl, rfl⟩))
    (fun os started H enc _ => lifted os started H enc)

/-- ████ THE STATEMENT ████ -/
theorem proved : Rows.HashStepSaid :=
  over

end Go.Proofs.Ytpmdfiebcaifmaa.hashStep
