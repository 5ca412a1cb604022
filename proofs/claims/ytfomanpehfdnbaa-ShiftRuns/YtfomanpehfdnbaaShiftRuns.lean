/-
  For any taps, first bits and number: package shift's Run answers what the rule makes, counted out bit by bit, or the fault that the document names: at every input.
-/
import Derived.Test.YtfomanpehfdnbaaRows
import Derived.Test.YtfomanpehfdnbaaCalls121
import Derived.Test.YtfomanpehfdnbaaCalls123
import Derived.WalkKit
import Derived.ProofKit
import Derived.OpenShut
import Derived.Carry
namespace Go.Proofs.Ytfomanpehfdnbaa.shiftRuns
open Go.ChangeShapes Go.WideShapes Go.ChangeAt Go.RowKit Go.Deep Go.Proofs.Ytfomanpehfdnbaa.Base Go.Proofs.Ytfomanpehfdnbaa.Base2 Go.Proofs.Ytfomanpehfdnbaa.Base7 Go.Proofs.Ytfomanpehfdnbaa.Num44 Go.Proofs.Ytfomanpehfdnbaa.Num54 Go.Proofs.Ytfomanpehfdnbaa.Num65 Go.Proofs.Ytfomanpehfdnbaa.Calls120 Go.Proofs.Ytfomanpehfdnbaa.Calls121 Go.Proofs.Ytfomanpehfdnbaa.Calls123
set_option linter.unusedVariables false

theorem own : ownKnob Try.prog.godebug = none := by kernel_rfl

theorem laidOut : laidOutB Try.prog = true := by kernel_rfl

theorem cells2 : Try.prog.cellsOf 2 = 1 := by kernel_rfl

theorem cells4 : Try.prog.cellsOf 4 = 1 := by kernel_rfl

set_option maxRecDepth 100000 in
set_option maxHeartbeats 1000000 in
theorem walk_large (o0 : Option Addr) (c0 : Nat) (L : Nat) (o1 : Option Addr) (c1 : Nat) (F : Nat) (n : Int) (h : 64 < L ∨ n < 0 ∨ 64 < n) (w : World) :
    Calls Try.prog 3 #[.slice o0 L c0, .slice o1 F c1, .int .i64 n] w fun e w' => e = .returned (.bool true) ∧ Below w.heap.size w w' := by
  have cR := Run_large o0 o1 L F c0 c1 n h w
  by_cases h1 : 64 < L
  · have h1' : (64 : Int) < (L : Int) := by omega
    clear h
    go_enter Try.func3, Try.ntmps3
    go_wp2_with (go_at_call 8; refine cR.mono ?_; rintro e w2 ⟨rfl, hB2⟩)
    go_ret
    exact ⟨rfl, hB2⟩
  · have h1' : decide ((64 : Int) < (L : Int)) = false := by simp; omega
    by_cases h2 : n < 0
    · clear h
      go_enter Try.func3, Try.ntmps3
      go_wp2_with (go_at_call 8; refine cR.mono ?_; rintro e w2 ⟨rfl, hB2⟩)
      go_ret
      exact ⟨rfl, hB2⟩
    · have h2' : decide (n < 0) = false := by simpa using h2
      have h3 : 64 < n := by omega
      clear h
      go_enter Try.func3, Try.ntmps3
      go_wp2_with (go_at_call 8; refine cR.mono ?_; rintro e w2 ⟨rfl, hB2⟩)
      go_ret
      exact ⟨rfl, hB2⟩

set_option maxRecDepth 100000 in
set_option maxHeartbeats 1000000 in
theorem walk_form (o0 : Option Addr) (c0 : Nat) (L : Nat) (o1 : Option Addr) (c1 : Nat) (F : Nat) (n : Int) (h1 : L ≤ 64) (h2 : 0 ≤ n) (h3 : n ≤ 64) (h4 : F ≠ L) (w : World) :
    Calls Try.prog 3 #[.slice o0 L c0, .slice o1 F c1, .int .i64 n] w fun e w' => e = .returned (.bool true) ∧ Below w.heap.size w w' := by
  have cR := Run_form o0 o1 L F c0 c1 n h1 h2 h3 h4 w
  have h1' : decide ((64 : Int) < (L : Int)) = false := by simp; omega
  have h2' : decide (n < 0) = false := by simp; omega
  have h3' : decide (64 < n) = false := by simp; omega
  have h4' : ¬ (F : Int) = (L : Int) := by omega
  go_enter Try.func3, Try.ntmps3
  go_wp2_with (go_at_call 8; refine cR.mono ?_; rintro e w2 ⟨rfl, hB2⟩)
  go_ret
  exact ⟨rfl, hB2⟩

set_option maxRecDepth 100000 in
set_option maxHeartbeats 1000000 in
theorem walk_in (o0 : Option Addr) (c0 : Nat) (T : List Bool) (o1 : Option Addr) (c1 : Nat) (F : List Bool) (n : Nat) (hT : T.length ≤ 64) (hF : F.length = T.length) (hn : n ≤ 64) (w : World) (r0 : BRow w o0 T) (r1 : BRow w o1 F) :
    Calls Try.prog 3 #[.slice o0 T.length c0, .slice o1 F.length c1, .int .i64 (n : Int)] w fun e w' => e = .returned (.bool true) ∧ Below w.heap.size w w' := by
  have cR := Run_yes o0 o1 c0 c1 T F n hT hF hn w r0 r1
  have cS := hid (fun (w' : World) (h : Below w.heap.size w w') => refRun_any o0 o1 c0 c1 T F n (by omega) (by omega) (by omega) (by omega) w' (brow_below r0 h) (brow_below r1 h))
  have hl := rn_length T F n
  have cE := hid (fun (ao bo : Option Addr) (ca cb : Nat) (w' : World) (ra : BRow w' ao (rn T F n)) (rb : BRow w' bo (rn T F n)) => refBools_any ao bo ca cb (rn T F n) (rn T F n) true (by simp) (by rw [hl]; omega) w' ra rb)
  unfold RetBE at cR
  unfold RetB at cS
  rw [hl] at cR cS cE
  rw [hF] at cR cS ⊢
  have h1' : decide ((64 : Int) < (T.length : Int)) = false := by simp; omega
  have h2' : decide ((n : Int) < 0) = false := by simp
  have h3' : decide ((64 : Int) < (n : Int)) = false := by simp; omega
  clear hF hl
  generalize rn T F n = X at *
  generalize T.length = L at *
  go_enter Try.func3, Try.ntmps3
  go_wp2_with (first
    | (go_at_call 8; refine cR.mono ?_; rintro e w2 ⟨⟨bo, cb, rfl, hcb, hb⟩, hB2⟩; have HB := hid hb; clear hb cR)
    | (go_at_call 10; refine (cS.out _ hB2).mono ?_; rintro e w3 ⟨⟨b3, c3, rfl, hc3, hb3⟩, hB3⟩; have HB3 := hid hb3; have HBB := hid (brow_below HB.out hB3); clear hb3)
    | (go_at_call 9; refine (cE.out _ _ _ _ _ HBB.out HB3.out).mono ?_; rintro e w4 ⟨rfl, hB4⟩))
  go_ret
  exact ⟨rfl, below_trans hB2 (below_trans hB3 hB4)⟩

theorem walk (o0 : Option Addr) (c0 : Nat) (l0 : List Bool) (k0 : l0.length ≤ c0) (m0 : l0.length ≤ 9223372036854775807) (o1 : Option Addr) (c1 : Nat) (l1 : List Bool) (k1 : l1.length ≤ c1) (m1 : l1.length ≤ 9223372036854775807) (n : Int) (wn : (Lit.int .i64 n).wf = true) (w : World) (r0 : BRow w o0 l0) (r1 : BRow w o1 l1) :
    Calls Try.prog 3 #[.slice o0 l0.length c0, .slice o1 l1.length c1, .int .i64 n] w fun e w' => e = .returned (.bool true) ∧ Below w.heap.size w w' := by
  by_cases h : 64 < l0.length ∨ n < 0 ∨ 64 < n
  · exact walk_large o0 c0 l0.length o1 c1 l1.length n h w
  · by_cases h4 : l1.length = l0.length
    · obtain ⟨k, rfl⟩ : ∃ k : Nat, n = (k : Int) := ⟨n.toNat, by omega⟩
      exact walk_in o0 c0 l0 o1 c1 l1 k (by omega) h4 (by omega) w r0 r1
    · exact walk_form o0 c0 l0.length o1 c1 l1.length n (by omega) (by omega) (by omega) h4 w

set_option maxRecDepth 100000 in
theorem lifted (os : Os) (started : os.Started) (H : Type) (enc : TypeId × Value → H) :
    ReturnsInHanded {} Try.checked os 3 .any (Rows.shiftRunsSpec.pre6 enc Try.prog Try.f3 Rows.shiftRunsRow.domain false) (Rows.shiftRunsSpec.post enc Try.prog Try.f3 false true false false) := by
  refine returnsInHanded_of_change (C := Try.checked) own started (by kernel_rfl) Try.func3
    (ChangeSpec.witness6 (enc := enc) (C := Try.checked) false ⟨#[], #[.slice none 0 0, .slice none 0 0, .int .i64 0], []⟩ 8 (by kernel_rfl) (by kernel_rfl) (by kernel_rfl) (by kernel_rfl)) ?_
  intro W base args ds gs before hval0 hW hcnd _
  have hval : ∀ (j : Nat) t v, Try.f3.params[j]? = some t → args[j]? = some v → Value.okWide Try.prog W .any base t v := hval0
  have hW' := hW
  obtain ⟨p, q, hA0, hV, rfl, _, _⟩ := hW
  have hA : DataW.TrodAll enc Try.prog W 0 (fun _ => true) true Try.f3.params.toList args.toList ds p := hA0
  rw [Try.params3] at hA hval
  obtain ⟨v0, v1, v2, d0, d1, d2, p0, p1, p2, rfl, rfl, rfl, h0, h1, h2⟩ := trodAll_three hA
  obtain ⟨rfl, rfl⟩ := trodVars_none hV
  have hsl0 := okWide_slice Try.underlying22 (hval 0 22 v0 rfl rfl)
  have hsl1 := okWide_slice Try.underlying22 (hval 1 22 v1 rfl rfl)
  obtain ⟨a2, rfl, rfl, rfl, w2⟩ := open_int Try.underlying3 (hval 2 3 v2 rfl rfl) h2
  clear hA0 hval0
  simp only [List.append_nil] at hW'
  have hlt0 : ∀ x ∈ p0, x.block < W.heap.size := fun x hx => by simpa using hW'.lt x (by simp [hx])
  have harg0 : ∀ (W' : World), Below W.heap.size W W' → DataW.Trod enc Try.prog W' 0 (fun b => decide (b < W.heap.size)) true 22 v0 d0 p0 :=
    fun W' hn => Below.trod laidOut (by kernel_rfl) (of_decide_eq_true (by kernel_rfl)) h0 hn hlt0
  obtain ⟨o0, c0, l0, rfl, r0, k0, m0⟩ := bools_view Try.underlying22 cells4 Try.underlying4 h0 hsl0
  have hlt1 : ∀ x ∈ p1, x.block < W.heap.size := fun x hx => by simpa using hW'.lt x (by simp [hx])
  have harg1 : ∀ (W' : World), Below W.heap.size W W' → DataW.Trod enc Try.prog W' 0 (fun b => decide (b < W.heap.size)) true 22 v1 d1 p1 :=
    fun W' hn => Below.trod laidOut (by kernel_rfl) (of_decide_eq_true (by kernel_rfl)) h1 hn hlt1
  obtain ⟨o1, c1, l1, rfl, r1, k1, m1⟩ := bools_view Try.underlying22 cells4 Try.underlying4 h1 hsl1
  refine (walk o0 c0 l0 k0 m0 o1 c1 l1 k1 m1 a2 w2 W r0 r1).mono fun e W' ⟨he, hg⟩ => ?_
  subst he
  refine ⟨_, rfl, _, _, _, [], p0 ++ (p1 ++ (([] : List MemPlace))), [], hW', ?_, ?_, rfl, hg.frame _, fun h => by cases h⟩
  · exact trodAll_mk1 (shut_bool Try.underlying4 true)
  · exact trodAll_mk3 (harg0 _ hg) (harg1 _ hg) (shut_int Try.underlying3 w2)

theorem over : Rows.shiftRunsRow.holds Try.pinned (OpenSpec.ofChange Rows.shiftRunsSpec) :=
  OpenClaim.holds_of_wide 3 Try.f3 rfl rfl rfl rfl rfl rfl rfl ⟨rfl, rfl, rfl, rfl, rfl⟩ rfl rfl rfl rfl rfl (by kernel_rfl) Try.func3 (by kernel_rfl)
    (of_decide_eq_true (by kernel_rfl)) (by unfold Func.isWrapper; first | (rw [if_pos (by decide +kernel)]; kernel_rfl) | (rw [if_neg (by decide +kernel)]; exact ⟨rfl, rfl⟩))
    (fun os started H enc _ => lifted os started H enc)

/-- ████ THE STATEMENT ████ -/
theorem proved : Rows.ShiftRunsSaid :=
  over

end Go.Proofs.Ytfomanpehfdnbaa.shiftRuns
