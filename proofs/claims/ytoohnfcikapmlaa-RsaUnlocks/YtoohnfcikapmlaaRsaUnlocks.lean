/-
  For any key and any number the program tells from what it has come, or what is wrong.
-/
import Derived.Test.YtoohnfcikapmlaaRows
import Derived.Test.YtoohnfcikapmlaaCalls156
import Derived.Test.YtoohnfcikapmlaaBase10
import Derived.WalkKit
import Derived.ProofKit
import Derived.OpenShut
import Derived.Carry
namespace Go.Proofs.Ytoohnfcikapmlaa.rsaUnlocks
open Go.ChangeShapes Go.WideShapes Go.ChangeAt Go.RowKit Go.Deep Go.Proofs.Ytoohnfcikapmlaa.Base Go.Proofs.Ytoohnfcikapmlaa.Base2 Go.Proofs.Ytoohnfcikapmlaa.Base10 Go.Proofs.Ytoohnfcikapmlaa.Num Go.Proofs.Ytoohnfcikapmlaa.Num56 Go.Proofs.Ytoohnfcikapmlaa.Calls150 Go.Proofs.Ytoohnfcikapmlaa.Calls151 Go.Proofs.Ytoohnfcikapmlaa.Calls152 Go.Proofs.Ytoohnfcikapmlaa.Calls153 Go.Proofs.Ytoohnfcikapmlaa.Calls154 Go.Proofs.Ytoohnfcikapmlaa.Calls155 Go.Proofs.Ytoohnfcikapmlaa.Calls156
set_option linter.unusedVariables false

theorem own : ownKnob Try.prog.godebug = none := by kernel_rfl

theorem laidOut : laidOutB Try.prog = true := by kernel_rfl

theorem cells2 : Try.prog.cellsOf 2 = 1 := by kernel_rfl

theorem cells_K : Try.prog.cellsOf 23 = 3 := by kernel_rfl

set_option maxRecDepth 100000 in
theorem walkF (N E D x : Int) (h : ¬ Cr x E D N) (w : World) :
    Calls Try.prog 4 #[.agg #[.int .i64 N, .int .i64 E, .int .i64 D], .int .i64 x] w fun e w' => e = .returned (.bool true) ∧ Below w.heap.size w w' := by
  have cL := fun w => Open_bad N E D x h w
  have cK := fun w => keyCheck_no N E D x h w
  have K := hid (Kb.new w N E D)
  obtain ⟨c0, c1, c2⟩ := K.out.cells
  clear h
  go_enter Try.func4, Try.ntmps4
  go_wp2_with (first
    | (go_at_call 11; refine (cL _).mono ?_; clear cL; rintro e w1 ⟨rfl, hB1⟩; have K1 := hid (K.out.below hB1); obtain ⟨d0, d1, d2⟩ := K1.out.cells; clear hB1)
    | (go_at_call 9; refine (cK _).mono ?_; clear cK; rintro e w2 ⟨rfl, hB2⟩; have K2 := hid (K1.out.below hB2); obtain ⟨e0, e1, e2⟩ := K2.out.cells; clear hB2))
  go_ret
  exact ⟨rfl, K2.out.2⟩

set_option maxRecDepth 100000 in
theorem walkY (N E D x : Nat) (h : Cr (x : Int) (E : Int) (D : Int) (N : Int)) (w : World) :
    Calls Try.prog 4 #[.agg #[.int .i64 (N : Int), .int .i64 (E : Int), .int .i64 (D : Int)], .int .i64 (x : Int)] w fun e w' => e = .returned (.bool true) ∧ Below w.heap.size w w' := by
  have cL := fun w => Open_yes N E D x h w
  have cK := fun w => keyCheck_yes (N : Int) (E : Int) (D : Int) (x : Int) h w
  have cP := fun w => refPow_nat x D N (by have := h.1.1; omega) (by have := h.1.2; omega) (by have := h.2.1.2; have := h.2.2.1.2; omega) w
  have K := hid (Kb.new w (N : Int) (E : Int) (D : Int))
  obtain ⟨c0, c1, c2⟩ := K.out.cells
  clear h
  generalize x ^ D % N = y at *
  go_enter Try.func4, Try.ntmps4
  go_wp2_with (first
    | (go_at_call 11; refine (cL _).mono ?_; clear cL; rintro e w1 ⟨rfl, hB1⟩; have K1 := hid (K.out.below hB1); obtain ⟨d0, d1, d2⟩ := K1.out.cells; clear hB1)
    | (go_at_call 9; refine (cK _).mono ?_; clear cK; rintro e w2 ⟨rfl, hB2⟩; have K2 := hid (K1.out.below hB2); obtain ⟨e0, e1, e2⟩ := K2.out.cells; clear hB2)
    | (go_at_call 10; refine (cP _).mono ?_; clear cP; rintro e w3 ⟨rfl, hw⟩; subst w3))
  go_ret
  exact ⟨by simp, K2.out.2⟩

theorem walk (N E D : Int) (wN : (Lit.int .i64 N).wf = true) (wE : (Lit.int .i64 E).wf = true) (wD : (Lit.int .i64 D).wf = true) (x : Int) (w : World) :
    Calls Try.prog 4 #[.agg #[.int .i64 N, .int .i64 E, .int .i64 D], .int .i64 x] w fun e w' => e = .returned (.bool true) ∧ Below w.heap.size w w' := by
  by_cases h : Cr x E D N
  · obtain ⟨a, b, c, d, rfl, rfl, rfl, rfl⟩ := h.nat
    exact walkY d b c a h w
  · exact walkF N E D x h w

set_option maxRecDepth 100000 in
theorem lifted (os : Os) (started : os.Started) (H : Type) (enc : TypeId × Value → H) :
    ReturnsInHanded {} Try.checked os 4 .any (Rows.rsaUnlocksSpec.pre6 enc Try.prog Try.f4 Rows.rsaUnlocksRow.domain false) (Rows.rsaUnlocksSpec.post enc Try.prog Try.f4 false true false false) := by
  refine returnsInHanded_of_change (C := Try.checked) own started (by kernel_rfl) Try.func4
    (ChangeSpec.witness6 (enc := enc) (C := Try.checked) false ⟨#[], #[.agg #[.int .i64 0, .int .i64 0, .int .i64 0], .int .i64 0], []⟩ 8 (by kernel_rfl) (by kernel_rfl) (by kernel_rfl) (by kernel_rfl)) ?_
  intro W base args ds gs before hval0 hW hcnd _
  have hval : ∀ (j : Nat) t v, Try.f4.params[j]? = some t → args[j]? = some v → Value.okWide Try.prog W .any base t v := hval0
  have hW' := hW
  obtain ⟨p, q, hA0, hV, rfl, _, _⟩ := hW
  have hA : DataW.TrodAll enc Try.prog W 0 (fun _ => true) true Try.f4.params.toList args.toList ds p := hA0
  rw [Try.params4] at hA hval
  obtain ⟨v0, v1, d0, d1, p0, p1, rfl, rfl, rfl, h0, h1⟩ := trodAll_two hA
  obtain ⟨rfl, rfl⟩ := trodVars_none hV
  have hsv0 := hval 0 23 v0 rfl rfl
  obtain ⟨a1, rfl, rfl, rfl, w1⟩ := open_int Try.underlying2 (hval 1 2 v1 rfl rfl) h1
  clear hA0 hval0
  simp only [List.append_nil] at hW'
  have hlt0 : ∀ x ∈ p0, x.block < W.heap.size := fun x hx => by simpa using hW'.lt x (by simp [hx])
  have harg0 : ∀ (W' : World), Below W.heap.size W W' → DataW.Trod enc Try.prog W' 0 (fun b => decide (b < W.heap.size)) true 23 v0 d0 p0 :=
    fun W' hn => Below.trod laidOut (by kernel_rfl) (of_decide_eq_true (by kernel_rfl)) h0 hn hlt0
  obtain ⟨x0a, x0b, x0c, rfl, w0a, w0b, w0c⟩ := struct3_view Try.underlying23 cells_K rfl rfl rfl ⟨cells2, Try.underlying2⟩ ⟨cells2, Try.underlying2⟩ ⟨cells2, Try.underlying2⟩ h0 hsv0
  refine (walk x0a x0b x0c w0a w0b w0c a1 W ).mono fun e W' ⟨he, hg⟩ => ?_
  subst he
  refine ⟨_, rfl, _, _, _, [], p0 ++ (([] : List MemPlace)), [], hW', ?_, ?_, rfl, hg.frame _, fun h => by cases h⟩
  · exact trodAll_mk1 (shut_bool Try.underlying4 true)
  · exact trodAll_mk2 (harg0 _ hg) (shut_int Try.underlying2 w1)

theorem over : Rows.rsaUnlocksRow.holds Try.pinned (OpenSpec.ofChange Rows.rsaUnlocksSpec) :=
  OpenClaim.holds_of_wide 4 Try.f4 rfl rfl rfl rfl rfl rfl rfl ⟨rfl, rfl, rfl, rfl, rfl⟩ rfl rfl rfl rfl rfl (by kernel_rfl) Try.func4 (by kernel_rfl)
    (of_decide_eq_true (by kernel_rfl)) (by unfold Func.isWrapper; first | (rw [if_pos (by decide +kernel)]; kernel_rfl) | (rw [if_neg (by decide +kernel)]; exact ⟨rfl, rfl⟩))
    (fun os started H enc _ => lifted os started H enc)

/-- ████ THE STATEMENT ████ -/
theorem proved : Rows.RsaUnlocksSaid :=
  over

end Go.Proofs.Ytoohnfcikapmlaa.rsaUnlocks
