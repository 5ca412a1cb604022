/-
  For any list of bits, at least twice as long as its shortest rule, and any taps: no other rule with as many taps makes it: at every input.
-/
import Derived.Test.YtfomanpehfdnbaaRows
import Derived.Test.YtfomanpehfdnbaaCalls121
import Derived.Test.YtfomanpehfdnbaaCalls123
import Derived.Test.YtfomanpehfdnbaaCalls124
import Derived.WalkKit
import Derived.ProofKit
import Derived.OpenShut
import Derived.Carry
namespace Go.Proofs.Ytfomanpehfdnbaa.shiftOnly
open Go.ChangeShapes Go.WideShapes Go.ChangeAt Go.RowKit Go.Deep Go.Proofs.Ytfomanpehfdnbaa.Base Go.Proofs.Ytfomanpehfdnbaa.Base2 Go.Proofs.Ytfomanpehfdnbaa.Base7 Go.Proofs.Ytfomanpehfdnbaa.Num44 Go.Proofs.Ytfomanpehfdnbaa.Num54 Go.Proofs.Ytfomanpehfdnbaa.Num65 Go.Proofs.Ytfomanpehfdnbaa.Calls120 Go.Proofs.Ytfomanpehfdnbaa.Calls121 Go.Proofs.Ytfomanpehfdnbaa.Calls123 Go.Proofs.Ytfomanpehfdnbaa.Calls124
set_option linter.unusedVariables false

theorem own : ownKnob Try.prog.godebug = none := by kernel_rfl

theorem laidOut : laidOutB Try.prog = true := by kernel_rfl

theorem cells2 : Try.prog.cellsOf 2 = 1 := by kernel_rfl

theorem cells4 : Try.prog.cellsOf 4 = 1 := by kernel_rfl

set_option maxRecDepth 100000 in
set_option maxHeartbeats 1000000 in
theorem walk (o0 : Option Addr) (c0 : Nat) (l0 : List Bool) (k0 : l0.length ≤ c0) (m0 : l0.length ≤ 9223372036854775807) (o1 : Option Addr) (c1 : Nat) (l1 : List Bool) (k1 : l1.length ≤ c1) (m1 : l1.length ≤ 9223372036854775807) (w : World) (r0 : BRow w o0 l0) (r1 : BRow w o1 l1) :
    Calls Try.prog 6 #[.slice o0 l0.length c0, .slice o1 l1.length c1] w fun e w' => e = .returned (.bool true) ∧ Below w.heap.size w w' := by
  by_cases h : 64 < l0.length
  · have cS := Short_bad o0 c0 l0 h w
    have h' : (64 : Int) < (l0.length : Int) := by omega
    generalize l0.length = N at *
    generalize l1.length = L at *
    go_enter Try.func6, Try.ntmps6
    go_wp2_with (go_at_call 11; refine cS.mono ?_; rintro e w2 ⟨rfl, hB2⟩)
    go_ret
    exact ⟨rfl, hB2⟩
  · obtain ⟨T, hT, hTl⟩ := shl_ex l0
    obtain ⟨T1, hT1, _⟩ := shl_ex [true]
    have hone := one_tap hT1
    have cS := Short_yes o0 c0 l0 T hT (by omega) w r0
    have cO : ∀ w' : World, Calls Try.prog 11 #[.slice (some ⟨w'.heap.size, 0, none⟩) 1 1] (w'.alloc (.cells #[.bool true] 4)) fun e w'' => (∃ bo cb, e = .returned (.tuple #[.slice bo 1 cb, .int .i64 0])) ∧ Below (w'.alloc (.cells #[.bool true] 4)).heap.size (w'.alloc (.cells #[.bool true] 4)) w'' := fun w' => by
      have hb : BRow (w'.alloc (.cells #[.bool true] 4)) (some ⟨w'.heap.size, 0, none⟩) [true] := ⟨fun e => (by cases e), fun ad e j u hu => by
        obtain rfl : (⟨w'.heap.size, 0, none⟩ : Addr) = ad := by simpa using e
        exact v_one j u hu⟩
      refine (Short_yes (some ⟨w'.heap.size, 0, none⟩) 1 [true] T1 hT1 (by decide) _ hb).mono fun e w'' h => ⟨?_, h.2⟩
      obtain ⟨bo, cb, h1, _, _⟩ := h.1
      rw [hone] at h1
      exact ⟨bo, cb, h1⟩
    have cM := hid (fun (r : Bool) (hr : r = true ↔ MkL l1 l0) (w' : World) (h' : Below w.heap.size w w') => makes_any o1 o0 c1 c0 l1 l0 r hr m1 (by omega) k0 w' (brow_below r1 h') (brow_below r0 h'))
    have h' : ¬ (64 : Int) < (l0.length : Int) := by omega
    have hTl' : (T.length : Int) ≤ 64 := by omega
    unfold RetBE at cS
    clear hT1 hone
    by_cases h2 : l0.length < 2 * T.length
    · have h2' : (l0.length : Int) < 2 * (T.length : Int) := by omega
      clear hT r0 r1 cM h2 hTl
      generalize l0.length = N at *
      generalize T.length = M at *
      generalize l1.length = L at *
      go_enter Try.func6, Try.ntmps6
      go_wp2_with (first
        | (go_at_call 11; refine cS.mono ?_; rintro e w2 ⟨⟨bo, cb, rfl, hcb, hb⟩, hB2⟩; have HB := hid hb; clear hb cS)
        | (go_at_call 11; refine (cO _).mono ?_; rintro e w3 ⟨⟨b3, c3, rfl⟩, hB3⟩; have hB23 := hid ((hB2.alloc hB2.size (.cells #[.bool true] 4)).trans (hB3.mono (by simp; have := hB2.size; omega))); clear cO))
      go_ret
      exact ⟨rfl, hB23.out⟩
    · have h2' : ¬ (l0.length : Int) < 2 * (T.length : Int) := by omega
      by_cases h3 : l1.length = T.length
      · have h3' : (l1.length : Int) = (T.length : Int) := by omega
        rcases Classical.em (MkL l1 l0) with hm | hm
        · have cM1 := cM.out true ⟨fun _ => hm, fun _ => rfl⟩
          have e := only_one hT (by omega) hm h3
          subst e
          have cE := hid (fun (bo : Option Addr) (cb : Nat) (w' : World) (h' : Below w.heap.size w w') (rb : BRow w' bo l1) => refBools_any o1 bo c1 cb l1 l1 true (by simp) m1 w' (brow_below r1 h') rb)
          clear hT r0 r1 cM h2 hTl hm h3 h3'
          generalize l0.length = N at *
          generalize l1.length = L at *
          go_enter Try.func6, Try.ntmps6
          go_wp2_with (first
            | (go_at_call 11; refine cS.mono ?_; rintro e w2 ⟨⟨bo, cb, rfl, hcb, hb⟩, hB2⟩; have HB := hid hb; clear hb cS)
            | (go_at_call 11; refine (cO _).mono ?_; rintro e w3 ⟨⟨b3, c3, rfl⟩, hB3⟩; have hBa := hB2.alloc hB2.size (.cells #[.bool true] 4); have hB23 := hid (hBa.trans (hB3.mono hBa.size)); have HB3 := hid (brow_below (brow_below HB.out ((Below.refl _ _).alloc (Nat.le_refl _) (.cells #[.bool true] 4))) hB3); clear cO hBa)
            | (go_at_call 13; refine (cM1 _ hB23.out).mono ?_; rintro e w4 ⟨rfl, hB4⟩; have hB24 := hid (below_trans hB23.out hB4); have HB4 := hid (brow_below HB3.out hB4))
            | (go_at_call 9; refine (cE.out _ _ _ hB24.out HB4.out).mono ?_; rintro e w5 ⟨rfl, hB5⟩))
          go_ret
          exact ⟨rfl, below_trans hB24.out hB5⟩
        · have cM1 := cM.out false ⟨fun e => (by cases e), fun e => absurd e hm⟩
          rw [h3] at cM1 ⊢
          clear hT r0 r1 cM h2 hTl hm h3 h3'
          generalize l0.length = N at *
          generalize T.length = M at *
          go_enter Try.func6, Try.ntmps6
          go_wp2_with (first
            | (go_at_call 11; refine cS.mono ?_; rintro e w2 ⟨⟨bo, cb, rfl, hcb, hb⟩, hB2⟩; have HB := hid hb; clear hb cS)
            | (go_at_call 11; refine (cO _).mono ?_; rintro e w3 ⟨⟨b3, c3, rfl⟩, hB3⟩; have hBa := hB2.alloc hB2.size (.cells #[.bool true] 4); have hB23 := hid (hBa.trans (hB3.mono hBa.size)); clear cO hBa)
            | (go_at_call 13; refine (cM1 _ hB23.out).mono ?_; rintro e w4 ⟨rfl, hB4⟩; have hB24 := hid (below_trans hB23.out hB4)))
          go_ret
          exact ⟨rfl, hB24.out⟩
      · have h3' : ¬ (l1.length : Int) = (T.length : Int) := by omega
        clear hT r0 r1 cM h2 hTl
        generalize l0.length = N at *
        generalize T.length = M at *
        generalize l1.length = L at *
        go_enter Try.func6, Try.ntmps6
        go_wp2_with (first
          | (go_at_call 11; refine cS.mono ?_; rintro e w2 ⟨⟨bo, cb, rfl, hcb, hb⟩, hB2⟩; have HB := hid hb; clear hb cS)
          | (go_at_call 11; refine (cO _).mono ?_; rintro e w3 ⟨⟨b3, c3, rfl⟩, hB3⟩; have hBa := hB2.alloc hB2.size (.cells #[.bool true] 4); have hB23 := hid (hBa.trans (hB3.mono hBa.size)); clear cO hBa))
        go_ret
        exact ⟨rfl, hB23.out⟩

set_option maxRecDepth 100000 in
theorem lifted (os : Os) (started : os.Started) (H : Type) (enc : TypeId × Value → H) :
    ReturnsInHanded {} Try.checked os 6 .any (Rows.shiftOnlySpec.pre6 enc Try.prog Try.f6 Rows.shiftOnlyRow.domain false) (Rows.shiftOnlySpec.post enc Try.prog Try.f6 false true false false) := by
  refine returnsInHanded_of_change (C := Try.checked) own started (by kernel_rfl) Try.func6
    (ChangeSpec.witness6 (enc := enc) (C := Try.checked) false ⟨#[], #[.slice none 0 0, .slice none 0 0], []⟩ 8 (by kernel_rfl) (by kernel_rfl) (by kernel_rfl) (by kernel_rfl)) ?_
  intro W base args ds gs before hval0 hW hcnd _
  have hval : ∀ (j : Nat) t v, Try.f6.params[j]? = some t → args[j]? = some v → Value.okWide Try.prog W .any base t v := hval0
  have hW' := hW
  obtain ⟨p, q, hA0, hV, rfl, _, _⟩ := hW
  have hA : DataW.TrodAll enc Try.prog W 0 (fun _ => true) true Try.f6.params.toList args.toList ds p := hA0
  rw [Try.params6] at hA hval
  obtain ⟨v0, v1, d0, d1, p0, p1, rfl, rfl, rfl, h0, h1⟩ := trodAll_two hA
  obtain ⟨rfl, rfl⟩ := trodVars_none hV
  have hsl0 := okWide_slice Try.underlying22 (hval 0 22 v0 rfl rfl)
  have hsl1 := okWide_slice Try.underlying22 (hval 1 22 v1 rfl rfl)
  clear hA0 hval0
  simp only [List.append_nil] at hW'
  have hlt0 : ∀ x ∈ p0, x.block < W.heap.size := fun x hx => by simpa using hW'.lt x (by simp [hx])
  have harg0 : ∀ (W' : World), Below W.heap.size W W' → DataW.Trod enc Try.prog W' 0 (fun b => decide (b < W.heap.size)) true 22 v0 d0 p0 :=
    fun W' hn => Below.trod laidOut (by kernel_rfl) (of_decide_eq_true (by kernel_rfl)) h0 hn hlt0
  obtain ⟨o0, c0, l0, rfl, r0, k0, m0⟩ := bools_view Try.underlying22 cells4 Try.underlying4 h0 hsl0
  have hlt1 : ∀ x ∈ p1, x.block < W.heap.size := fun x hx => by simpa using hW'.lt x (by simp [hx])
  have harg1 : ∀ (W' : World), Below W.heap.size W W' → DataW.Trod enc Try.prog W' 0 (fun b => decide (b < W.heap.size)) true 22 v1 d1 p1 :=
    fun W' hn => Below.trod laidOut (by kernel_rfl) (of_decide_eq_true (by kernel_rfl)) h1 hn hlt1
  obtain ⟨o1, c1, l1, rfl, r1, k1, m1⟩ := bools_view Try.underlying22 cells4 Try.underlying4 h1 hsl1
  refine (walk o0 c0 l0 k0 m0 o1 c1 l1 k1 m1 W r0 r1).mono fun e W' ⟨he, hg⟩ => ?_
  subst he
  refine ⟨_, rfl, _, _, _, [], p0 ++ (p1), [], hW', ?_, ?_, rfl, hg.frame _, fun h => by cases h⟩
  · exact trodAll_mk1 (shut_bool Try.underlying4 true)
  · exact trodAll_mk2 (harg0 _ hg) (harg1 _ hg)

theorem over : Rows.shiftOnlyRow.holds Try.pinned (OpenSpec.ofChange Rows.shiftOnlySpec) :=
  OpenClaim.holds_of_wide 6 Try.f6 rfl rfl rfl rfl rfl rfl rfl ⟨rfl, rfl, rfl, rfl, rfl⟩ rfl rfl rfl rfl rfl (by kernel_rfl) Try.func6 (by kernel_rfl)
    (of_decide_eq_true (by kernel_rfl)) (by unfold Func.isWrapper; first | (rw [if_pos (by decide +kernel)]; kernel_rfl) | (rw [if_neg (by decide +kernel)]; exact ⟨rfl, rfl⟩))
    (fun os started H enc _ => lifted os started H enc)

/-- ████ THE STATEMENT ████ -/
theorem proved : Rows.ShiftOnlySaid :=
  over

end Go.Proofs.Ytfomanpehfdnbaa.shiftOnly
