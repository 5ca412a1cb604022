/-
  For any list of bits and one bit more: the shortest rule has as many taps, or what is left of one more than the list's length, if that is more: at every input.
-/
import Derived.Test.YtfomanpehfdnbaaRows
import Derived.Test.YtfomanpehfdnbaaCalls121
import Derived.Test.YtfomanpehfdnbaaCalls123
import Derived.Test.YtfomanpehfdnbaaCalls124
import Derived.WalkKit
import Derived.ProofKit
import Derived.OpenShut
import Derived.Carry
namespace Go.Proofs.Ytfomanpehfdnbaa.shiftGrows
open Go.ChangeShapes Go.WideShapes Go.ChangeAt Go.RowKit Go.Deep Go.Proofs.Ytfomanpehfdnbaa.Base Go.Proofs.Ytfomanpehfdnbaa.Base2 Go.Proofs.Ytfomanpehfdnbaa.Base7 Go.Proofs.Ytfomanpehfdnbaa.Num44 Go.Proofs.Ytfomanpehfdnbaa.Num54 Go.Proofs.Ytfomanpehfdnbaa.Num65 Go.Proofs.Ytfomanpehfdnbaa.Calls120 Go.Proofs.Ytfomanpehfdnbaa.Calls121 Go.Proofs.Ytfomanpehfdnbaa.Calls123 Go.Proofs.Ytfomanpehfdnbaa.Calls124
set_option linter.unusedVariables false

theorem own : ownKnob Try.prog.godebug = none := by kernel_rfl

theorem laidOut : laidOutB Try.prog = true := by kernel_rfl

theorem cells2 : Try.prog.cellsOf 2 = 1 := by kernel_rfl

theorem cells4 : Try.prog.cellsOf 4 = 1 := by kernel_rfl

set_option maxRecDepth 100000 in
set_option maxHeartbeats 2000000 in
theorem walk (o0 : Option Addr) (c0 : Nat) (l0 : List Bool) (k0 : l0.length ≤ c0) (m0 : l0.length ≤ 9223372036854775807) (b : Bool) (w : World) (r0 : BRow w o0 l0) :
    Calls Try.prog 7 #[.slice o0 l0.length c0, .bool b] w fun e w' => e = .returned (.bool true) ∧ Below w.heap.size w w' := by
  by_cases h : 64 ≤ l0.length
  · have h' : (64 : Int) ≤ (l0.length : Int) := by omega
    generalize l0.length = N at *
    go_enter Try.func7, Try.ntmps7
    go_wp2
    go_ret
    exact ⟨rfl, Below.refl _ _⟩
  · obtain ⟨i0, hi, hz0, hz1', hz2⟩ := infoBo_ex
    have hll : (l0 ++ [b]).length = l0.length + 1 := by simp
    obtain ⟨T, hT, hTl⟩ := shl_ex l0
    obtain ⟨U, hU, hUl⟩ := shl_ex (l0 ++ [b])
    have cS := hid (fun (w' : World) (h' : Below w.heap.size w w') => Short_yes o0 c0 l0 T hT (by omega) w' (brow_below r0 h'))
    have cU := hid (fun (o : Option Addr) (c : Nat) (w' : World) (hb : BRow w' o (l0 ++ [b])) => Short_yes o c (l0 ++ [b]) U hU (by omega) w' hb)
    have cM := hid (fun (o p : Option Addr) (c d : Nat) (r : Bool) (hr : r = true ↔ MkL T (l0 ++ [b])) (hd : (l0 ++ [b]).length ≤ d) (w' : World) (hb : BRow w' o T) (hm : BRow w' p (l0 ++ [b])) => makes_any o p c d T (l0 ++ [b]) r hr (by omega) (by omega) hd w' hb hm)
    have hsame := hid (fun hm => grow_same hT hU hm)
    have hmore := hid (fun hm => grow_more hT hU hm)
    unfold RetBE at cS cU
    rw [hll] at cU cM
    have h' : ¬ (64 : Int) ≤ (l0.length : Int) := by omega
    have hN : l0.length < 64 := by omega
    have hTi : ¬ (l0.length : Int) < (T.length : Int) := by omega
    have hTi2 : decide ((l0.length : Int) < (T.length : Int)) = false := by simp; omega
    have own0 := hid (owns_empty w w.heap.size 4 1 (Nat.le_refl _))
    have HR1 := hid (vrow_below r0 ((Below.refl w.heap.size w).alloc (Nat.le_refl _) (.cells #[] 4)) (Nat.le_refl _))
    have hlk : Hid (l0.length = (bv l0).length) := by show _ = _; rw [bv_length]
    have HUb : U.length ≤ 64 := by omega
    obtain ⟨r, hr⟩ : ∃ r : Bool, r = true ↔ MkL T (l0 ++ [b]) := by
      rcases Classical.em (MkL T (l0 ++ [b])) with hm | hm
      · exact ⟨true, fun _ => hm, fun _ => rfl⟩
      · exact ⟨false, fun e => (by cases e), fun e => absurd e hm⟩
    have cM1 := hid (fun (o p : Option Addr) (c d : Nat) (hd : l0.length + 1 ≤ d) (w' : World) (hb : BRow w' o T) (hm : BRow w' p (l0 ++ [b])) => cM.out o p c d r hr hd w' hb hm)
    have hres : (r = true ∧ U.length = T.length) ∨ (r = false ∧ U.length = max T.length (l0.length + 1 - T.length)) := by
      cases r with
      | true => exact .inl ⟨rfl, hsame.out (hr.1 rfl)⟩
      | false => exact .inr ⟨rfl, hmore.out (fun hm => by have := hr.2 hm; cases this)⟩
    clear hT hU hTl hUl hll cM hsame hmore r0 hr h
    have hsn := hid (bv_snoc l0 b)
    obtain ⟨X, hX⟩ : ∃ X, X = l0 ++ [b] := ⟨_, rfl⟩
    rw [← hX] at hsn cU cM1
    clear hX
    have go : ∀ (hb : Bool), hb = hb := fun _ => rfl
    clear go
    obtain ⟨Y, hY⟩ : ∃ Y, Y = bv l0 := ⟨_, rfl⟩
    have hone : Hid (∀ u ∈ Y, u.oneCell' = true) := by subst hY; exact bv_one l0
    unfold BRow at HR1
    have HR2 : Hid (VRow (w.alloc (.cells #[] 4)) o0 Y) := by subst hY; exact HR1
    rw [← hY] at hsn hlk
    clear hY HR1
    generalize l0.length = N at *
    generalize hMe : T.length = M at *
    generalize U.length = L at *
    rcases hres with ⟨rfl, e⟩ | ⟨rfl, e⟩
    · subst e
      clear hMe
      go_enter Try.func7, Try.ntmps7
      go_wp2_with (first
        | (at_builtin; refine wpList_copyV _ rfl _ _ 22 rfl w.heap.size 4 i0 (.bool false) 1 Try.underlying22 hi hz0 hz1' hz2 rfl (by decide) (by decide) w.heap.size rfl own0.out o0 N c0 Y rfl hlk.out HR2.out hone.out (by omega) (by simp) ?_
           intro g3 c3 w3 hown3 hgrow3 hg3
           have HO3 := hid hown3
           have HB3 := hid (v_grow ((Below.refl w.heap.size w).alloc (Nat.le_refl _) (.cells #[] 4)) (Nat.le_refl _) own0.out hgrow3)
           have hs3 := HB3.out.size
           clear hown3 hgrow3 own0)
        | (at_builtin; refine wpList_append_own0 _ rfl _ _ 22 rfl w.heap.size 4 i0 (.bool false) 1 1 Try.underlying22 hi hz0 hz1' hz2 rfl (by decide) _ N _ rfl (HO3.out.alloc _) ⟨w3.heap.size, 0, none⟩ 1 1 [.bool b] rfl rfl v_one (by simp [Value.oneCell']) (by omega) (by unfold maxLen; omega) (by omega) (by simp; omega) ?_
           intro g4 c4 w4 hown4 hgrow4 hor4 hg4
           have HB4 := hid (v_snoc HB3.out (Nat.le_refl _) HO3.out hgrow4)
           obtain ⟨hc4, HBR4⟩ : N + 1 ≤ c4 ∧ Hid (BRow w4 (some ⟨g4, 0, none⟩) X) := (by
             have h1 := hown4
             rw [← hsn.out] at h1
             obtain ⟨ao', cap', e1, e2, e3⟩ := b_owns h1
             have e4 := Value.slice.inj e1
             rw [e4.1, e4.2.1, e4.2.2]; exact ⟨e2, e3⟩)
           clear hown4 hgrow4 hor4 HO3)
        | (go_at_call 11; refine (cS.out _ HB4.out).mono ?_; rintro e w5 ⟨⟨b5, c5, rfl, hc5, hb5⟩, hB5⟩; have HB5 := hid (below_trans HB4.out hB5); have HT5 := hid hb5; have HX5 := hid (brow_below HBR4.out hB5); clear hb5 cS)
        | (go_at_call 11; refine (cU.out _ _ _ HX5.out).mono ?_; rintro e w6 ⟨⟨b6, c6, rfl, hc6, hb6⟩, hB6⟩; have HB6 := hid (below_trans HB5.out hB6); have HT6 := hid (brow_below HT5.out hB6); have HX6 := hid (brow_below HX5.out hB6); clear hb6)
        | (go_at_call 13; refine (cM1.out _ _ _ _ hc4 _ HT6.out HX6.out).mono ?_; rintro e w7 ⟨rfl, hB7⟩))
      go_ret
      exact ⟨rfl, below_trans HB6.out hB7⟩
    · clear hMe
      have hsub : (N : Int) + 1 - (M : Int) = ((N + 1 - M : Nat) : Int) := by omega
      have hK : N + 1 - M ≤ 64 := by omega
      obtain ⟨K, hK'⟩ : ∃ K, K = N + 1 - M := ⟨_, rfl⟩
      rw [← hK'] at e hsub hK
      clear hK'
      by_cases hlt : K < M
      · have hlt' : (K : Int) < (M : Int) := by omega
        obtain rfl : M = L := by omega
        clear e
        go_enter Try.func7, Try.ntmps7
        go_wp2_with (first
          | (at_builtin; refine wpList_copyV _ rfl _ _ 22 rfl w.heap.size 4 i0 (.bool false) 1 Try.underlying22 hi hz0 hz1' hz2 rfl (by decide) (by decide) w.heap.size rfl own0.out o0 N c0 Y rfl hlk.out HR2.out hone.out (by omega) (by simp) ?_
             intro g3 c3 w3 hown3 hgrow3 hg3
             have HO3 := hid hown3
             have HB3 := hid (v_grow ((Below.refl w.heap.size w).alloc (Nat.le_refl _) (.cells #[] 4)) (Nat.le_refl _) own0.out hgrow3)
             have hs3 := HB3.out.size
             clear hown3 hgrow3 own0)
          | (at_builtin; refine wpList_append_own0 _ rfl _ _ 22 rfl w.heap.size 4 i0 (.bool false) 1 1 Try.underlying22 hi hz0 hz1' hz2 rfl (by decide) _ N _ rfl (HO3.out.alloc _) ⟨w3.heap.size, 0, none⟩ 1 1 [.bool b] rfl rfl v_one (by simp [Value.oneCell']) (by omega) (by unfold maxLen; omega) (by omega) (by simp; omega) ?_
             intro g4 c4 w4 hown4 hgrow4 hor4 hg4
             have HB4 := hid (v_snoc HB3.out (Nat.le_refl _) HO3.out hgrow4)
             obtain ⟨hc4, HBR4⟩ : N + 1 ≤ c4 ∧ Hid (BRow w4 (some ⟨g4, 0, none⟩) X) := (by
               have h1 := hown4
               rw [← hsn.out] at h1
               obtain ⟨ao', cap', e1, e2, e3⟩ := b_owns h1
               have e4 := Value.slice.inj e1
               rw [e4.1, e4.2.1, e4.2.2]; exact ⟨e2, e3⟩)
             clear hown4 hgrow4 hor4 HO3)
          | (go_at_call 11; refine (cS.out _ HB4.out).mono ?_; rintro e w5 ⟨⟨b5, c5, rfl, hc5, hb5⟩, hB5⟩; have HB5 := hid (below_trans HB4.out hB5); have HT5 := hid hb5; have HX5 := hid (brow_below HBR4.out hB5); clear hb5 cS)
          | (go_at_call 11; refine (cU.out _ _ _ HX5.out).mono ?_; rintro e w6 ⟨⟨b6, c6, rfl, hc6, hb6⟩, hB6⟩; have HB6 := hid (below_trans HB5.out hB6); have HT6 := hid (brow_below HT5.out hB6); have HX6 := hid (brow_below HX5.out hB6); clear hb6)
          | (go_at_call 13; refine (cM1.out _ _ _ _ hc4 _ HT6.out HX6.out).mono ?_; rintro e w7 ⟨rfl, hB7⟩))
        go_ret
        exact ⟨rfl, below_trans HB6.out hB7⟩
      · have hlt' : ¬ (K : Int) < (M : Int) := by omega
        obtain rfl : K = L := by omega
        clear e
        go_enter Try.func7, Try.ntmps7
        go_wp2_with (first
          | (at_builtin; refine wpList_copyV _ rfl _ _ 22 rfl w.heap.size 4 i0 (.bool false) 1 Try.underlying22 hi hz0 hz1' hz2 rfl (by decide) (by decide) w.heap.size rfl own0.out o0 N c0 Y rfl hlk.out HR2.out hone.out (by omega) (by simp) ?_
             intro g3 c3 w3 hown3 hgrow3 hg3
             have HO3 := hid hown3
             have HB3 := hid (v_grow ((Below.refl w.heap.size w).alloc (Nat.le_refl _) (.cells #[] 4)) (Nat.le_refl _) own0.out hgrow3)
             have hs3 := HB3.out.size
             clear hown3 hgrow3 own0)
          | (at_builtin; refine wpList_append_own0 _ rfl _ _ 22 rfl w.heap.size 4 i0 (.bool false) 1 1 Try.underlying22 hi hz0 hz1' hz2 rfl (by decide) _ N _ rfl (HO3.out.alloc _) ⟨w3.heap.size, 0, none⟩ 1 1 [.bool b] rfl rfl v_one (by simp [Value.oneCell']) (by omega) (by unfold maxLen; omega) (by omega) (by simp; omega) ?_
             intro g4 c4 w4 hown4 hgrow4 hor4 hg4
             have HB4 := hid (v_snoc HB3.out (Nat.le_refl _) HO3.out hgrow4)
             obtain ⟨hc4, HBR4⟩ : N + 1 ≤ c4 ∧ Hid (BRow w4 (some ⟨g4, 0, none⟩) X) := (by
               have h1 := hown4
               rw [← hsn.out] at h1
               obtain ⟨ao', cap', e1, e2, e3⟩ := b_owns h1
               have e4 := Value.slice.inj e1
               rw [e4.1, e4.2.1, e4.2.2]; exact ⟨e2, e3⟩)
             clear hown4 hgrow4 hor4 HO3)
          | (go_at_call 11; refine (cS.out _ HB4.out).mono ?_; rintro e w5 ⟨⟨b5, c5, rfl, hc5, hb5⟩, hB5⟩; have HB5 := hid (below_trans HB4.out hB5); have HT5 := hid hb5; have HX5 := hid (brow_below HBR4.out hB5); clear hb5 cS)
          | (go_at_call 11; refine (cU.out _ _ _ HX5.out).mono ?_; rintro e w6 ⟨⟨b6, c6, rfl, hc6, hb6⟩, hB6⟩; have HB6 := hid (below_trans HB5.out hB6); have HT6 := hid (brow_below HT5.out hB6); have HX6 := hid (brow_below HX5.out hB6); clear hb6)
          | (go_at_call 13; refine (cM1.out _ _ _ _ hc4 _ HT6.out HX6.out).mono ?_; rintro e w7 ⟨rfl, hB7⟩))
        go_ret
        exact ⟨rfl, below_trans HB6.out hB7⟩

set_option maxRecDepth 100000 in
theorem lifted (os : Os) (started : os.Started) (H : Type) (enc : TypeId × Value → H) :
    ReturnsInHanded {} Try.checked os 7 .any (Rows.shiftGrowsSpec.pre6 enc Try.prog Try.f7 Rows.shiftGrowsRow.domain false) (Rows.shiftGrowsSpec.post enc Try.prog Try.f7 false true false false) := by
  refine returnsInHanded_of_change (C := Try.checked) own started (by kernel_rfl) Try.func7
    (ChangeSpec.witness6 (enc := enc) (C := Try.checked) false ⟨#[], #[.slice none 0 0, .bool false], []⟩ 8 (by kernel_rfl) (by kernel_rfl) (by kernel_rfl) (by kernel_rfl)) ?_
  intro W base args ds gs before hval0 hW hcnd _
  have hval : ∀ (j : Nat) t v, Try.f7.params[j]? = some t → args[j]? = some v → Value.okWide Try.prog W .any base t v := hval0
  have hW' := hW
  obtain ⟨p, q, hA0, hV, rfl, _, _⟩ := hW
  have hA : DataW.TrodAll enc Try.prog W 0 (fun _ => true) true Try.f7.params.toList args.toList ds p := hA0
  rw [Try.params7] at hA hval
  obtain ⟨v0, v1, d0, d1, p0, p1, rfl, rfl, rfl, h0, h1⟩ := trodAll_two hA
  obtain ⟨rfl, rfl⟩ := trodVars_none hV
  have hsl0 := okWide_slice Try.underlying22 (hval 0 22 v0 rfl rfl)
  obtain ⟨a1, rfl, rfl, rfl⟩ := open_bool Try.underlying4 (hval 1 4 v1 rfl rfl) h1
  clear hA0 hval0
  simp only [List.append_nil] at hW'
  have hlt0 : ∀ x ∈ p0, x.block < W.heap.size := fun x hx => by simpa using hW'.lt x (by simp [hx])
  have harg0 : ∀ (W' : World), Below W.heap.size W W' → DataW.Trod enc Try.prog W' 0 (fun b => decide (b < W.heap.size)) true 22 v0 d0 p0 :=
    fun W' hn => Below.trod laidOut (by kernel_rfl) (of_decide_eq_true (by kernel_rfl)) h0 hn hlt0
  obtain ⟨o0, c0, l0, rfl, r0, k0, m0⟩ := bools_view Try.underlying22 cells4 Try.underlying4 h0 hsl0
  refine (walk o0 c0 l0 k0 m0 a1 W r0).mono fun e W' ⟨he, hg⟩ => ?_
  subst he
  refine ⟨_, rfl, _, _, _, [], p0 ++ (([] : List MemPlace)), [], hW', ?_, ?_, rfl, hg.frame _, fun h => by cases h⟩
  · exact trodAll_mk1 (shut_bool Try.underlying4 true)
  · exact trodAll_mk2 (harg0 _ hg) (shut_bool Try.underlying4 a1)

theorem over : Rows.shiftGrowsRow.holds Try.pinned (OpenSpec.ofChange Rows.shiftGrowsSpec) :=
  OpenClaim.holds_of_wide 7 Try.f7 rfl rfl rfl rfl rfl rfl rfl ⟨rfl, rfl, rfl, rfl, rfl⟩ rfl rfl rfl rfl rfl (by kernel_rfl) Try.func7 (by kernel_rfl)
    (of_decide_eq_true (by kernel_rfl)) (by unfold Func.isWrapper; first | (rw [if_pos (by decide +kernel)]; kernel_rfl) | (rw [if_neg (by decide +kernel)]; exact ⟨rfl, rfl⟩))
    (fun os started H enc _ => lifted os started H enc)

/-- ████ THE STATEMENT ████ -/
theorem proved : Rows.ShiftGrowsSaid :=
  over

end Go.Proofs.Ytfomanpehfdnbaa.shiftGrows
