/-
  SIEGENTHALER: for any function of which so many variables tell nothing, these and the degree that the program tells are no more than its variables; of no variables that is always so; and out of range it tells an error. No condition.
-/
import Derived.Test.YtpnjpkmlfbcnjabRows
import Derived.Test.YtpnjpkmlfbcnjabCalls117
import Derived.Test.YtpnjpkmlfbcnjabNum59
import Derived.WalkKit
import Derived.ProofKit
import Derived.OpenShut
import Derived.Carry
namespace Go.Proofs.Ytpnjpkmlfbcnjab.walshSiegenthaler
open Go.ChangeShapes Go.WideShapes Go.ChangeAt Go.RowKit Go.Deep Go.Proofs.Ytpnjpkmlfbcnjab.Base Go.Proofs.Ytpnjpkmlfbcnjab.Base2 Go.Proofs.Ytpnjpkmlfbcnjab.Num34 Go.Proofs.Ytpnjpkmlfbcnjab.Base4 Go.Proofs.Ytpnjpkmlfbcnjab.Base6 Go.Proofs.Ytpnjpkmlfbcnjab.Num41 Go.Proofs.Ytpnjpkmlfbcnjab.Num42 Go.Proofs.Ytpnjpkmlfbcnjab.Num43 Go.Proofs.Ytpnjpkmlfbcnjab.Num57 Go.Proofs.Ytpnjpkmlfbcnjab.Num58 Go.Proofs.Ytpnjpkmlfbcnjab.Num59 Go.Proofs.Ytpnjpkmlfbcnjab.Calls110 Go.Proofs.Ytpnjpkmlfbcnjab.Calls111 Go.Proofs.Ytpnjpkmlfbcnjab.Calls112 Go.Proofs.Ytpnjpkmlfbcnjab.Calls113 Go.Proofs.Ytpnjpkmlfbcnjab.Calls114 Go.Proofs.Ytpnjpkmlfbcnjab.Calls115 Go.Proofs.Ytpnjpkmlfbcnjab.Calls116 Go.Proofs.Ytpnjpkmlfbcnjab.Calls117
set_option linter.unusedVariables false

theorem own : ownKnob Try.prog.godebug = none := by kernel_rfl

theorem laidOut : laidOutB Try.prog = true := by kernel_rfl

theorem cells2 : Try.prog.cellsOf 2 = 1 := by kernel_rfl

theorem bool_of (Pp : Prop) : ∃ b : Bool, (b = true ↔ Pp) := by
  rcases Classical.em Pp with h | h
  · exact ⟨true, ⟨fun _ => h, fun _ => rfl⟩⟩
  · exact ⟨false, ⟨fun e => (by cases e), fun e => absurd e h⟩⟩

set_option maxRecDepth 100000 in
theorem walk (n : Int) (wn : (Lit.int .i64 n).wf = true) (u : Int) (wu : (Lit.int .u32 u).wf = true) (k : Int) (wk : (Lit.int .i64 k).wf = true) (w : World) :
    Calls Try.prog 3 #[.int .i64 n, .int .u32 u, .int .i64 k] w fun e w' => e = .returned (.bool true) ∧ Below w.heap.size w w' := by
  obtain ⟨f, hf, rfl⟩ := u32_of wu
  clear wn wu wk
  by_cases hF : FnOk n f
  · have cC := fun w => fn_yes n f hf hF w
    obtain ⟨m, N, rfl, hm, hN, hfN⟩ := fn_nat hF
    have cD := fun w => Degree_yes m N f hf hF hm hN w
    by_cases h0 : k < 0
    · have cA := Immune_far m N f k hf hF hm hN (.inl h0) w
      clear hF hN hfN
      generalize df m f = d at *
      go_enter Try.func3, Try.ntmps3
      go_wp2_with (first
        | (go_at_call 5; refine cA.mono ?_; rintro e w1 ⟨rfl, hB⟩)
        | (go_at_call 6; refine (cD _).mono ?_; rintro e w2 ⟨rfl, hB2⟩)
        | (go_at_call 7; refine (cC _).mono ?_; rintro e w3 ⟨rfl, hw⟩; subst w3))
      go_ret
      exact ⟨rfl, below_trans hB hB2⟩
    · by_cases h1 : (m : Int) < k
      · have cA := Immune_far m N f k hf hF hm hN (.inr h1) w
        have h0' : decide (k < 0) = false := by simpa using h0
        clear hF hN hfN
        generalize df m f = d at *
        go_enter Try.func3, Try.ntmps3
        go_wp2_with (first
          | (go_at_call 5; refine cA.mono ?_; rintro e w1 ⟨rfl, hB⟩)
          | (go_at_call 6; refine (cD _).mono ?_; rintro e w2 ⟨rfl, hB2⟩)
          | (go_at_call 7; refine (cC _).mono ?_; rintro e w3 ⟨rfl, hw⟩; subst w3))
        go_ret
        exact ⟨rfl, below_trans hB hB2⟩
      · obtain ⟨q, rfl⟩ : ∃ q : Nat, k = (q : Int) := ⟨k.toNat, by omega⟩
        have hq : q ≤ m := by omega
        obtain ⟨b, hb⟩ := bool_of (Im m (bv f) q)
        have cA := Immune_yes m N f q hf hF hm hN hq b (hb.trans (by rw [hN]; exact (imW_iff hm hq).symm)) w
        have cZ := fun w => Immune_yes m N f 0 hf hF hm hN (Nat.zero_le _) true (by rw [hN]; exact ⟨fun _ => im_none hm, fun _ => rfl⟩) w
        have cZ' : ∀ w, Calls Try.prog 5 #[.int .i64 (m : Int), .int .u32 (f : Int), .int .i64 0] w fun e w' => e = .returned (.tuple #[.bool true, .int .i64 0]) ∧ Below w.heap.size w w' := cZ
        have hd1 := df_le (f := f) hm
        have hd2 : -1 ≤ df m f := (dg_bd (ab m f) (2 ^ m)).1
        have hd3 : b = true → df m f + (q : Int) ≤ (m : Int) := fun h => df_im hm hq (hb.1 h)
        have h0' : decide ((q : Int) < 0) = false := by simp
        have h1' : decide ((m : Int) < (q : Int)) = false := by simpa using h1
        have h2' : ¬ m < q := by omega
        have h3' : decide (m < q) = false := by simpa using h2'
        clear hF hN hfN hb cZ
        generalize df m f = d at *
        cases b
        · clear hd3
          go_enter Try.func3, Try.ntmps3
          go_wp2_with (first
            | (go_at_call 5; refine cA.mono ?_; rintro e w1 ⟨rfl, hB⟩; clear cA)
            | (go_at_call 6; refine (cD _).mono ?_; rintro e w2 ⟨rfl, hB2⟩)
            | (go_at_call 7; refine (cC _).mono ?_; rintro e w3 ⟨rfl, hw⟩; subst w3)
            | (go_at_call 5; refine (cZ' _).mono ?_; rintro e w4 ⟨rfl, hB4⟩))
          go_ret
          exact ⟨rfl, below_trans (below_trans hB hB2) hB4⟩
        · have hd4 := hd3 rfl
          clear hd3
          go_enter Try.func3, Try.ntmps3
          go_wp2_with (first
            | (go_at_call 5; refine cA.mono ?_; rintro e w1 ⟨rfl, hB⟩; clear cA)
            | (go_at_call 6; refine (cD _).mono ?_; rintro e w2 ⟨rfl, hB2⟩)
            | (go_at_call 7; refine (cC _).mono ?_; rintro e w3 ⟨rfl, hw⟩; subst w3)
            | (go_at_call 5; refine (cZ' _).mono ?_; rintro e w4 ⟨rfl, hB4⟩))
          go_ret
          exact ⟨rfl, below_trans (below_trans hB hB2) hB4⟩
  · have cC := fun w => fn_no n f hf hF w
    have cA := Immune_no n f k hf hF w
    have cD := Degree_no n f hf hF w
    clear hF
    go_enter Try.func3, Try.ntmps3
    go_wp2_with (first
      | (go_at_call 5; refine cA.mono ?_; rintro e w1 ⟨rfl, hw⟩; subst w1)
      | (go_at_call 6; refine cD.mono ?_; rintro e w2 ⟨rfl, hw⟩; subst w2)
      | (go_at_call 7; refine (cC _).mono ?_; rintro e w2 ⟨rfl, hw⟩; subst w2))
    go_ret
    exact ⟨rfl, Below.refl _ _⟩

set_option maxRecDepth 100000 in
theorem lifted (os : Os) (started : os.Started) (H : Type) (enc : TypeId × Value → H) :
    ReturnsInHanded {} Try.checked os 3 .any (Rows.walshSiegenthalerSpec.pre6 enc Try.prog Try.f3 Rows.walshSiegenthalerRow.domain false) (Rows.walshSiegenthalerSpec.post enc Try.prog Try.f3 false true false false) := by
  refine returnsInHanded_of_change (C := Try.checked) own started (by kernel_rfl) Try.func3
    (ChangeSpec.witness6 (enc := enc) (C := Try.checked) false ⟨#[], #[.int .i64 0, .int .u32 0, .int .i64 0], []⟩ 8 (by kernel_rfl) (by kernel_rfl) (by kernel_rfl) (by kernel_rfl)) ?_
  intro W base args ds gs before hval0 hW hcnd _
  have hval : ∀ (j : Nat) t v, Try.f3.params[j]? = some t → args[j]? = some v → Value.okWide Try.prog W .any base t v := hval0
  have hW' := hW
  obtain ⟨p, q, hA0, hV, rfl, _, _⟩ := hW
  have hA : DataW.TrodAll enc Try.prog W 0 (fun _ => true) true Try.f3.params.toList args.toList ds p := hA0
  rw [Try.params3] at hA hval
  obtain ⟨v0, v1, v2, d0, d1, d2, p0, p1, p2, rfl, rfl, rfl, h0, h1, h2⟩ := trodAll_three hA
  obtain ⟨rfl, rfl⟩ := trodVars_none hV
  obtain ⟨a0, rfl, rfl, rfl, w0⟩ := open_int Try.underlying3 (hval 0 3 v0 rfl rfl) h0
  obtain ⟨a1, rfl, rfl, rfl, w1⟩ := open_int Try.underlying22 (hval 1 22 v1 rfl rfl) h1
  obtain ⟨a2, rfl, rfl, rfl, w2⟩ := open_int Try.underlying3 (hval 2 3 v2 rfl rfl) h2
  clear hA0 hval0
  simp only [List.append_nil] at hW'
  refine (walk a0 w0 a1 w1 a2 w2 W ).mono fun e W' ⟨he, hg⟩ => ?_
  subst he
  refine ⟨_, rfl, _, _, _, [], ([] : List MemPlace) ++ (([] : List MemPlace) ++ (([] : List MemPlace))), [], hW', ?_, ?_, rfl, hg.frame _, fun h => by cases h⟩
  · exact trodAll_mk1 (shut_bool Try.underlying4 true)
  · exact trodAll_mk3 (shut_int Try.underlying3 w0) (shut_int Try.underlying22 w1) (shut_int Try.underlying3 w2)

theorem over : Rows.walshSiegenthalerRow.holds Try.pinned (OpenSpec.ofChange Rows.walshSiegenthalerSpec) :=
  OpenClaim.holds_of_wide 3 Try.f3 rfl rfl rfl rfl rfl rfl rfl ⟨rfl, rfl, rfl, rfl, rfl⟩ rfl rfl rfl rfl rfl (by kernel_rfl) Try.func3 (by kernel_rfl)
    (of_decide_eq_true (by kernel_rfl)) (by unfold Func.isWrapper; first | (rw [if_pos (by decide +kernel)]; kernel_rfl) | (rw [if_neg (by decide +kernel)]; exact ⟨rfl, rfl⟩))
    (fun os started H enc _ => lifted os started H enc)

/-- ████ THE STATEMENT ████ -/
theorem proved : Rows.WalshSiegenthalerSaid :=
  over

end Go.Proofs.Ytpnjpkmlfbcnjab.walshSiegenthaler
