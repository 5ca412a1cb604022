/-
  For any function the program tells its waves, as the document says (O1): of what is no function it tells ErrRange and no list. No condition.
-/
import Derived.Test.YtpnjpkmlfbcnjaaRows
import Derived.Test.YtpnjpkmlfbcnjaaCalls117
import Derived.WalkKit
import Derived.ProofKit
import Derived.OpenShut
import Derived.Carry
namespace Go.Proofs.Ytpnjpkmlfbcnjaa.walshWaves
open Go.ChangeShapes Go.WideShapes Go.ChangeAt Go.RowKit Go.Deep Go.Proofs.Ytpnjpkmlfbcnjaa.Base Go.Proofs.Ytpnjpkmlfbcnjaa.Base2 Go.Proofs.Ytpnjpkmlfbcnjaa.Num34 Go.Proofs.Ytpnjpkmlfbcnjaa.Base4 Go.Proofs.Ytpnjpkmlfbcnjaa.Base6 Go.Proofs.Ytpnjpkmlfbcnjaa.Num41 Go.Proofs.Ytpnjpkmlfbcnjaa.Num42 Go.Proofs.Ytpnjpkmlfbcnjaa.Num43 Go.Proofs.Ytpnjpkmlfbcnjaa.Num57 Go.Proofs.Ytpnjpkmlfbcnjaa.Num58 Go.Proofs.Ytpnjpkmlfbcnjaa.Calls110 Go.Proofs.Ytpnjpkmlfbcnjaa.Calls111 Go.Proofs.Ytpnjpkmlfbcnjaa.Calls112 Go.Proofs.Ytpnjpkmlfbcnjaa.Calls113 Go.Proofs.Ytpnjpkmlfbcnjaa.Calls114 Go.Proofs.Ytpnjpkmlfbcnjaa.Calls115 Go.Proofs.Ytpnjpkmlfbcnjaa.Calls116 Go.Proofs.Ytpnjpkmlfbcnjaa.Calls117
set_option linter.unusedVariables false

theorem own : ownKnob Try.prog.godebug = none := by kernel_rfl

theorem laidOut : laidOutB Try.prog = true := by kernel_rfl

theorem cells2 : Try.prog.cellsOf 2 = 1 := by kernel_rfl

set_option maxRecDepth 100000 in
theorem walk (n : Int) (wn : (Lit.int .i64 n).wf = true) (u : Int) (wu : (Lit.int .u32 u).wf = true) (w : World) :
    Calls Try.prog 3 #[.int .i64 n, .int .u32 u] w fun e w' => e = .returned (.bool true) ∧ Below w.heap.size w w' := by
  obtain ⟨f, hf, rfl⟩ := u32_of wu
  clear wn wu
  by_cases hF : FnOk n f
  · have cC := fun w => check_yes n f hf hF w
    obtain ⟨m, N, rfl, hm, hN, hfN⟩ := fn_nat hF
    have cA := Waves_yes m N f hf hF hm hN w
    have cR := fun w => refWaves_any m N f hf hm hN w
    have hNN := pow_n hm hN
    unfold RetL at cR
    simp only [mk_length] at cR
    clear hF hN hfN
    go_enter Try.func3, Try.ntmps3
    go_wp2_with (first
      | (go_at_call 9; refine cA.mono ?_; rintro e w1 ⟨rfl, hO, hB⟩)
      | (go_at_call 10; refine (cC _).mono ?_; rintro e w2 ⟨rfl, hw⟩; subst w2)
      | (go_at_call 11; refine (cR _).mono ?_; rintro e w2 ⟨⟨bo, cb, rfl, hcb, hr⟩, hB2⟩))
    have O1 := hid (hO.below hB2)
    have R1 := hid hr
    have B1 := hid (below_trans hB hB2)
    clear hO hB hB2 hr
    go_loopw [8] (fun i wr => ∃ k : Nat, i = .int .i64 (k : Int) ∧ k ≤ N ∧ Hid (OwnE 3 wr w.heap.size w.heap.size N N (wf m f)) ∧ Hid (IRow wr bo (mk N (wf m f))) ∧ Hid (Below w.heap.size w wr)) (fun i wr => ((N : Int) - intOf i).toNat)
    case atStart => exact ⟨0, rfl, by omega, O1, R1, B1⟩
    case round =>
      obtain ⟨k, rfl, hk, hO, hR, hB⟩ := hrel
      by_cases hgo : k < N
      · have hgo' : (k : Int) < (N : Int) := by omega
        have c1 := hO.out.cell hgo
        rcases bo with _ | bd
        · exact (irow_none hR.out (j := k) (by rw [mk_length]; exact hgo)).elim
        · have c2 := hR.out.2 bd rfl k (by rw [mk_length]; exact hgo)
          rw [co_mk, if_pos hgo] at c2
          generalize wf m f k = z at *
          go_wp2
          go_quiet (fail)
          go_wp2
          go_roundw
          case rel => exact ⟨k + 1, by simp, by omega, hO.out.drewN _, hR, below_drewN hB.out _⟩
          case measure => exact measK hgo
      · have hgo' : ¬ (k : Int) < (N : Int) := by omega
        go_wp2
        go_ret
        exact ⟨rfl, hB.out⟩
  · have cC := fun w => check_no n f hf hF w
    have cA := Waves_no n f hf hF w
    clear hF
    go_enter Try.func3, Try.ntmps3
    go_wp2_with (first
      | (go_at_call 9; refine cA.mono ?_; rintro e w1 ⟨rfl, hw⟩; subst w1)
      | (go_at_call 10; refine (cC _).mono ?_; rintro e w2 ⟨rfl, hw⟩; subst w2))
    go_ret
    exact ⟨rfl, Below.refl _ _⟩

set_option maxRecDepth 100000 in
theorem lifted (os : Os) (started : os.Started) (H : Type) (enc : TypeId × Value → H) :
    ReturnsInHanded {} Try.checked os 3 .any (Rows.walshWavesSpec.pre6 enc Try.prog Try.f3 Rows.walshWavesRow.domain false) (Rows.walshWavesSpec.post enc Try.prog Try.f3 false true false false) := by
  refine returnsInHanded_of_change (C := Try.checked) own started (by kernel_rfl) Try.func3
    (ChangeSpec.witness6 (enc := enc) (C := Try.checked) false ⟨#[], #[.int .i64 0, .int .u32 0], []⟩ 8 (by kernel_rfl) (by kernel_rfl) (by kernel_rfl) (by kernel_rfl)) ?_
  intro W base args ds gs before hval0 hW hcnd _
  have hval : ∀ (j : Nat) t v, Try.f3.params[j]? = some t → args[j]? = some v → Value.okWide Try.prog W .any base t v := hval0
  have hW' := hW
  obtain ⟨p, q, hA0, hV, rfl, _, _⟩ := hW
  have hA : DataW.TrodAll enc Try.prog W 0 (fun _ => true) true Try.f3.params.toList args.toList ds p := hA0
  rw [Try.params3] at hA hval
  obtain ⟨v0, v1, d0, d1, p0, p1, rfl, rfl, rfl, h0, h1⟩ := trodAll_two hA
  obtain ⟨rfl, rfl⟩ := trodVars_none hV
  obtain ⟨a0, rfl, rfl, rfl, w0⟩ := open_int Try.underlying3 (hval 0 3 v0 rfl rfl) h0
  obtain ⟨a1, rfl, rfl, rfl, w1⟩ := open_int Try.underlying22 (hval 1 22 v1 rfl rfl) h1
  clear hA0 hval0
  simp only [List.append_nil] at hW'
  refine (walk a0 w0 a1 w1 W ).mono fun e W' ⟨he, hg⟩ => ?_
  subst he
  refine ⟨_, rfl, _, _, _, [], ([] : List MemPlace) ++ (([] : List MemPlace)), [], hW', ?_, ?_, rfl, hg.frame _, fun h => by cases h⟩
  · exact trodAll_mk1 (shut_bool Try.underlying4 true)
  · exact trodAll_mk2 (shut_int Try.underlying3 w0) (shut_int Try.underlying22 w1)

theorem over : Rows.walshWavesRow.holds Try.pinned (OpenSpec.ofChange Rows.walshWavesSpec) :=
  OpenClaim.holds_of_wide 3 Try.f3 rfl rfl rfl rfl rfl rfl rfl ⟨rfl, rfl, rfl, rfl, rfl⟩ rfl rfl rfl rfl rfl (by kernel_rfl) Try.func3 (by kernel_rfl)
    (of_decide_eq_true (by kernel_rfl)) (by unfold Func.isWrapper; first | (rw [if_pos (by decide +kernel)]; kernel_rfl) | (rw [if_neg (by decide +kernel)]; exact ⟨rfl, rfl⟩))
    (fun os started H enc _ => lifted os started H enc)

/-- ████ THE STATEMENT ████ -/
theorem proved : Rows.WalshWavesSaid :=
  over

end Go.Proofs.Ytpnjpkmlfbcnjaa.walshWaves
