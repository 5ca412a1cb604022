/-
  For every prime in range the program tells a number whose order is one less than the prime, and of every number in range that the prime does not divide which power of it it is; every other number is refused: with no condition.
-/
import Derived.Test.YtpgopgmeabnnnaaRows
import Derived.Test.YtpgopgmeabnnnaaCalls53
import Derived.WalkKit
import Derived.ProofKit
import Derived.OpenShut
namespace Go.Proofs.Ytpgopgmeabnnnaa.logBase
open Go.Proofs.Ytpgopgmeabnnnaa.Num Go.Proofs.Ytpgopgmeabnnnaa.Num13 Go.Proofs.Ytpgopgmeabnnnaa.Num32 Go.Proofs.Ytpgopgmeabnnnaa.Calls8 Go.Proofs.Ytpgopgmeabnnnaa.Calls9 Go.Proofs.Ytpgopgmeabnnnaa.Calls11 Go.Proofs.Ytpgopgmeabnnnaa.Calls19 Go.Proofs.Ytpgopgmeabnnnaa.Calls20 Go.Proofs.Ytpgopgmeabnnnaa.Calls51 Go.Proofs.Ytpgopgmeabnnnaa.Calls52 Go.Proofs.Ytpgopgmeabnnnaa.Calls53
open Go.ChangeShapes Go.WideShapes Go.ChangeAt Go.RowKit
set_option linter.unusedVariables false      -- a walk need not use every 'w<i>' (that an integer argument fits its kind)

theorem own : ownKnob Try.prog.godebug = none := by kernel_rfl

theorem tm_zero (a : Int) {p : Nat} (hp : 1 ≤ p) : (a.tmod (p : Int) == 0) = decide (rs a p = 0) := by
  have h : a.tmod (p : Int) = 0 ↔ rs a p = 0 := by
    rw [← Int.dvd_iff_tmod_eq_zero, Int.dvd_iff_emod_eq_zero, ← rs_cast a hp]
    omega
  by_cases e : rs a p = 0
  · rw [decide_eq_true e, h.2 e]; rfl
  · rw [decide_eq_false e, beq_eq_false_iff_ne]; exact fun e2 => e (h.1 e2)

theorem walk (a0 : Int) (a1 : Int) (w0 : (Lit.int .i64 a0).wf = true) (w1 : (Lit.int .i64 a1).wf = true) (w : World) :
    Calls Try.prog 5 #[.int .i64 a0, .int .i64 a1] w fun e w' => e = .returned (.bool true) ∧ Below w.heap.size w w' := by
  by_cases hm : Md a0
  · obtain ⟨h1, h2⟩ := hm
    obtain ⟨p, rfl⟩ : ∃ m : Nat, a0 = (m : Int) := ⟨a0.toNat, by omega⟩
    have cK := fun w => kmodulus_yes (p : Int) h1 h2 w
    have cI := fun w => refIs_any p (by omega) w
    cases hb : prB p with
    | false =>
      rw [hb] at cI
      have hc : pcode (p : Int) = 3 := by rw [pcode_yes (by omega) (by omega), hb]; rfl
      have cB := fun w => Base_bad (p : Int) (by rw [hc]; decide) w
      rw [hc] at cB
      clear hb hc
      go_enter Try.func5, Try.ntmps5
      go_wp2_with (first | (go_at_call 7; refine (cB _).mono ?_; rintro e w_hB1 ⟨rfl, hB1⟩) | (go_at_call 14; refine (cK _).mono ?_; rintro e w' ⟨rfl, hw⟩; subst w') | (go_at_call 15; refine (cI _).mono ?_; rintro e w' ⟨rfl, hw⟩; subst w'))
      go_ret
      exact ⟨rfl, hB1⟩
    | true =>
      rw [hb] at cI
      have hp := (prB_iff p).1 hb
      have hp1 := hp.1
      have hp2 : p ≤ 1048576 := by omega
      obtain ⟨g, hg⟩ := base_ex hp
      have g1 := hg.one
      have g2 := hg.lt
      have eg : rs (g : Int) p = g := by rw [rs_nat, Nat.mod_eq_of_lt g2]
      have cB := fun w => Base_yes p g hp hp2 hg w
      have cO := fun w => Calls22.Order_yes (g : Int) p (p - 1) ⟨by omega, by omega⟩ (by omega) hp2 (by rw [eg]; exact hg.ord) w
      have ep : ((p - 1 : Nat) : Int) = (p : Int) - 1 := by omega
      rw [ep] at cO
      have hp0 : ¬ (p : Int) = 0 := by omega
      have cN := fun w => near_any a1 w
      by_cases ha : -2147483648 ≤ a1 ∧ a1 ≤ 2147483648
      · rw [decide_eq_true ha] at cN
        have ht := tm_zero a1 (p := p) (by omega)
        by_cases hz : rs a1 p = 0
        · rw [decide_eq_true hz] at ht
          clear hz hb hg hp ha eg ep
          go_enter Try.func5, Try.ntmps5
          go_wp2_with (first | (go_at_call 7; refine (cB _).mono ?_; rintro e w_hB1 ⟨rfl, hB1⟩) | (go_at_call 14; refine (cK _).mono ?_; rintro e w' ⟨rfl, hw⟩; subst w') | (go_at_call 15; refine (cI _).mono ?_; rintro e w' ⟨rfl, hw⟩; subst w') | (go_at_call 16; refine (cO _).mono ?_; rintro e w_hB2 ⟨rfl, hB2⟩) | (go_at_call 17; refine (cN _).mono ?_; rintro e w' ⟨rfl, hw⟩; subst w'))
          go_ret
          exact ⟨rfl, below_trans hB1 hB2⟩
        · rw [decide_eq_false hz] at ht
          obtain ⟨k, hk, hkp⟩ := hg.log hp (a := rs a1 p) (by omega) (rs_lt a1 (by omega))
          have cL := fun w => Log_yes (g : Int) a1 p k ⟨by omega, by omega⟩ ha hp hp2 (by rw [eg]; exact hk) w
          have cP := fun w => Pow_yes (g : Int) k p (by omega) (by omega) (by omega) (by omega) hp2 w
          have e0 : pw (g : Int) k p = rs a1 p := by unfold pw; rw [eg]; exact hk.1
          rw [e0] at cP
          have cM := fun w => refMod_at a1 p w (by omega) hp2
          have hk1 : (k : Int) < (p : Int) - 1 := by omega
          clear hz hb hg hp ha eg ep hk e0
          go_enter Try.func5, Try.ntmps5
          go_wp2_with (first | (go_at_call 7; refine (cB _).mono ?_; rintro e w_hB1 ⟨rfl, hB1⟩) | (go_at_call 14; refine (cK _).mono ?_; rintro e w' ⟨rfl, hw⟩; subst w') | (go_at_call 15; refine (cI _).mono ?_; rintro e w' ⟨rfl, hw⟩; subst w') | (go_at_call 16; refine (cO _).mono ?_; rintro e w_hB2 ⟨rfl, hB2⟩) | (go_at_call 17; refine (cN _).mono ?_; rintro e w' ⟨rfl, hw⟩; subst w') | (go_at_call 10; refine (cL _).mono ?_; rintro e w_hB3 ⟨rfl, hB3⟩) | (go_at_call 18; refine (cP _).mono ?_; rintro e w' ⟨rfl, hw⟩; subst w') | (go_at_call 19; refine (cM _).mono ?_; rintro e w' ⟨rfl, hw⟩; subst w'))
          go_ret
          exact ⟨rfl, below_trans (below_trans hB1 hB2) hB3⟩
      · rw [decide_eq_false ha] at cN
        clear hb hg hp ha eg ep
        go_enter Try.func5, Try.ntmps5
        go_wp2_with (first | (go_at_call 7; refine (cB _).mono ?_; rintro e w_hB1 ⟨rfl, hB1⟩) | (go_at_call 14; refine (cK _).mono ?_; rintro e w' ⟨rfl, hw⟩; subst w') | (go_at_call 15; refine (cI _).mono ?_; rintro e w' ⟨rfl, hw⟩; subst w') | (go_at_call 16; refine (cO _).mono ?_; rintro e w_hB2 ⟨rfl, hB2⟩) | (go_at_call 17; refine (cN _).mono ?_; rintro e w' ⟨rfl, hw⟩; subst w'))
        go_ret
        exact ⟨rfl, below_trans hB1 hB2⟩
  · have cK := fun w => kmodulus_no a0 hm w
    have cB := fun w => Base_bad a0 (by rw [pcode_no hm]; decide) w
    rw [pcode_no hm] at cB
    clear hm
    go_enter Try.func5, Try.ntmps5
    go_wp2_with (first | (go_at_call 7; refine (cB _).mono ?_; rintro e w_hB1 ⟨rfl, hB1⟩) | (go_at_call 14; refine (cK _).mono ?_; rintro e w' ⟨rfl, hw⟩; subst w'))
    go_ret
    exact ⟨rfl, hB1⟩

/-! ### THE ROW's STEP: WRITTEN OUT: LEAVE IT -/
set_option maxRecDepth 100000 in
theorem lifted (os : Os) (started : os.Started) (H : Type) (enc : TypeId × Value → H) :
    ReturnsInHanded {} Try.checked os 5 .any (Rows.logBaseSpec.pre6 enc Try.prog Try.f5 Rows.logBaseRow.domain false) (Rows.logBaseSpec.post enc Try.prog Try.f5 false true false false) := by
  refine returnsInHanded_of_change (C := Try.checked) own started (by kernel_rfl) Try.func5
    (ChangeSpec.witness6 (enc := enc) (C := Try.checked) false ⟨#[], #[.int .i64 0, .int .i64 0], []⟩ 8 (by kernel_rfl) (by kernel_rfl) (by kernel_rfl) (by kernel_rfl)) ?_
  intro W base args ds gs before hval0 hW hcnd _
  have hval : ∀ (j : Nat) t v, Try.f5.params[j]? = some t → args[j]? = some v → Value.okWide Try.prog W .any base t v := hval0
  have hW' := hW
  obtain ⟨p, q, hA0, hV, rfl, hfz, hnd⟩ := hW
  have hA : DataW.TrodAll enc Try.prog W 0 (fun _ => true) true Try.f5.params.toList args.toList ds p := hA0
  rw [Try.params5] at hA hval
  obtain ⟨v0, vs0, d0, ds0, p0, q0, hargs, rfl, rfl, h0, r0⟩ := trodAll_cons hA
  obtain ⟨v1, vs1, d1, ds1, p1, q1, rfl, rfl, rfl, h1, r1⟩ := trodAll_cons r0
  obtain ⟨rfl, rfl, rfl⟩ := trodAll_nil r1
  obtain rfl : args = #[v0, v1] := by cases args; simp_all
  obtain ⟨rfl, rfl⟩ := trodVars_none hV
  obtain ⟨a0, rfl, rfl, rfl, w0⟩ := open_int Try.underlying2 (hval 0 2 v0 rfl rfl) h0
  obtain ⟨a1, rfl, rfl, rfl, w1⟩ := open_int Try.underlying2 (hval 1 2 v1 rfl rfl) h1
  clear hA0 hval0
  simp only [List.append_nil] at hW'
  refine (walk a0 a1 w0 w1 W).mono fun e W' ⟨he, hg⟩ => ?_
  subst he
  exact ⟨_, rfl, post_of_kept (pa := []) (pv := []) hW' (fun _ _ _ => (trodAll_cons_mk (shut_bool Try.underlying4 _) trodAll_mk0)) (fun sp _ => (trodAll_cons_mk (shut_int Try.underlying2 w0) (trodAll_cons_mk (shut_int Try.underlying2 w1) trodAll_mk0))) (fun _ _ => rfl) rfl
    (hg.frame _)⟩

theorem over : Rows.logBaseRow.holds Try.pinned (OpenSpec.ofChange Rows.logBaseSpec) :=
  OpenClaim.holds_of_wide 5 Try.f5 rfl rfl rfl rfl rfl rfl rfl ⟨rfl, rfl, rfl, rfl, rfl⟩ rfl rfl rfl rfl rfl (by kernel_rfl) Try.func5 (by kernel_rfl)
    (of_decide_eq_true (by kernel_rfl)) (by unfold Func.isWrapper; first | (rw [if_pos (by decide +kernel)]; kernel_rfl) | (rw [if_neg (by decide +kernel)]; exact ⟨rfl, rfl⟩))
    (fun os started H enc _ => lifted os started H enc)

/-- ████ THE STATEMENT ████ -/
theorem proved : Rows.LogBaseSaid :=
  over
end Go.Proofs.Ytpgopgmeabnnnaa.logBase
