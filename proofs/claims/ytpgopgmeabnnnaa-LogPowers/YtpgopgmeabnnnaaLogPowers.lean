/-
  For all numbers g, a and p the program tells the least exponent for which the power of g leaves what a does, divided by p, or that there is none, or what is wrong: with no condition.
-/
import Derived.Test.YtpgopgmeabnnnaaRows
import Derived.Test.YtpgopgmeabnnnaaCalls53
import Derived.WalkKit
import Derived.ProofKit
import Derived.OpenShut
namespace Go.Proofs.Ytpgopgmeabnnnaa.logPowers
open Go.Proofs.Ytpgopgmeabnnnaa.Num Go.Proofs.Ytpgopgmeabnnnaa.Num13 Go.Proofs.Ytpgopgmeabnnnaa.Num32 Go.Proofs.Ytpgopgmeabnnnaa.Calls8 Go.Proofs.Ytpgopgmeabnnnaa.Calls9 Go.Proofs.Ytpgopgmeabnnnaa.Calls11 Go.Proofs.Ytpgopgmeabnnnaa.Calls19 Go.Proofs.Ytpgopgmeabnnnaa.Calls20 Go.Proofs.Ytpgopgmeabnnnaa.Calls51 Go.Proofs.Ytpgopgmeabnnnaa.Calls52 Go.Proofs.Ytpgopgmeabnnnaa.Calls53
open Go.ChangeShapes Go.WideShapes Go.ChangeAt Go.RowKit
set_option linter.unusedVariables false      -- a walk need not use every 'w<i>' (that an integer argument fits its kind)

theorem own : ownKnob Try.prog.godebug = none := by kernel_rfl

theorem walk (a0 : Int) (a1 : Int) (a2 : Int) (w0 : (Lit.int .i64 a0).wf = true) (w1 : (Lit.int .i64 a1).wf = true) (w2 : (Lit.int .i64 a2).wf = true) (w : World) :
    Calls Try.prog 4 #[.int .i64 a0, .int .i64 a1, .int .i64 a2] w fun e w' => e = .returned (.bool true) ∧ Below w.heap.size w w' := by
  have cP := fun w => primal_any a2 w
  have cB := fun w => both_two a0 a1 w
  by_cases hn : Nr a0 ∧ Nr a1
  · rw [if_pos hn] at cB
    obtain ⟨hg, ha⟩ := hn
    by_cases hc : pcode a2 = 0
    · rw [hc] at cP
      have cF := fun w => first_any 0 0 w
      obtain ⟨p, rfl, hp, hp2⟩ := pcode_zero hc
      rcases log_or (rs a0 p) (rs a1 p) p with ⟨k, hk⟩ | hk
      · have cL := fun w => Log_yes a0 a1 p k hg ha hp hp2 hk w
        have cR := fun w => refLog_yes a0 a1 p k hp hp2 hk w
        have hk0 : ¬ (k : Int) < 0 := by omega
        clear hc hk hp hg ha
        go_enter Try.func4, Try.ntmps4
        go_wp2_with (first | (go_at_call 10; refine (cL _).mono ?_; rintro e w_hB1 ⟨rfl, hB1⟩) | (go_at_call 8; refine (cP _).mono ?_; rintro e w' ⟨rfl, hw⟩; subst w') | (go_at_call 12; refine (cB _).mono ?_; rintro e w' ⟨rfl, hw⟩; subst w') | (go_at_call 11; refine (cF _).mono ?_; rintro e w' ⟨rfl, hw⟩; subst w') | (go_at_call 13; refine (cR _).mono ?_; rintro e w' ⟨rfl, hw⟩; subst w'))
        go_ret
        exact ⟨rfl, hB1⟩
      · have cL := fun w => Log_none a0 a1 p hg ha hp hp2 hk w
        have cR := fun w => refLog_none a0 a1 p hp hp2 hk w
        clear hc hk hp hg ha
        go_enter Try.func4, Try.ntmps4
        go_wp2_with (first | (go_at_call 10; refine (cL _).mono ?_; rintro e w_hB1 ⟨rfl, hB1⟩) | (go_at_call 8; refine (cP _).mono ?_; rintro e w' ⟨rfl, hw⟩; subst w') | (go_at_call 12; refine (cB _).mono ?_; rintro e w' ⟨rfl, hw⟩; subst w') | (go_at_call 11; refine (cF _).mono ?_; rintro e w' ⟨rfl, hw⟩; subst w') | (go_at_call 13; refine (cR _).mono ?_; rintro e w' ⟨rfl, hw⟩; subst w'))
        go_ret
        exact ⟨rfl, hB1⟩
    · have cL := fun w => Log_bad a0 a1 a2 hg ha hc w
      generalize pcode a2 = r at hc cP cL
      have cF := fun w => first_any 0 r w
      rw [if_pos rfl] at cF
      have h1 : (r != 0) = true := by simpa using hc
      have h2 : (r == 0) = false := by simpa using hc
      clear hc hg ha
      go_enter Try.func4, Try.ntmps4
      go_wp2_with (first | (go_at_call 10; refine (cL _).mono ?_; rintro e w_hB1 ⟨rfl, hB1⟩) | (go_at_call 8; refine (cP _).mono ?_; rintro e w' ⟨rfl, hw⟩; subst w') | (go_at_call 12; refine (cB _).mono ?_; rintro e w' ⟨rfl, hw⟩; subst w') | (go_at_call 11; refine (cF _).mono ?_; rintro e w' ⟨rfl, hw⟩; subst w'))
      go_ret
      exact ⟨rfl, hB1⟩
  · rw [if_neg hn] at cB
    have cL := fun w => Log_far a0 a1 a2 hn w
    generalize pcode a2 = r at cP
    have cF := fun w => first_any 2 r w
    rw [if_neg (by decide)] at cF
    clear hn
    go_enter Try.func4, Try.ntmps4
    go_wp2_with (first | (go_at_call 10; refine (cL _).mono ?_; rintro e w_hB1 ⟨rfl, hB1⟩) | (go_at_call 8; refine (cP _).mono ?_; rintro e w' ⟨rfl, hw⟩; subst w') | (go_at_call 12; refine (cB _).mono ?_; rintro e w' ⟨rfl, hw⟩; subst w') | (go_at_call 11; refine (cF _).mono ?_; rintro e w' ⟨rfl, hw⟩; subst w'))
    go_ret
    exact ⟨rfl, hB1⟩

/-! ### THE ROW's STEP: WRITTEN OUT: LEAVE IT -/
set_option maxRecDepth 100000 in
theorem lifted (os : Os) (started : os.Started) (H : Type) (enc : TypeId × Value → H) :
    ReturnsInHanded {} Try.checked os 4 .any (Rows.logPowersSpec.pre6 enc Try.prog Try.f4 Rows.logPowersRow.domain false) (Rows.logPowersSpec.post enc Try.prog Try.f4 false true false false) := by
  refine returnsInHanded_of_change (C := Try.checked) own started (by kernel_rfl) Try.func4
    (ChangeSpec.witness6 (enc := enc) (C := Try.checked) false ⟨#[], #[.int .i64 0, .int .i64 0, .int .i64 0], []⟩ 8 (by kernel_rfl) (by kernel_rfl) (by kernel_rfl) (by kernel_rfl)) ?_
  intro W base args ds gs before hval0 hW hcnd _
  have hval : ∀ (j : Nat) t v, Try.f4.params[j]? = some t → args[j]? = some v → Value.okWide Try.prog W .any base t v := hval0
  have hW' := hW
  obtain ⟨p, q, hA0, hV, rfl, hfz, hnd⟩ := hW
  have hA : DataW.TrodAll enc Try.prog W 0 (fun _ => true) true Try.f4.params.toList args.toList ds p := hA0
  rw [Try.params4] at hA hval
  obtain ⟨v0, vs0, d0, ds0, p0, q0, hargs, rfl, rfl, h0, r0⟩ := trodAll_cons hA
  obtain ⟨v1, vs1, d1, ds1, p1, q1, rfl, rfl, rfl, h1, r1⟩ := trodAll_cons r0
  obtain ⟨v2, vs2, d2, ds2, p2, q2, rfl, rfl, rfl, h2, r2⟩ := trodAll_cons r1
  obtain ⟨rfl, rfl, rfl⟩ := trodAll_nil r2
  obtain rfl : args = #[v0, v1, v2] := by cases args; simp_all
  obtain ⟨rfl, rfl⟩ := trodVars_none hV
  obtain ⟨a0, rfl, rfl, rfl, w0⟩ := open_int Try.underlying2 (hval 0 2 v0 rfl rfl) h0
  obtain ⟨a1, rfl, rfl, rfl, w1⟩ := open_int Try.underlying2 (hval 1 2 v1 rfl rfl) h1
  obtain ⟨a2, rfl, rfl, rfl, w2⟩ := open_int Try.underlying2 (hval 2 2 v2 rfl rfl) h2
  clear hA0 hval0
  simp only [List.append_nil] at hW'
  refine (walk a0 a1 a2 w0 w1 w2 W).mono fun e W' ⟨he, hg⟩ => ?_
  subst he
  exact ⟨_, rfl, post_of_kept (pa := []) (pv := []) hW' (fun _ _ _ => (trodAll_cons_mk (shut_bool Try.underlying4 _) trodAll_mk0)) (fun sp _ => (trodAll_cons_mk (shut_int Try.underlying2 w0) (trodAll_cons_mk (shut_int Try.underlying2 w1) (trodAll_cons_mk (shut_int Try.underlying2 w2) trodAll_mk0)))) (fun _ _ => rfl) rfl
    (hg.frame _)⟩

theorem over : Rows.logPowersRow.holds Try.pinned (OpenSpec.ofChange Rows.logPowersSpec) :=
  OpenClaim.holds_of_wide 4 Try.f4 rfl rfl rfl rfl rfl rfl rfl ⟨rfl, rfl, rfl, rfl, rfl⟩ rfl rfl rfl rfl rfl (by kernel_rfl) Try.func4 (by kernel_rfl)
    (of_decide_eq_true (by kernel_rfl)) (by unfold Func.isWrapper; first | (rw [if_pos (by decide +kernel)]; kernel_rfl) | (rw [if_neg (by decide +kernel)]; exact ⟨rfl, rfl⟩))
    (fun os started H enc _ => lifted os started H enc)

/-- ████ THE STATEMENT ████ -/
theorem proved : Rows.LogPowersSaid :=
  over
end Go.Proofs.Ytpgopgmeabnnnaa.logPowers
