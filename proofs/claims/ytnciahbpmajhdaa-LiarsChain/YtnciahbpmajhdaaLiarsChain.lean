/-
  For all numbers a and n in range, n odd: if n seems a prime by square roots of 1, so it does by Euler's criterion, and if by that, so by Fermat's theorem; 1 seems to prove it by Euler's criterion; and what is out of range is refused.
-/
import Derived.Test.YtnciahbpmajhdaaRows
import Derived.Test.YtnciahbpmajhdaaCalls30
import Derived.Test.YtnciahbpmajhdaaCalls33
import Derived.WalkKit
import Derived.ProofKit
import Derived.OpenShut
namespace Go.Proofs.Ytnciahbpmajhdaa.liarsChain
open Go.Proofs.Ytnciahbpmajhdaa.Num Go.Proofs.Ytnciahbpmajhdaa.Num3 Go.Proofs.Ytnciahbpmajhdaa.Num9 Go.Proofs.Ytnciahbpmajhdaa.Num10 Go.Proofs.Ytnciahbpmajhdaa.Num13 Go.Proofs.Ytnciahbpmajhdaa.Num29 Go.Proofs.Ytnciahbpmajhdaa.Num30 Go.Proofs.Ytnciahbpmajhdaa.Calls8 Go.Proofs.Ytnciahbpmajhdaa.Calls9 Go.Proofs.Ytnciahbpmajhdaa.Calls11 Go.Proofs.Ytnciahbpmajhdaa.Calls19 Go.Proofs.Ytnciahbpmajhdaa.Calls20 Go.Proofs.Ytnciahbpmajhdaa.Calls29 Go.Proofs.Ytnciahbpmajhdaa.Calls30 Go.Proofs.Ytnciahbpmajhdaa.Calls32 Go.Proofs.Ytnciahbpmajhdaa.Calls33
open Go.ChangeShapes Go.WideShapes Go.ChangeAt Go.RowKit
set_option linter.unusedVariables false      -- a walk need not use every 'w<i>' (that an integer argument fits its kind)

theorem own : ownKnob Try.prog.godebug = none := by kernel_rfl

theorem walk (a0 : Int) (a1 : Int) (w0 : (Lit.int .i64 a0).wf = true) (w1 : (Lit.int .i64 a1).wf = true) (w : World) :
    Calls Try.prog 8 #[.int .i64 a0, .int .i64 a1] w fun e w' => e = .returned (.bool true) ∧ Below w.heap.size w w' := by
  have cN := fun w => near_any a0 w
  by_cases hg : Nr a0 ∧ Om a1
  · rw [decide_eq_true (show -2147483648 ≤ a0 ∧ a0 ≤ 2147483648 from hg.1)] at cN
    obtain ⟨hn, m1, m2, m3⟩ := hg
    obtain ⟨n, rfl⟩ : ∃ m : Nat, a1 = (m : Int) := ⟨a1.toNat, by omega⟩
    have h5 := beq_f (show ¬ (n : Int) % 2 = 0 by omega)
    obtain ⟨J, hJ⟩ := JJ.ex a0 (n := n) (by omega)
    obtain ⟨s, d, H⟩ := Odd2.ex (n := n) (by omega) (by omega)
    have cX := fun w => Fermat_yes a0 n hn (by omega) (by omega) (by omega) w
    have cY := fun w => Euler_yes a0 J n hn (by omega) (by omega) hJ (by omega) w
    have cZ := fun w => Strong_yes a0 n s d hn (by omega) (by omega) H (by omega) w
    obtain ⟨s', d', H'⟩ := Odd2.ex (n := n) (by omega) (by omega)
    have c1 := fun w => Euler_yes 1 1 n ⟨by omega, by omega⟩ (by omega) (by omega) (JJ.one (by omega)) (by omega) w
    rw [eu_one (n := n) (by omega)] at c1
    have k1 := fun h => st_eu H hJ h
    have k2 := fun h => eu_fr (n := n) (by omega) (by omega) hJ h
    obtain ⟨x, hx⟩ : ∃ b, frB a0 n = b := ⟨_, rfl⟩
    obtain ⟨y, hy⟩ : ∃ b, euB a0 n J = b := ⟨_, rfl⟩
    obtain ⟨z, hz⟩ : ∃ b, stB a0 n s d = b := ⟨_, rfl⟩
    rw [hx] at cX k2
    rw [hy] at cY k1 k2
    rw [hz] at cZ k1
    clear hn m3 H H' hJ hx hy hz
    cases z <;> cases y <;> cases x
    all_goals first | exact absurd (k1 rfl) (by decide) | exact absurd (k2 rfl) (by decide) | skip
    all_goals clear k1 k2
    · go_enter Try.func8, Try.ntmps8
      go_wp2_with (first | (go_at_call 9; refine (cX _).mono ?_; rintro e w_hB1 ⟨rfl, hB1⟩) | (go_at_call 12; refine (cY _).mono ?_; rintro e w_hB2 ⟨rfl, hB2⟩; clear cY) | (go_at_call 15; refine (cZ _).mono ?_; rintro e w_hB3 ⟨rfl, hB3⟩) | (go_at_call 18; refine (cN _).mono ?_; rintro e w' ⟨rfl, hw⟩; subst w') | (go_at_call 12; refine (c1 _).mono ?_; rintro e w_hB4 ⟨rfl, hB4⟩))
      go_ret
      exact ⟨rfl, below_trans (below_trans (below_trans hB1 hB2) hB3) hB4⟩
    · go_enter Try.func8, Try.ntmps8
      go_wp2_with (first | (go_at_call 9; refine (cX _).mono ?_; rintro e w_hB1 ⟨rfl, hB1⟩) | (go_at_call 12; refine (cY _).mono ?_; rintro e w_hB2 ⟨rfl, hB2⟩; clear cY) | (go_at_call 15; refine (cZ _).mono ?_; rintro e w_hB3 ⟨rfl, hB3⟩) | (go_at_call 18; refine (cN _).mono ?_; rintro e w' ⟨rfl, hw⟩; subst w') | (go_at_call 12; refine (c1 _).mono ?_; rintro e w_hB4 ⟨rfl, hB4⟩))
      go_ret
      exact ⟨rfl, below_trans (below_trans (below_trans hB1 hB2) hB3) hB4⟩
    · go_enter Try.func8, Try.ntmps8
      go_wp2_with (first | (go_at_call 9; refine (cX _).mono ?_; rintro e w_hB1 ⟨rfl, hB1⟩) | (go_at_call 12; refine (cY _).mono ?_; rintro e w_hB2 ⟨rfl, hB2⟩; clear cY) | (go_at_call 15; refine (cZ _).mono ?_; rintro e w_hB3 ⟨rfl, hB3⟩) | (go_at_call 18; refine (cN _).mono ?_; rintro e w' ⟨rfl, hw⟩; subst w') | (go_at_call 12; refine (c1 _).mono ?_; rintro e w_hB4 ⟨rfl, hB4⟩))
      go_ret
      exact ⟨rfl, below_trans (below_trans (below_trans hB1 hB2) hB3) hB4⟩
    · go_enter Try.func8, Try.ntmps8
      go_wp2_with (first | (go_at_call 9; refine (cX _).mono ?_; rintro e w_hB1 ⟨rfl, hB1⟩) | (go_at_call 12; refine (cY _).mono ?_; rintro e w_hB2 ⟨rfl, hB2⟩; clear cY) | (go_at_call 15; refine (cZ _).mono ?_; rintro e w_hB3 ⟨rfl, hB3⟩) | (go_at_call 18; refine (cN _).mono ?_; rintro e w' ⟨rfl, hw⟩; subst w') | (go_at_call 12; refine (c1 _).mono ?_; rintro e w_hB4 ⟨rfl, hB4⟩))
      go_ret
      exact ⟨rfl, below_trans (below_trans (below_trans hB1 hB2) hB3) hB4⟩
  · have cX := fun w => Fermat_no a0 a1 hg w
    have cY := fun w => Euler_no a0 a1 hg w
    have cZ := fun w => Strong_no a0 a1 hg w
    by_cases ha : -2147483648 ≤ a0 ∧ a0 ≤ 2147483648
    · rw [decide_eq_true ha] at cN
      by_cases h1 : a1 < 3
      · clear hg ha
        go_enter Try.func8, Try.ntmps8
        go_wp2_with (first | (go_at_call 9; refine (cX _).mono ?_; rintro e w_hB1 ⟨rfl, hB1⟩) | (go_at_call 12; refine (cY _).mono ?_; rintro e w_hB2 ⟨rfl, hB2⟩) | (go_at_call 15; refine (cZ _).mono ?_; rintro e w_hB3 ⟨rfl, hB3⟩) | (go_at_call 18; refine (cN _).mono ?_; rintro e w' ⟨rfl, hw⟩; subst w'))
        go_ret
        exact ⟨rfl, below_trans (below_trans hB1 hB2) hB3⟩
      · by_cases h2 : 1048576 < a1
        · clear hg ha
          go_enter Try.func8, Try.ntmps8
          go_wp2_with (first | (go_at_call 9; refine (cX _).mono ?_; rintro e w_hB1 ⟨rfl, hB1⟩) | (go_at_call 12; refine (cY _).mono ?_; rintro e w_hB2 ⟨rfl, hB2⟩) | (go_at_call 15; refine (cZ _).mono ?_; rintro e w_hB3 ⟨rfl, hB3⟩) | (go_at_call 18; refine (cN _).mono ?_; rintro e w' ⟨rfl, hw⟩; subst w'))
          go_ret
          exact ⟨rfl, below_trans (below_trans hB1 hB2) hB3⟩
        · obtain ⟨n, rfl⟩ : ∃ m : Nat, a1 = (m : Int) := ⟨a1.toNat, by omega⟩
          have h5 := beq_t (show (n : Int) % 2 = 0 by
            have : ¬ Om (n : Int) := fun h' => hg ⟨ha, h'⟩
            unfold Om at this
            omega)
          clear hg ha
          go_enter Try.func8, Try.ntmps8
          go_wp2_with (first | (go_at_call 9; refine (cX _).mono ?_; rintro e w_hB1 ⟨rfl, hB1⟩) | (go_at_call 12; refine (cY _).mono ?_; rintro e w_hB2 ⟨rfl, hB2⟩) | (go_at_call 15; refine (cZ _).mono ?_; rintro e w_hB3 ⟨rfl, hB3⟩) | (go_at_call 18; refine (cN _).mono ?_; rintro e w' ⟨rfl, hw⟩; subst w'))
          go_ret
          exact ⟨rfl, below_trans (below_trans hB1 hB2) hB3⟩
    · rw [decide_eq_false ha] at cN
      clear hg ha
      go_enter Try.func8, Try.ntmps8
      go_wp2_with (first | (go_at_call 9; refine (cX _).mono ?_; rintro e w_hB1 ⟨rfl, hB1⟩) | (go_at_call 12; refine (cY _).mono ?_; rintro e w_hB2 ⟨rfl, hB2⟩) | (go_at_call 15; refine (cZ _).mono ?_; rintro e w_hB3 ⟨rfl, hB3⟩) | (go_at_call 18; refine (cN _).mono ?_; rintro e w' ⟨rfl, hw⟩; subst w'))
      go_ret
      exact ⟨rfl, below_trans (below_trans hB1 hB2) hB3⟩

/-! ### THE ROW's STEP: WRITTEN OUT: LEAVE IT -/
set_option maxRecDepth 100000 in
theorem lifted (os : Os) (started : os.Started) (H : Type) (enc : TypeId × Value → H) :
    ReturnsInHanded {} Try.checked os 8 .any (Rows.liarsChainSpec.pre6 enc Try.prog Try.f8 Rows.liarsChainRow.domain false) (Rows.liarsChainSpec.post enc Try.prog Try.f8 false true false false) := by
  refine returnsInHanded_of_change (C := Try.checked) own started (by kernel_rfl) Try.func8
    (ChangeSpec.witness6 (enc := enc) (C := Try.checked) false ⟨#[], #[.int .i64 0, .int .i64 0], []⟩ 8 (by kernel_rfl) (by kernel_rfl) (by kernel_rfl) (by kernel_rfl)) ?_
  intro W base args ds gs before hval0 hW hcnd _
  have hval : ∀ (j : Nat) t v, Try.f8.params[j]? = some t → args[j]? = some v → Value.okWide Try.prog W .any base t v := hval0
  have hW' := hW
  obtain ⟨p, q, hA0, hV, rfl, hfz, hnd⟩ := hW
  have hA : DataW.TrodAll enc Try.prog W 0 (fun _ => true) true Try.f8.params.toList args.toList ds p := hA0
  rw [Try.params8] at hA hval
  obtain ⟨v0, vs0, d0, ds0, p0, q0, hargs, rfl, rfl, h0, r0⟩ := trodAll_cons hA
  obtain ⟨v1, vs1, d1, ds1, p1, q1, rfl, rfl, rfl, h1, r1⟩ := trodAll_cons r0
  obtain ⟨rfl, rfl, rfl⟩ := trodAll_nil r1
  obtain rfl : args = #[v0, v1] := by cases args; simp_all
  obtain ⟨rfl, rfl⟩ := trodVars_none hV
  obtain ⟨a0, rfl, rfl, rfl, w0⟩ := open_int Try.underlying2 (hval 0 2 v0 rfl rfl) h0
  obtain ⟨a1, rfl, rfl, rfl, w1⟩ := open_int Try.underlying2 (hval 1 2 v1 rfl rfl) h1
  clear hA0 hval0
  simp only [List.append_nil] at hW'
  refine (walk a0 a1 w0 w1 W).mono fun e W' ⟨he, hg⟩ => ?_
  subst he
  exact ⟨_, rfl, post_of_kept (pa := []) (pv := []) hW' (fun _ _ _ => (trodAll_cons_mk (shut_bool Try.underlying4 _) trodAll_mk0)) (fun sp _ => (trodAll_cons_mk (shut_int Try.underlying2 w0) (trodAll_cons_mk (shut_int Try.underlying2 w1) trodAll_mk0))) (fun _ _ => rfl) rfl
    (hg.frame _)⟩

theorem over : Rows.liarsChainRow.holds Try.pinned (OpenSpec.ofChange Rows.liarsChainSpec) :=
  OpenClaim.holds_of_wide 8 Try.f8 rfl rfl rfl rfl rfl rfl rfl ⟨rfl, rfl, rfl, rfl, rfl⟩ rfl rfl rfl rfl rfl (by kernel_rfl) Try.func8 (by kernel_rfl)
    (of_decide_eq_true (by kernel_rfl)) (by unfold Func.isWrapper; first | (rw [if_pos (by decide +kernel)]; kernel_rfl) | (rw [if_neg (by decide +kernel)]; exact ⟨rfl, rfl⟩))
    (fun os started H enc _ => lifted os started H enc)

/-- ████ THE STATEMENT ████ -/
theorem proved : Rows.LiarsChainSaid :=
  over
end Go.Proofs.Ytnciahbpmajhdaa.liarsChain
