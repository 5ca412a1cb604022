/-
  For all numbers a, p and x: if p is an odd prime in range, what is told is a root of a, at most half of p; each root is it or what it lacks of p; and there is one just if Jacobi has not -1; else it is refused.
-/
import Derived.Test.YtmlhjmajhgcleaaRows
import Derived.Test.YtmlhjmajhgcleaaCalls30
import Derived.Test.YtmlhjmajhgcleaaCalls31
import Derived.WalkKit
import Derived.ProofKit
import Derived.OpenShut
namespace Go.Proofs.Ytmlhjmajhgcleaa.squaresRoot
open Go.Proofs.Ytmlhjmajhgcleaa.Num Go.Proofs.Ytmlhjmajhgcleaa.Num9 Go.Proofs.Ytmlhjmajhgcleaa.Num10 Go.Proofs.Ytmlhjmajhgcleaa.Num13 Go.Proofs.Ytmlhjmajhgcleaa.Num29 Go.Proofs.Ytmlhjmajhgcleaa.Calls8 Go.Proofs.Ytmlhjmajhgcleaa.Calls9 Go.Proofs.Ytmlhjmajhgcleaa.Calls11 Go.Proofs.Ytmlhjmajhgcleaa.Calls19 Go.Proofs.Ytmlhjmajhgcleaa.Calls20 Go.Proofs.Ytmlhjmajhgcleaa.Calls29 Go.Proofs.Ytmlhjmajhgcleaa.Calls30 Go.Proofs.Ytmlhjmajhgcleaa.Calls31
open Go.ChangeShapes Go.WideShapes Go.ChangeAt Go.RowKit
set_option linter.unusedVariables false      -- a walk need not use every 'w<i>' (that an integer argument fits its kind)

theorem own : ownKnob Try.prog.godebug = none := by kernel_rfl

theorem root_facts {p A r : Nat} (h : Least p A r) (x : Nat) (hx : x < p) : ((x : Int) * (x : Int) % (p : Int) == (A : Int)) = false ∨ ((x : Int) * (x : Int) % (p : Int) == (A : Int)) = true ∧ ((x : Int) == (r : Int)) = true ∨ ((x : Int) * (x : Int) % (p : Int) == (A : Int)) = true ∧ ((x : Int) == (r : Int)) = false ∧ ((x : Int) == (p : Int) - (r : Int)) = true := by
  rw [sq_beq]
  by_cases e : x * x % p = A
  · rw [decide_eq_true e]
    have h2 := h.2.1
    rcases h.2.2.2 x hx e with e2 | e2
    · exact .inr (.inl ⟨rfl, beq_t (by omega)⟩)
    · by_cases e3 : x = r
      · exact .inr (.inl ⟨rfl, beq_t (by omega)⟩)
      · exact .inr (.inr ⟨rfl, beq_f (by omega), beq_t (by omega)⟩)
  · rw [decide_eq_false e]; exact .inl rfl

theorem walk (a0 : Int) (a1 : Int) (a2 : Int) (w0 : (Lit.int .i64 a0).wf = true) (w1 : (Lit.int .i64 a1).wf = true) (w2 : (Lit.int .i64 a2).wf = true) (w : World) :
    Calls Try.prog 8 #[.int .i64 a0, .int .i64 a1, .int .i64 a2] w fun e w' => e = .returned (.bool true) ∧ Below w.heap.size w w' := by
  have cN := fun w => near_any a0 w
  by_cases hn : -2147483648 ≤ a0 ∧ a0 ≤ 2147483648
  rotate_left
  · rw [decide_eq_false hn] at cN
    have cR := fun w => Root_no a0 a1 (fun h => hn h.1) w
    clear hn
    go_enter Try.func8, Try.ntmps8
    go_wp2_with (first | (go_at_call 14; refine (cR _).mono ?_; rintro e w_hB1 ⟨rfl, hB1⟩) | (go_at_call 17; refine (cN _).mono ?_; rintro e w' ⟨rfl, hw⟩; subst w'))
    go_ret
    exact ⟨rfl, hB1⟩
  rw [decide_eq_true hn] at cN
  by_cases hg : Md a1
  rotate_left
  · have cM := fun w => kmodulus_no a1 hg w
    have cR := fun w => Root_no a0 a1 (fun h => hg h.2) w
    clear hn hg
    go_enter Try.func8, Try.ntmps8
    go_wp2_with (first | (go_at_call 14; refine (cR _).mono ?_; rintro e w_hB1 ⟨rfl, hB1⟩) | (go_at_call 17; refine (cN _).mono ?_; rintro e w' ⟨rfl, hw⟩; subst w') | (go_at_call 18; refine (cM _).mono ?_; rintro e w' ⟨rfl, hw⟩; subst w'))
    go_ret
    exact ⟨rfl, hB1⟩
  obtain ⟨m1, m2⟩ := hg
  obtain ⟨p, rfl⟩ : ∃ m : Nat, a1 = (m : Int) := ⟨a1.toNat, by omega⟩
  have hm1 : 1 ≤ p := by omega
  have hm2 : p ≤ 1048576 := by omega
  have cM := fun w => kmodulus_yes (p : Int) m1 m2 w
  have cI := fun w => refIs_any p hm2 w
  by_cases h2 : p = 2
  · subst h2
    have cR := fun w => Root_arg a0 2 hn hm1 hm2 (.inr rfl) w
    clear hn
    go_enter Try.func8, Try.ntmps8
    go_wp2_with (first | (go_at_call 14; refine (cR _).mono ?_; rintro e w_hB1 ⟨rfl, hB1⟩) | (go_at_call 17; refine (cN _).mono ?_; rintro e w' ⟨rfl, hw⟩; subst w') | (go_at_call 18; refine (cM _).mono ?_; rintro e w' ⟨rfl, hw⟩; subst w') | (go_at_call 15; refine (cI _).mono ?_; rintro e w' ⟨rfl, hw⟩; subst w'))
    go_ret
    exact ⟨rfl, hB1⟩
  have h2' := beq_f (show ¬ (p : Int) = 2 by omega)
  by_cases hp : Pr p
  rotate_left
  · have hpb : prB p = false := by
      cases h : prB p
      · rfl
      · exact absurd ((prB_iff p).1 h) hp
    rw [hpb] at cI
    have cR := fun w => Root_arg a0 p hn hm1 hm2 (.inl hp) w
    clear hn hp hpb h2
    go_enter Try.func8, Try.ntmps8
    go_wp2_with (first | (go_at_call 14; refine (cR _).mono ?_; rintro e w_hB1 ⟨rfl, hB1⟩) | (go_at_call 17; refine (cN _).mono ?_; rintro e w' ⟨rfl, hw⟩; subst w') | (go_at_call 18; refine (cM _).mono ?_; rintro e w' ⟨rfl, hw⟩; subst w') | (go_at_call 15; refine (cI _).mono ?_; rintro e w' ⟨rfl, hw⟩; subst w'))
    go_ret
    exact ⟨rfl, hB1⟩
  rw [(prB_iff p).2 hp] at cI
  have cJ := fun w => Jacobi_yes a0 p _ hn (odd_of hp h2) hm2 (JJ_leg a0 hp) w
  by_cases hl : leg (rs a0 p) p = -1
  · have cR := fun w => Root_none a0 p hn hp h2 hm2 hl w
    rw [hl] at cJ
    clear hn hp hl h2
    go_enter Try.func8, Try.ntmps8
    go_wp2_with (first | (go_at_call 14; refine (cR _).mono ?_; rintro e w_hB1 ⟨rfl, hB1⟩) | (go_at_call 17; refine (cN _).mono ?_; rintro e w' ⟨rfl, hw⟩; subst w') | (go_at_call 18; refine (cM _).mono ?_; rintro e w' ⟨rfl, hw⟩; subst w') | (go_at_call 15; refine (cI _).mono ?_; rintro e w' ⟨rfl, hw⟩; subst w') | (go_at_call 9; refine (cJ _).mono ?_; rintro e w' ⟨rfl, hw⟩; subst w'))
    go_ret
    exact ⟨rfl, hB1⟩
  obtain ⟨r, hr, hrp⟩ := Least.ex hp (rs_lt a0 hm1) hl
  have cR := fun w => Root_yes a0 p r hn hp h2 hm2 hr w
  have h3 := leg_three (rs a0 p) p
  obtain ⟨j, hj⟩ : ∃ j, leg (rs a0 p) p = j := ⟨_, rfl⟩
  rw [hj] at cJ h3 hl
  have hj0 : 0 ≤ j := by omega
  have cX := fun w => refMod_at a2 p w hm1 hm2
  have cA := fun w => refMod_at a0 p w hm1 hm2
  have hxl := rs_lt a2 hm1
  obtain ⟨q1, q2⟩ := mul_bd hrp hrp hm2
  obtain ⟨q3, q4⟩ := mul_bd hxl hxl hm2
  have hr1 := hr.2.1
  have hr2 : ¬ (p : Int) < 2 * (r : Int) := by omega
  have hr3 : ((r : Int) * (r : Int) % (p : Int) != ((rs a0 p : Nat) : Int)) = false := by
    have := sq_beq (x := r) (p := p) (A := rs a0 p)
    rw [decide_eq_true hr.1] at this
    simp only [bne, this, Bool.not_true]
  have hd1 : decide ((r : Int) < 0) = false := decide_eq_false (by omega)
  have hd2 : decide ((p : Int) < 2 * (r : Int)) = false := decide_eq_false hr2
  have hfx := root_facts hr (rs a2 p) hxl
  have hp0 : ¬ (p : Int) = 0 := by omega
  have hp0' : ¬ p = 0 := by omega
  have hrp' : (r : Int) < (p : Int) := by omega
  have hr0 : 0 ≤ (r : Int) := by omega
  clear hn hp hl h2 hr hj h3
  obtain ⟨A, hA⟩ : ∃ A, rs a0 p = A := ⟨_, rfl⟩
  obtain ⟨X, hX⟩ : ∃ X, rs a2 p = X := ⟨_, rfl⟩
  rw [hA] at cA hr3 hfx
  rw [hX] at cX hfx hxl q3 q4
  clear hA hX
  rcases hfx with f1 | ⟨f1, f2⟩ | ⟨f1, f2, f3⟩
  · have f1' : ((X : Int) * (X : Int) % (p : Int) != (A : Int)) = true := by simp only [bne, f1, Bool.not_false]
    clear f1
    go_enter Try.func8, Try.ntmps8
    go_wp2_with (first | (go_at_call 14; refine (cR _).mono ?_; rintro e w_hB1 ⟨rfl, hB1⟩) | (go_at_call 17; refine (cN _).mono ?_; rintro e w' ⟨rfl, hw⟩; subst w') | (go_at_call 18; refine (cM _).mono ?_; rintro e w' ⟨rfl, hw⟩; subst w') | (go_at_call 15; refine (cI _).mono ?_; rintro e w' ⟨rfl, hw⟩; subst w') | (go_at_call 9; refine (cJ _).mono ?_; rintro e w' ⟨rfl, hw⟩; subst w'))
    go_quiet ((go_at_call 20; first | exact Calls.quiet_of_same (cA _) | exact quiet_at2 (cA _)))
    go_wp2_with (first | (go_at_call 20; refine (cX _).mono ?_; rintro e w' ⟨rfl, hw⟩; subst w'))
    go_quiet ((go_at_call 20; first | exact Calls.quiet_of_same (cA _) | exact quiet_at2 (cA _)))
    go_wp2
    go_ret
    exact ⟨rfl, below_drewN (below_drewN hB1 _) _⟩
  · have f1' : ((X : Int) * (X : Int) % (p : Int) != (A : Int)) = false := by simp only [bne, f1, Bool.not_true]
    clear f1
    go_enter Try.func8, Try.ntmps8
    go_wp2_with (first | (go_at_call 14; refine (cR _).mono ?_; rintro e w_hB1 ⟨rfl, hB1⟩) | (go_at_call 17; refine (cN _).mono ?_; rintro e w' ⟨rfl, hw⟩; subst w') | (go_at_call 18; refine (cM _).mono ?_; rintro e w' ⟨rfl, hw⟩; subst w') | (go_at_call 15; refine (cI _).mono ?_; rintro e w' ⟨rfl, hw⟩; subst w') | (go_at_call 9; refine (cJ _).mono ?_; rintro e w' ⟨rfl, hw⟩; subst w'))
    go_quiet ((go_at_call 20; first | exact Calls.quiet_of_same (cA _) | exact quiet_at2 (cA _)))
    go_wp2_with (first | (go_at_call 20; refine (cX _).mono ?_; rintro e w' ⟨rfl, hw⟩; subst w'))
    go_quiet ((go_at_call 20; first | exact Calls.quiet_of_same (cA _) | exact quiet_at2 (cA _)))
    go_wp2
    go_ret
    exact ⟨rfl, below_drewN (below_drewN hB1 _) _⟩
  · have f1' : ((X : Int) * (X : Int) % (p : Int) != (A : Int)) = false := by simp only [bne, f1, Bool.not_true]
    clear f1
    go_enter Try.func8, Try.ntmps8
    go_wp2_with (first | (go_at_call 14; refine (cR _).mono ?_; rintro e w_hB1 ⟨rfl, hB1⟩) | (go_at_call 17; refine (cN _).mono ?_; rintro e w' ⟨rfl, hw⟩; subst w') | (go_at_call 18; refine (cM _).mono ?_; rintro e w' ⟨rfl, hw⟩; subst w') | (go_at_call 15; refine (cI _).mono ?_; rintro e w' ⟨rfl, hw⟩; subst w') | (go_at_call 9; refine (cJ _).mono ?_; rintro e w' ⟨rfl, hw⟩; subst w'))
    go_quiet ((go_at_call 20; first | exact Calls.quiet_of_same (cA _) | exact quiet_at2 (cA _)))
    go_wp2_with (first | (go_at_call 20; refine (cX _).mono ?_; rintro e w' ⟨rfl, hw⟩; subst w'))
    go_quiet ((go_at_call 20; first | exact Calls.quiet_of_same (cA _) | exact quiet_at2 (cA _)))
    go_wp2
    go_ret
    exact ⟨rfl, below_drewN (below_drewN hB1 _) _⟩

/-! ### THE ROW's STEP: WRITTEN OUT: LEAVE IT -/
set_option maxRecDepth 100000 in
theorem lifted (os : Os) (started : os.Started) (H : Type) (enc : TypeId × Value → H) :
    ReturnsInHanded {} Try.checked os 8 .any (Rows.squaresRootSpec.pre6 enc Try.prog Try.f8 Rows.squaresRootRow.domain false) (Rows.squaresRootSpec.post enc Try.prog Try.f8 false true false false) := by
  refine returnsInHanded_of_change (C := Try.checked) own started (by kernel_rfl) Try.func8
    (ChangeSpec.witness6 (enc := enc) (C := Try.checked) false ⟨#[], #[.int .i64 0, .int .i64 0, .int .i64 0], []⟩ 8 (by kernel_rfl) (by kernel_rfl) (by kernel_rfl) (by kernel_rfl)) ?_
  intro W base args ds gs before hval0 hW hcnd _
  have hval : ∀ (j : Nat) t v, Try.f8.params[j]? = some t → args[j]? = some v → Value.okWide Try.prog W .any base t v := hval0
  have hW' := hW
  obtain ⟨p, q, hA0, hV, rfl, hfz, hnd⟩ := hW
  have hA : DataW.TrodAll enc Try.prog W 0 (fun _ => true) true Try.f8.params.toList args.toList ds p := hA0
  rw [Try.params8] at hA hval
  obtain ⟨v0, vs0, d0, ds0, p0, q0, hargs, rfl, rfl, h0, r0⟩ := trodAll_cons hA
  obtain ⟨v1, vs1, d1, ds1, p1, q1, rfl, rfl, rfl, h1, r1⟩ := trodAll_cons r0
  obtain ⟨v2, vs2, d2, ds2, p2, q2, rfl, rfl, rfl, h2, r2⟩ := trodAll_cons r1
  obtain ⟨rfl, rfl, rfl⟩ := trodAll_nil r2
  obtain rfl : args = #[v0, v1, v2] := by cases args; simp_all
  obtain ⟨rfl, rfl⟩ := trodVars_none hV
  obtain ⟨a0, rfl, rfl, rfl, w0⟩ := open_int Try.underlying2 (hval 0 2 v0 rfl rfl) h0
  obtain ⟨a1, rfl, rfl, rfl, w1⟩ := open_int Try.underlying2 (hval 1 2 v1 rfl rfl) h1
  obtain ⟨a2, rfl, rfl, rfl, w2⟩ := open_int Try.underlying2 (hval 2 2 v2 rfl rfl) h2
  clear hA0 hval0
  simp only [List.append_nil] at hW'
  refine (walk a0 a1 a2 w0 w1 w2 W).mono fun e W' ⟨he, hg⟩ => ?_
  subst he
  exact ⟨_, rfl, post_of_kept (pa := []) (pv := []) hW' (fun _ _ _ => (trodAll_cons_mk (shut_bool Try.underlying4 _) trodAll_mk0)) (fun sp _ => (trodAll_cons_mk (shut_int Try.underlying2 w0) (trodAll_cons_mk (shut_int Try.underlying2 w1) (trodAll_cons_mk (shut_int Try.underlying2 w2) trodAll_mk0)))) (fun _ _ => rfl) rfl
    (hg.frame _)⟩

theorem over : Rows.squaresRootRow.holds Try.pinned (OpenSpec.ofChange Rows.squaresRootSpec) :=
  OpenClaim.holds_of_wide 8 Try.f8 rfl rfl rfl rfl rfl rfl rfl ⟨rfl, rfl, rfl, rfl, rfl⟩ rfl rfl rfl rfl rfl (by kernel_rfl) Try.func8 (by kernel_rfl)
    (of_decide_eq_true (by kernel_rfl)) (by unfold Func.isWrapper; first | (rw [if_pos (by decide +kernel)]; kernel_rfl) | (rw [if_neg (by decide +kernel)]; exact ⟨rfl, rfl⟩))
    (fun os started H enc _ => lifted os started H enc)

/-- ████ THE STATEMENT ████ -/
theorem proved : Rows.SquaresRootSaid :=
  over
end Go.Proofs.Ytmlhjmajhgcleaa.squaresRoot
