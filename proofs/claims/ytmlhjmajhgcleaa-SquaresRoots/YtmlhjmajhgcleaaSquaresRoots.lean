/-
  For all numbers a and p: the program tells the least root of a by p, or that there is none, or what is wrong with them, as the document's own search one by one does.
-/
import Derived.Test.YtmlhjmajhgcleaaRows
import Derived.Test.YtmlhjmajhgcleaaCalls30
import Derived.Test.YtmlhjmajhgcleaaCalls31
import Derived.WalkKit
import Derived.ProofKit
import Derived.OpenShut
namespace Go.Proofs.Ytmlhjmajhgcleaa.squaresRoots
open Go.Proofs.Ytmlhjmajhgcleaa.Num Go.Proofs.Ytmlhjmajhgcleaa.Num9 Go.Proofs.Ytmlhjmajhgcleaa.Num10 Go.Proofs.Ytmlhjmajhgcleaa.Num13 Go.Proofs.Ytmlhjmajhgcleaa.Num29 Go.Proofs.Ytmlhjmajhgcleaa.Calls8 Go.Proofs.Ytmlhjmajhgcleaa.Calls9 Go.Proofs.Ytmlhjmajhgcleaa.Calls11 Go.Proofs.Ytmlhjmajhgcleaa.Calls19 Go.Proofs.Ytmlhjmajhgcleaa.Calls20 Go.Proofs.Ytmlhjmajhgcleaa.Calls29 Go.Proofs.Ytmlhjmajhgcleaa.Calls30 Go.Proofs.Ytmlhjmajhgcleaa.Calls31
open Go.ChangeShapes Go.WideShapes Go.ChangeAt Go.RowKit
set_option linter.unusedVariables false      -- a walk need not use every 'w<i>' (that an integer argument fits its kind)

theorem own : ownKnob Try.prog.godebug = none := by kernel_rfl

theorem walk (a0 : Int) (a1 : Int) (w0 : (Lit.int .i64 a0).wf = true) (w1 : (Lit.int .i64 a1).wf = true) (w : World) :
    Calls Try.prog 4 #[.int .i64 a0, .int .i64 a1] w fun e w' => e = .returned (.bool true) ∧ Below w.heap.size w w' := by
  obtain ⟨c1, c2, cB, cM, cF⟩ := gate_any a0 a1
  by_cases hg : Nr a0 ∧ Md a1
  · rw [if_pos hg] at cF
    obtain ⟨hn, m1, m2⟩ := hg
    obtain ⟨p, rfl⟩ : ∃ m : Nat, a1 = (m : Int) := ⟨a1.toNat, by omega⟩
    have hm1 : 1 ≤ p := by omega
    have hm2 : p ≤ 1048576 := by omega
    have cI := fun w => refIs_any p hm2 w
    by_cases h2 : p = 2
    · subst h2
      have cR := fun w => Root_arg a0 2 hn hm1 hm2 (.inr rfl) w
      clear hn
      go_enter Try.func4, Try.ntmps4
      go_wp2_with (first | (go_at_call 14; refine (cR _).mono ?_; rintro e w_hB1 ⟨rfl, hB1⟩) | (go_at_call 11; refine (cB _).mono ?_; rintro e w' ⟨rfl, hw⟩; subst w') | (go_at_call 12; refine (cM _).mono ?_; rintro e w' ⟨rfl, hw⟩; subst w') | (go_at_call 10; refine (cF _).mono ?_; rintro e w' ⟨rfl, hw⟩; subst w') | (go_at_call 15; refine (cI _).mono ?_; rintro e w' ⟨rfl, hw⟩; subst w'))
      go_ret
      exact ⟨rfl, hB1⟩
    · have h2' := beq_f (show ¬ (p : Int) = 2 by omega)
      by_cases hp : Pr p
      · rw [(prB_iff p).2 hp] at cI
        by_cases hl : leg (rs a0 p) p = -1
        · have cR := fun w => Root_none a0 p hn hp h2 hm2 hl w
          have cQ := fun w => refRoot_none a0 p hm1 hm2 (fun y _ hy => leg_no hm1 hl y (by rw [rs_mod a0 hm1]; exact hy)) w
          clear hn hp hl h2
          go_enter Try.func4, Try.ntmps4
          go_wp2_with (first | (go_at_call 14; refine (cR _).mono ?_; rintro e w_hB1 ⟨rfl, hB1⟩) | (go_at_call 11; refine (cB _).mono ?_; rintro e w' ⟨rfl, hw⟩; subst w') | (go_at_call 12; refine (cM _).mono ?_; rintro e w' ⟨rfl, hw⟩; subst w') | (go_at_call 10; refine (cF _).mono ?_; rintro e w' ⟨rfl, hw⟩; subst w') | (go_at_call 15; refine (cI _).mono ?_; rintro e w' ⟨rfl, hw⟩; subst w') | (go_at_call 16; refine (cQ _).mono ?_; rintro e w_hB2 ⟨rfl, hB2⟩))
          go_ret
          exact ⟨rfl, below_trans hB1 hB2⟩
        · obtain ⟨r, hr, hrp⟩ := Least.ex hp (rs_lt a0 hm1) hl
          have cR := fun w => Root_yes a0 p r hn hp h2 hm2 hr w
          have cQ := fun w => refRoot_yes a0 p r hm1 hm2 hrp ⟨hr.1, hr.2.2.1⟩ w
          clear hn hp hl h2 hr
          go_enter Try.func4, Try.ntmps4
          go_wp2_with (first | (go_at_call 14; refine (cR _).mono ?_; rintro e w_hB1 ⟨rfl, hB1⟩) | (go_at_call 11; refine (cB _).mono ?_; rintro e w' ⟨rfl, hw⟩; subst w') | (go_at_call 12; refine (cM _).mono ?_; rintro e w' ⟨rfl, hw⟩; subst w') | (go_at_call 10; refine (cF _).mono ?_; rintro e w' ⟨rfl, hw⟩; subst w') | (go_at_call 15; refine (cI _).mono ?_; rintro e w' ⟨rfl, hw⟩; subst w') | (go_at_call 16; refine (cQ _).mono ?_; rintro e wQ ⟨rfl, hBQ⟩; have hB1 := below_trans hB1 hBQ))
          go_ret
          exact ⟨rfl, hB1⟩
      · have hpb : prB p = false := by
          cases h : prB p
          · rfl
          · exact absurd ((prB_iff p).1 h) hp
        rw [hpb] at cI
        have cR := fun w => Root_arg a0 p hn hm1 hm2 (.inl hp) w
        clear hn hp hpb h2
        go_enter Try.func4, Try.ntmps4
        go_wp2_with (first | (go_at_call 14; refine (cR _).mono ?_; rintro e w_hB1 ⟨rfl, hB1⟩) | (go_at_call 11; refine (cB _).mono ?_; rintro e w' ⟨rfl, hw⟩; subst w') | (go_at_call 12; refine (cM _).mono ?_; rintro e w' ⟨rfl, hw⟩; subst w') | (go_at_call 10; refine (cF _).mono ?_; rintro e w' ⟨rfl, hw⟩; subst w') | (go_at_call 15; refine (cI _).mono ?_; rintro e w' ⟨rfl, hw⟩; subst w'))
        go_ret
        exact ⟨rfl, hB1⟩
  · rw [if_neg hg] at cF
    have cR := fun w => Root_no a0 a1 hg w
    clear hg
    go_enter Try.func4, Try.ntmps4
    go_wp2_with (first | (go_at_call 14; refine (cR _).mono ?_; rintro e w_hB1 ⟨rfl, hB1⟩) | (go_at_call 11; refine (cB _).mono ?_; rintro e w' ⟨rfl, hw⟩; subst w') | (go_at_call 12; refine (cM _).mono ?_; rintro e w' ⟨rfl, hw⟩; subst w') | (go_at_call 10; refine (cF _).mono ?_; rintro e w' ⟨rfl, hw⟩; subst w'))
    go_ret
    exact ⟨rfl, hB1⟩

/-! ### THE ROW's STEP: WRITTEN OUT: LEAVE IT -/
set_option maxRecDepth 100000 in
theorem lifted (os : Os) (started : os.Started) (H : Type) (enc : TypeId × Value → H) :
    ReturnsInHanded {} Try.checked os 4 .any (Rows.squaresRootsSpec.pre6 enc Try.prog Try.f4 Rows.squaresRootsRow.domain false) (Rows.squaresRootsSpec.post enc Try.prog Try.f4 false true false false) := by
  refine returnsInHanded_of_change (C := Try.checked) own started (by kernel_rfl) Try.func4
    (ChangeSpec.witness6 (enc := enc) (C := Try.checked) false ⟨#[], #[.int .i64 0, .int .i64 0], []⟩ 8 (by kernel_rfl) (by kernel_rfl) (by kernel_rfl) (by kernel_rfl)) ?_
  intro W base args ds gs before hval0 hW hcnd _
  have hval : ∀ (j : Nat) t v, Try.f4.params[j]? = some t → args[j]? = some v → Value.okWide Try.prog W .any base t v := hval0
  have hW' := hW
  obtain ⟨p, q, hA0, hV, rfl, hfz, hnd⟩ := hW
  have hA : DataW.TrodAll enc Try.prog W 0 (fun _ => true) true Try.f4.params.toList args.toList ds p := hA0
  rw [Try.params4] at hA hval
  obtain ⟨v0, vs0, d0, ds0, p0, q0, hargs, rfl, rfl, h0, r0⟩ := trodAll_cons hA
  obtain ⟨v1, vs1, d1, ds1, p1, q1, rfl, rfl, rfl, h1, r1⟩ := trodAll_cons r0
  obtain ⟨rfl, rfl, rfl⟩ := trodAll_nil r1
  obtain rfl : args = #[v0, v1] := by cases args; simp_all
  obtain ⟨rfl, rfl⟩ := trodVars_none hV
  obtain ⟨a0, rfl, rfl, rfl, w0⟩ := open_int Try.underlying2 (hval 0 2 v0 rfl rfl) h0
  obtain ⟨a1, rfl, rfl, rfl, w1⟩ := open_int Try.underlying2 (hval 1 2 v1 rfl rfl) h1
  clear hA0 hval0
  simp only [List.append_nil] at hW'
  refine (walk a0 a1 w0 w1 W).mono fun e W' ⟨he, hg⟩ => ?_
  subst he
  exact ⟨_, rfl, post_of_kept (pa := []) (pv := []) hW' (fun _ _ _ => (trodAll_cons_mk (shut_bool Try.underlying4 _) trodAll_mk0)) (fun sp _ => (trodAll_cons_mk (shut_int Try.underlying2 w0) (trodAll_cons_mk (shut_int Try.underlying2 w1) trodAll_mk0))) (fun _ _ => rfl) rfl
    (hg.frame _)⟩

theorem over : Rows.squaresRootsRow.holds Try.pinned (OpenSpec.ofChange Rows.squaresRootsSpec) :=
  OpenClaim.holds_of_wide 4 Try.f4 rfl rfl rfl rfl rfl rfl rfl ⟨rfl, rfl, rfl, rfl, rfl⟩ rfl rfl rfl rfl rfl (by kernel_rfl) Try.func4 (by kernel_rfl)
    (of_decide_eq_true (by kernel_rfl)) (by unfold Func.isWrapper; first | (rw [if_pos (by decide +kernel)]; kernel_rfl) | (rw [if_neg (by decide +kernel)]; exact ⟨rfl, rfl⟩))
    (fun os started H enc _ => lifted os started H enc)

/-- ████ THE STATEMENT ████ -/
theorem proved : Rows.SquaresRootsSaid :=
  over
end Go.Proofs.Ytmlhjmajhgcleaa.squaresRoots
