/-
  For all numbers a and p: if p is an odd prime from 3 on, what a to the half of p less 1 leaves is what Jacobi has of a by p, by p; of 1 Jacobi has 1; and what is out of range is refused.
-/
import Derived.Test.YtmlhjmajhgcleaaRows
import Derived.Test.YtmlhjmajhgcleaaCalls30
import Derived.Test.YtmlhjmajhgcleaaCalls31
import Derived.WalkKit
import Derived.ProofKit
import Derived.OpenShut
namespace Go.Proofs.Ytmlhjmajhgcleaa.squaresEuler
open Go.Proofs.Ytmlhjmajhgcleaa.Num Go.Proofs.Ytmlhjmajhgcleaa.Num9 Go.Proofs.Ytmlhjmajhgcleaa.Num10 Go.Proofs.Ytmlhjmajhgcleaa.Num13 Go.Proofs.Ytmlhjmajhgcleaa.Num29 Go.Proofs.Ytmlhjmajhgcleaa.Calls8 Go.Proofs.Ytmlhjmajhgcleaa.Calls9 Go.Proofs.Ytmlhjmajhgcleaa.Calls11 Go.Proofs.Ytmlhjmajhgcleaa.Calls19 Go.Proofs.Ytmlhjmajhgcleaa.Calls20 Go.Proofs.Ytmlhjmajhgcleaa.Calls29 Go.Proofs.Ytmlhjmajhgcleaa.Calls30 Go.Proofs.Ytmlhjmajhgcleaa.Calls31
open Go.ChangeShapes Go.WideShapes Go.ChangeAt Go.RowKit
set_option linter.unusedVariables false      -- a walk need not use every 'w<i>' (that an integer argument fits its kind)

theorem own : ownKnob Try.prog.godebug = none := by kernel_rfl

theorem walk (a0 : Int) (a1 : Int) (w0 : (Lit.int .i64 a0).wf = true) (w1 : (Lit.int .i64 a1).wf = true) (w : World) :
    Calls Try.prog 5 #[.int .i64 a0, .int .i64 a1] w fun e w' => e = .returned (.bool true) ∧ Below w.heap.size w w' := by
  have cN := fun w => near_any a0 w
  by_cases hn : -2147483648 ≤ a0 ∧ a0 ≤ 2147483648
  · rw [decide_eq_true hn] at cN
    by_cases hg : Md a1
    · obtain ⟨m1, m2⟩ := hg
      obtain ⟨p, rfl⟩ : ∃ m : Nat, a1 = (m : Int) := ⟨a1.toNat, by omega⟩
      have hm1 : 1 ≤ p := by omega
      have hm2 : p ≤ 1048576 := by omega
      have cM := fun w => kmodulus_yes (p : Int) m1 m2 w
      by_cases ho : p % 2 = 1
      · have h2 := beq_f (show ¬ (p : Int) % 2 = 0 by omega)
        obtain ⟨J, hJ⟩ := JJ.ex a0 hm1
        have cJ := fun w => Jacobi_yes a0 p J hn ho hm2 hJ w
        have cP : ∀ w, Calls Try.prog 19 #[.int .i64 a0, .int .i64 (((p : Int) - 1) / 2), .int .i64 (p : Int)] w fun e w' => e = .returned (.tuple #[.int .i64 (pw a0 ((p - 1) / 2) p : Int), .int .i64 0]) ∧ w' = w := by
          intro w
          rw [show ((p : Int) - 1) / 2 = (((p - 1) / 2 : Nat) : Int) by omega]
          exact Pow_yes a0 _ p hn.1 hn.2 (by omega) hm1 hm2 w
        have cI := fun w => refIs_any p hm2 w
        have cR := fun w => refMod_at J p w hm1 hm2
        by_cases h1 : p = 1
        · subst h1
          have e := hJ.at_one
          subst e
          clear hJ ho hn
          go_enter Try.func5, Try.ntmps5
          go_wp2_with (first | (go_at_call 9; refine (cJ _).mono ?_; rintro e w' ⟨rfl, hw⟩; subst w') | (go_at_call 17; refine (cN _).mono ?_; rintro e w' ⟨rfl, hw⟩; subst w') | (go_at_call 18; refine (cM _).mono ?_; rintro e w' ⟨rfl, hw⟩; subst w') | (go_at_call 19; refine (cP _).mono ?_; rintro e w' ⟨rfl, hw⟩; subst w'))
          go_ret
          exact ⟨rfl, Below.refl _ _⟩
        · have h11 := beq_f (show ¬ (p : Int) = 1 by omega)
          have h12 : 1 < (p : Int) := by omega
          by_cases hp : Pr p
          · rw [(prB_iff p).2 hp] at cI
            have e := hJ.euler hp (by omega)
            rw [e] at cP
            clear hJ ho hn hp e h1
            go_enter Try.func5, Try.ntmps5
            go_wp2_with (first | (go_at_call 9; refine (cJ _).mono ?_; rintro e w' ⟨rfl, hw⟩; subst w') | (go_at_call 17; refine (cN _).mono ?_; rintro e w' ⟨rfl, hw⟩; subst w') | (go_at_call 18; refine (cM _).mono ?_; rintro e w' ⟨rfl, hw⟩; subst w') | (go_at_call 19; refine (cP _).mono ?_; rintro e w' ⟨rfl, hw⟩; subst w') | (go_at_call 15; refine (cI _).mono ?_; rintro e w' ⟨rfl, hw⟩; subst w') | (go_at_call 20; refine (cR _).mono ?_; rintro e w' ⟨rfl, hw⟩; subst w'))
            go_ret
            exact ⟨rfl, Below.refl _ _⟩
          · have hpb : prB p = false := by
              cases h : prB p
              · rfl
              · exact absurd ((prB_iff p).1 h) hp
            rw [hpb] at cI
            clear hJ ho hn hp hpb h1
            go_enter Try.func5, Try.ntmps5
            go_wp2_with (first | (go_at_call 9; refine (cJ _).mono ?_; rintro e w' ⟨rfl, hw⟩; subst w') | (go_at_call 17; refine (cN _).mono ?_; rintro e w' ⟨rfl, hw⟩; subst w') | (go_at_call 18; refine (cM _).mono ?_; rintro e w' ⟨rfl, hw⟩; subst w') | (go_at_call 19; refine (cP _).mono ?_; rintro e w' ⟨rfl, hw⟩; subst w') | (go_at_call 15; refine (cI _).mono ?_; rintro e w' ⟨rfl, hw⟩; subst w'))
            go_ret
            exact ⟨rfl, Below.refl _ _⟩
      · have h2 := beq_t (show (p : Int) % 2 = 0 by omega)
        have cJ := fun w => Jacobi_no a0 (p : Int) (fun h => ho (by have := h.2.2; omega)) w
        clear ho hn
        go_enter Try.func5, Try.ntmps5
        go_wp2_with (first | (go_at_call 9; refine (cJ _).mono ?_; rintro e w' ⟨rfl, hw⟩; subst w') | (go_at_call 17; refine (cN _).mono ?_; rintro e w' ⟨rfl, hw⟩; subst w') | (go_at_call 18; refine (cM _).mono ?_; rintro e w' ⟨rfl, hw⟩; subst w'))
        go_ret
        exact ⟨rfl, Below.refl _ _⟩
    · have cM := fun w => kmodulus_no a1 hg w
      have cJ := fun w => Jacobi_no a0 a1 (fun h => hg h.2.1) w
      clear hn hg
      go_enter Try.func5, Try.ntmps5
      go_wp2_with (first | (go_at_call 9; refine (cJ _).mono ?_; rintro e w' ⟨rfl, hw⟩; subst w') | (go_at_call 17; refine (cN _).mono ?_; rintro e w' ⟨rfl, hw⟩; subst w') | (go_at_call 18; refine (cM _).mono ?_; rintro e w' ⟨rfl, hw⟩; subst w'))
      go_ret
      exact ⟨rfl, Below.refl _ _⟩
  · rw [decide_eq_false hn] at cN
    have cJ := fun w => Jacobi_no a0 a1 (fun h => hn h.1) w
    clear hn
    go_enter Try.func5, Try.ntmps5
    go_wp2_with (first | (go_at_call 9; refine (cJ _).mono ?_; rintro e w' ⟨rfl, hw⟩; subst w') | (go_at_call 17; refine (cN _).mono ?_; rintro e w' ⟨rfl, hw⟩; subst w'))
    go_ret
    exact ⟨rfl, Below.refl _ _⟩

/-! ### THE ROW's STEP: WRITTEN OUT: LEAVE IT -/
set_option maxRecDepth 100000 in
theorem lifted (os : Os) (started : os.Started) (H : Type) (enc : TypeId × Value → H) :
    ReturnsInHanded {} Try.checked os 5 .any (Rows.squaresEulerSpec.pre6 enc Try.prog Try.f5 Rows.squaresEulerRow.domain false) (Rows.squaresEulerSpec.post enc Try.prog Try.f5 false true false false) := by
  refine returnsInHanded_of_change (C := Try.checked) own started (by kernel_rfl) Try.func5
    (ChangeSpec.witness6 (enc := enc) (C := Try.checked) false ⟨#[], #[.int .i64 0, .int .i64 0], []⟩ 8 (by kernel_rfl) (by kernel_rfl) (by kernel_rfl) (by kernel_rfl)) ?_
  intro W base args ds gs before hval0 hW hcnd _
  have hval : ∀ (j : Nat) t v, Try.f5.params[j]? = some t → args[j]? = some v → Value.okWide Try.prog W .any base t v := hval0
  have hW' := hW
  obtain ⟨p, q, hA0, hV, rfl, hfz, hnd⟩ := hW
  have hA : DataW.TrodAll enc Try.prog W 0 (fun _ => true) true Try.f5.params.toList args.toList ds p := hA0
  rw [Try.params5] at hA hval
  obtain ⟨v0, vs0, d0, ds0, p0, q0, hargs, rfl, rfl, h0, r0⟩ := trodAll_cons hA
  obtain ⟨v1, vs1, d1, ds1, p1, q1, rfl, rfl, rfl, h1, r1⟩ := trodAll_cons r0
  obtain ⟨rfl, rfl, rfl⟩ := trodAll_nil r1
  obtain rfl : args = #[v0, v1] := by cases args; simp_all
  obtain ⟨rfl, rfl⟩ := trodVars_none hV
  obtain ⟨a0, rfl, rfl, rfl, w0⟩ := open_int Try.underlying2 (hval 0 2 v0 rfl rfl) h0
  obtain ⟨a1, rfl, rfl, rfl, w1⟩ := open_int Try.underlying2 (hval 1 2 v1 rfl rfl) h1
  clear hA0 hval0
  simp only [List.append_nil] at hW'
  refine (walk a0 a1 w0 w1 W).mono fun e W' ⟨he, hg⟩ => ?_
  subst he
  exact ⟨_, rfl, post_of_kept (pa := []) (pv := []) hW' (fun _ _ _ => (trodAll_cons_mk (shut_bool Try.underlying4 _) trodAll_mk0)) (fun sp _ => (trodAll_cons_mk (shut_int Try.underlying2 w0) (trodAll_cons_mk (shut_int Try.underlying2 w1) trodAll_mk0))) (fun _ _ => rfl) rfl
    (hg.frame _)⟩

theorem over : Rows.squaresEulerRow.holds Try.pinned (OpenSpec.ofChange Rows.squaresEulerSpec) :=
  OpenClaim.holds_of_wide 5 Try.f5 rfl rfl rfl rfl rfl rfl rfl ⟨rfl, rfl, rfl, rfl, rfl⟩ rfl rfl rfl rfl rfl (by kernel_rfl) Try.func5 (by kernel_rfl)
    (of_decide_eq_true (by kernel_rfl)) (by unfold Func.isWrapper; first | (rw [if_pos (by decide +kernel)]; kernel_rfl) | (rw [if_neg (by decide +kernel)]; exact ⟨rfl, rfl⟩))
    (fun os started H enc _ => lifted os started H enc)

/-- ████ THE STATEMENT ████ -/
theorem proved : Rows.SquaresEulerSaid :=
  over
end Go.Proofs.Ytmlhjmajhgcleaa.squaresEuler
