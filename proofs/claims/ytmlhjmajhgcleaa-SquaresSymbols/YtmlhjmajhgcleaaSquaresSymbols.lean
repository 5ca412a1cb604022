/-
  For all numbers a and n: the program tells Jacobi's symbol of a by n, or what is wrong with them, as the document's own product over the primes of n does.
-/
import Derived.Test.YtmlhjmajhgcleaaRows
import Derived.Test.YtmlhjmajhgcleaaCalls30
import Derived.Test.YtmlhjmajhgcleaaCalls31
import Derived.WalkKit
import Derived.ProofKit
import Derived.OpenShut
namespace Go.Proofs.Ytmlhjmajhgcleaa.squaresSymbols
open Go.Proofs.Ytmlhjmajhgcleaa.Num Go.Proofs.Ytmlhjmajhgcleaa.Num9 Go.Proofs.Ytmlhjmajhgcleaa.Num10 Go.Proofs.Ytmlhjmajhgcleaa.Num13 Go.Proofs.Ytmlhjmajhgcleaa.Num29 Go.Proofs.Ytmlhjmajhgcleaa.Calls8 Go.Proofs.Ytmlhjmajhgcleaa.Calls9 Go.Proofs.Ytmlhjmajhgcleaa.Calls11 Go.Proofs.Ytmlhjmajhgcleaa.Calls19 Go.Proofs.Ytmlhjmajhgcleaa.Calls20 Go.Proofs.Ytmlhjmajhgcleaa.Calls29 Go.Proofs.Ytmlhjmajhgcleaa.Calls30 Go.Proofs.Ytmlhjmajhgcleaa.Calls31
open Go.ChangeShapes Go.WideShapes Go.ChangeAt Go.RowKit
set_option linter.unusedVariables false      -- a walk need not use every 'w<i>' (that an integer argument fits its kind)

theorem own : ownKnob Try.prog.godebug = none := by kernel_rfl

theorem walk (a0 : Int) (a1 : Int) (w0 : (Lit.int .i64 a0).wf = true) (w1 : (Lit.int .i64 a1).wf = true) (w : World) :
    Calls Try.prog 3 #[.int .i64 a0, .int .i64 a1] w fun e w' => e = .returned (.bool true) ∧ Below w.heap.size w w' := by
  obtain ⟨c1, c2, cB, cM, cF⟩ := gate_any a0 a1
  by_cases hg : Nr a0 ∧ Md a1
  · rw [if_pos hg] at cF
    obtain ⟨hn, m1, m2⟩ := hg
    obtain ⟨m, rfl⟩ : ∃ m : Nat, a1 = (m : Int) := ⟨a1.toNat, by omega⟩
    have hm1 : 1 ≤ m := by omega
    have hm2 : m ≤ 1048576 := by omega
    by_cases ho : m % 2 = 1
    · have h2 := beq_f (show ¬ (m : Int) % 2 = 0 by omega)
      obtain ⟨J, hJ⟩ := JJ.ex a0 hm1
      have cJ := fun w => Jacobi_yes a0 m J hn ho hm2 hJ w
      have cR := fun w => refJacobi_any a0 m J hm1 hm2 hJ w
      clear hJ ho hn
      go_enter Try.func3, Try.ntmps3
      go_wp2_with (first | (go_at_call 9; refine (cJ _).mono ?_; rintro e w' ⟨rfl, hw⟩; subst w') | (go_at_call 11; refine (cB _).mono ?_; rintro e w' ⟨rfl, hw⟩; subst w') | (go_at_call 12; refine (cM _).mono ?_; rintro e w' ⟨rfl, hw⟩; subst w') | (go_at_call 10; refine (cF _).mono ?_; rintro e w' ⟨rfl, hw⟩; subst w') | (go_at_call 13; refine (cR _).mono ?_; rintro e w_hB1 ⟨rfl, hB1⟩))
      go_ret
      exact ⟨rfl, hB1⟩
    · have h2 := beq_t (show (m : Int) % 2 = 0 by omega)
      have cJ := fun w => Jacobi_no a0 (m : Int) (fun h => ho (by have := h.2.2; omega)) w
      clear ho hn
      go_enter Try.func3, Try.ntmps3
      go_wp2_with (first | (go_at_call 9; refine (cJ _).mono ?_; rintro e w' ⟨rfl, hw⟩; subst w') | (go_at_call 11; refine (cB _).mono ?_; rintro e w' ⟨rfl, hw⟩; subst w') | (go_at_call 12; refine (cM _).mono ?_; rintro e w' ⟨rfl, hw⟩; subst w') | (go_at_call 10; refine (cF _).mono ?_; rintro e w' ⟨rfl, hw⟩; subst w'))
      go_ret
      exact ⟨rfl, Below.refl _ _⟩
  · rw [if_neg hg] at cF
    have cJ := fun w => Jacobi_no a0 a1 (fun h => hg ⟨h.1, h.2.1⟩) w
    clear hg
    go_enter Try.func3, Try.ntmps3
    go_wp2_with (first | (go_at_call 9; refine (cJ _).mono ?_; rintro e w' ⟨rfl, hw⟩; subst w') | (go_at_call 11; refine (cB _).mono ?_; rintro e w' ⟨rfl, hw⟩; subst w') | (go_at_call 12; refine (cM _).mono ?_; rintro e w' ⟨rfl, hw⟩; subst w') | (go_at_call 10; refine (cF _).mono ?_; rintro e w' ⟨rfl, hw⟩; subst w'))
    all_goals go_ret
    all_goals exact ⟨rfl, Below.refl _ _⟩

/-! ### THE ROW's STEP: WRITTEN OUT: LEAVE IT -/
set_option maxRecDepth 100000 in
theorem lifted (os : Os) (started : os.Started) (H : Type) (enc : TypeId × Value → H) :
    ReturnsInHanded {} Try.checked os 3 .any (Rows.squaresSymbolsSpec.pre6 enc Try.prog Try.f3 Rows.squaresSymbolsRow.domain false) (Rows.squaresSymbolsSpec.post enc Try.prog Try.f3 false true false false) := by
  refine returnsInHanded_of_change (C := Try.checked) own started (by kernel_rfl) Try.func3
    (ChangeSpec.witness6 (enc := enc) (C := Try.checked) false ⟨#[], #[.int .i64 0, .int .i64 0], []⟩ 8 (by kernel_rfl) (by kernel_rfl) (by kernel_rfl) (by kernel_rfl)) ?_
  intro W base args ds gs before hval0 hW hcnd _
  have hval : ∀ (j : Nat) t v, Try.f3.params[j]? = some t → args[j]? = some v → Value.okWide Try.prog W .any base t v := hval0
  have hW' := hW
  obtain ⟨p, q, hA0, hV, rfl, hfz, hnd⟩ := hW
  have hA : DataW.TrodAll enc Try.prog W 0 (fun _ => true) true Try.f3.params.toList args.toList ds p := hA0
  rw [Try.params3] at hA hval
  obtain ⟨v0, vs0, d0, ds0, p0, q0, hargs, rfl, rfl, h0, r0⟩ := trodAll_cons hA
  obtain ⟨v1, vs1, d1, ds1, p1, q1, rfl, rfl, rfl, h1, r1⟩ := trodAll_cons r0
  obtain ⟨rfl, rfl, rfl⟩ := trodAll_nil r1
  obtain rfl : args = #[v0, v1] := by cases args; simp_all
  obtain ⟨rfl, rfl⟩ := trodVars_none hV
  obtain ⟨a0, rfl, rfl, rfl, w0⟩ := open_int Try.underlying2 (hval 0 2 v0 rfl rfl) h0
  obtain ⟨a1, rfl, rfl, rfl, w1⟩ := open_int Try.underlying2 (hval 1 2 v1 rfl rfl) h1
  clear hA0 hval0
  simp only [List.append_nil] at hW'
  refine (walk a0 a1 w0 w1 W).mono fun e W' ⟨he, hg⟩ => ?_
  subst he
  exact ⟨_, rfl, post_of_kept (pa := []) (pv := []) hW' (fun _ _ _ => (trodAll_cons_mk (shut_bool Try.underlying4 _) trodAll_mk0)) (fun sp _ => (trodAll_cons_mk (shut_int Try.underlying2 w0) (trodAll_cons_mk (shut_int Try.underlying2 w1) trodAll_mk0))) (fun _ _ => rfl) rfl
    (hg.frame _)⟩

theorem over : Rows.squaresSymbolsRow.holds Try.pinned (OpenSpec.ofChange Rows.squaresSymbolsSpec) :=
  OpenClaim.holds_of_wide 3 Try.f3 rfl rfl rfl rfl rfl rfl rfl ⟨rfl, rfl, rfl, rfl, rfl⟩ rfl rfl rfl rfl rfl (by kernel_rfl) Try.func3 (by kernel_rfl)
    (of_decide_eq_true (by kernel_rfl)) (by unfold Func.isWrapper; first | (rw [if_pos (by decide +kernel)]; kernel_rfl) | (rw [if_neg (by decide +kernel)]; exact ⟨rfl, rfl⟩))
    (fun os started H enc _ => lifted os started H enc)

/-- ████ THE STATEMENT ████ -/
theorem proved : Rows.SquaresSymbolsSaid :=
  over
end Go.Proofs.Ytmlhjmajhgcleaa.squaresSymbols
