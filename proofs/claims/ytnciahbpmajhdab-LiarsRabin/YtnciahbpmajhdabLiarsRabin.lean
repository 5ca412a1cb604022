/-
  For every odd number n from 3 to the greatest that is counted: of a prime all of 1 to n less 1 seem to prove it one by square roots of 1; of another one two at least, and a quarter of all below it at most; and what is out of range is refused.
-/
import Derived.Test.YtnciahbpmajhdabRows
import Derived.Test.YtnciahbpmajhdabCalls32
import Derived.Test.YtnciahbpmajhdabCalls34
import Derived.WalkKit
import Derived.ProofKit
import Derived.OpenShut
namespace Go.Proofs.Ytnciahbpmajhdab.liarsRabin
open Go.Proofs.Ytnciahbpmajhdab.Num Go.Proofs.Ytnciahbpmajhdab.Num3 Go.Proofs.Ytnciahbpmajhdab.Num9 Go.Proofs.Ytnciahbpmajhdab.Num10 Go.Proofs.Ytnciahbpmajhdab.Num13 Go.Proofs.Ytnciahbpmajhdab.Num29 Go.Proofs.Ytnciahbpmajhdab.Num30 Go.Proofs.Ytnciahbpmajhdab.Calls8 Go.Proofs.Ytnciahbpmajhdab.Calls9 Go.Proofs.Ytnciahbpmajhdab.Calls19 Go.Proofs.Ytnciahbpmajhdab.Calls20 Go.Proofs.Ytnciahbpmajhdab.Calls29 Go.Proofs.Ytnciahbpmajhdab.Calls32 Go.Proofs.Ytnciahbpmajhdab.Calls34
open Go.ChangeShapes Go.WideShapes Go.ChangeAt Go.RowKit
set_option linter.unusedVariables false      -- a walk need not use every 'w<i>' (that an integer argument fits its kind)

theorem own : ownKnob Try.prog.godebug = none := by kernel_rfl

theorem walk (a0 : Int) (w0 : (Lit.int .i64 a0).wf = true) (w : World) :
    Calls Try.prog 3 #[.int .i64 a0] w fun e w' => e = .returned (.bool true) ∧ Below w.heap.size w w' := by
  by_cases h1 : a0 < 3
  · have cC := fun w => Count_no a0 (fun h => by have := h.1.1; omega) w
    go_enter Try.func3, Try.ntmps3
    go_wp2_with (first | (go_at_call 5; refine (cC _).mono ?_; rintro e w' ⟨rfl, hw⟩; subst w'))
    go_ret
    exact ⟨rfl, Below.refl _ _⟩
  · by_cases h2 : 4096 < a0
    · have cC := fun w => Count_no a0 (fun h => by have := h.2; omega) w
      go_enter Try.func3, Try.ntmps3
      go_wp2_with (first | (go_at_call 5; refine (cC _).mono ?_; rintro e w' ⟨rfl, hw⟩; subst w'))
      go_ret
      exact ⟨rfl, Below.refl _ _⟩
    · obtain ⟨n, rfl⟩ : ∃ m : Nat, a0 = (m : Int) := ⟨a0.toNat, by omega⟩
      by_cases h3 : n % 2 = 0
      · have cC := fun w => Count_no (n : Int) (fun h => by have := h.1.2.2; omega) w
        have h5 := beq_t (show (n : Int) % 2 = 0 by omega)
        clear h3
        go_enter Try.func3, Try.ntmps3
        go_wp2_with (first | (go_at_call 5; refine (cC _).mono ?_; rintro e w' ⟨rfl, hw⟩; subst w'))
        go_ret
        exact ⟨rfl, Below.refl _ _⟩
      · have h5 := beq_f (show ¬ (n : Int) % 2 = 0 by omega)
        obtain ⟨s, d, H⟩ := Odd2.ex (n := n) (by omega) (by omega)
        have cC := fun w => Count_yes n s d H (by omega) w
        have cI := fun w => refIs_any n (by omega) w
        by_cases hp : Pr n
        · rw [(prB_iff n).2 hp] at cI
          rw [stN_prime hp H, show ((n - 1 : Nat) : Int) = (n : Int) - 1 by omega] at cC
          clear hp H h3
          go_enter Try.func3, Try.ntmps3
          go_wp2_with (first | (go_at_call 5; refine (cC _).mono ?_; rintro e w' ⟨rfl, hw⟩; subst w') | (go_at_call 6; refine (cI _).mono ?_; rintro e w' ⟨rfl, hw⟩; subst w'))
          go_ret
          exact ⟨rfl, Below.refl _ _⟩
        · have hpb : prB n = false := by
            cases h : prB n
            · rfl
            · exact absurd ((prB_iff n).1 h) hp
          rw [hpb] at cI
          have k1 := stN_two H
          have k2 := stN_rabin H hp
          obtain ⟨M, hM⟩ : ∃ M, stN n s d (n - 1) = M := ⟨_, rfl⟩
          rw [hM] at cC k1 k2
          have k3 : (2 : Int) ≤ (M : Int) := by omega
          have k4 : 4 * (M : Int) ≤ (n : Int) - 1 := by omega
          clear hp H h3 hpb hM k2 k1
          go_enter Try.func3, Try.ntmps3
          go_wp2_with (first | (go_at_call 5; refine (cC _).mono ?_; rintro e w' ⟨rfl, hw⟩; subst w') | (go_at_call 6; refine (cI _).mono ?_; rintro e w' ⟨rfl, hw⟩; subst w'))
          go_ret
          exact ⟨rfl, Below.refl _ _⟩

/-! ### THE ROW's STEP: WRITTEN OUT: LEAVE IT -/
set_option maxRecDepth 100000 in
theorem lifted (os : Os) (started : os.Started) (H : Type) (enc : TypeId × Value → H) :
    ReturnsInHanded {} Try.checked os 3 .any (Rows.liarsRabinSpec.pre6 enc Try.prog Try.f3 Rows.liarsRabinRow.domain false) (Rows.liarsRabinSpec.post enc Try.prog Try.f3 false true false false) := by
  refine returnsInHanded_of_change (C := Try.checked) own started (by kernel_rfl) Try.func3
    (ChangeSpec.witness6 (enc := enc) (C := Try.checked) false ⟨#[], #[.int .i64 0], []⟩ 8 (by kernel_rfl) (by kernel_rfl) (by kernel_rfl) (by kernel_rfl)) ?_
  intro W base args ds gs before hval0 hW hcnd _
  have hval : ∀ (j : Nat) t v, Try.f3.params[j]? = some t → args[j]? = some v → Value.okWide Try.prog W .any base t v := hval0
  have hW' := hW
  obtain ⟨p, q, hA0, hV, rfl, hfz, hnd⟩ := hW
  have hA : DataW.TrodAll enc Try.prog W 0 (fun _ => true) true Try.f3.params.toList args.toList ds p := hA0
  rw [Try.params3] at hA hval
  obtain ⟨v0, vs0, d0, ds0, p0, q0, hargs, rfl, rfl, h0, r0⟩ := trodAll_cons hA
  obtain ⟨rfl, rfl, rfl⟩ := trodAll_nil r0
  obtain rfl : args = #[v0] := by cases args; simp_all
  obtain ⟨rfl, rfl⟩ := trodVars_none hV
  obtain ⟨a0, rfl, rfl, rfl, w0⟩ := open_int Try.underlying2 (hval 0 2 v0 rfl rfl) h0
  clear hA0 hval0
  simp only [List.append_nil] at hW'
  refine (walk a0 w0 W).mono fun e W' ⟨he, hg⟩ => ?_
  subst he
  exact ⟨_, rfl, post_of_kept (pa := []) (pv := []) hW' (fun _ _ _ => (trodAll_cons_mk (shut_bool Try.underlying4 _) trodAll_mk0)) (fun sp _ => (trodAll_cons_mk (shut_int Try.underlying2 w0) trodAll_mk0)) (fun _ _ => rfl) rfl
    (hg.frame _)⟩

theorem over : Rows.liarsRabinRow.holds Try.pinned (OpenSpec.ofChange Rows.liarsRabinSpec) :=
  OpenClaim.holds_of_wide 3 Try.f3 rfl rfl rfl rfl rfl rfl rfl ⟨rfl, rfl, rfl, rfl, rfl⟩ rfl rfl rfl rfl rfl (by kernel_rfl) Try.func3 (by kernel_rfl)
    (of_decide_eq_true (by kernel_rfl)) (by unfold Func.isWrapper; first | (rw [if_pos (by decide +kernel)]; kernel_rfl) | (rw [if_neg (by decide +kernel)]; exact ⟨rfl, rfl⟩))
    (fun os started H enc _ => lifted os started H enc)

/-- ████ THE STATEMENT ████ -/
theorem proved : Rows.LiarsRabinSaid :=
  over
end Go.Proofs.Ytnciahbpmajhdab.liarsRabin
