/-
  For every number n: the program tells by how many of 1 to n less 1 it seems a prime by square roots of 1, as the document does; and what is out of range is refused.
-/
import Derived.Test.YtnciahbpmajhdaaRows
import Derived.Test.YtnciahbpmajhdaaCalls30
import Derived.Test.YtnciahbpmajhdaaCalls33
import Derived.WalkKit
import Derived.ProofKit
import Derived.OpenShut
namespace Go.Proofs.Ytnciahbpmajhdaa.liarsCounts
open Go.Proofs.Ytnciahbpmajhdaa.Num Go.Proofs.Ytnciahbpmajhdaa.Num3 Go.Proofs.Ytnciahbpmajhdaa.Num9 Go.Proofs.Ytnciahbpmajhdaa.Num10 Go.Proofs.Ytnciahbpmajhdaa.Num13 Go.Proofs.Ytnciahbpmajhdaa.Num29 Go.Proofs.Ytnciahbpmajhdaa.Num30 Go.Proofs.Ytnciahbpmajhdaa.Calls8 Go.Proofs.Ytnciahbpmajhdaa.Calls9 Go.Proofs.Ytnciahbpmajhdaa.Calls11 Go.Proofs.Ytnciahbpmajhdaa.Calls19 Go.Proofs.Ytnciahbpmajhdaa.Calls20 Go.Proofs.Ytnciahbpmajhdaa.Calls29 Go.Proofs.Ytnciahbpmajhdaa.Calls30 Go.Proofs.Ytnciahbpmajhdaa.Calls32 Go.Proofs.Ytnciahbpmajhdaa.Calls33
open Go.ChangeShapes Go.WideShapes Go.ChangeAt Go.RowKit
set_option linter.unusedVariables false      -- a walk need not use every 'w<i>' (that an integer argument fits its kind)

theorem own : ownKnob Try.prog.godebug = none := by kernel_rfl

theorem walk (a0 : Int) (w0 : (Lit.int .i64 a0).wf = true) (w : World) :
    Calls Try.prog 6 #[.int .i64 a0] w fun e w' => e = .returned (.bool true) ∧ Below w.heap.size w w' := by
  by_cases h1 : a0 < 3
  · have cC := fun w => Count_no a0 (fun h => by have := h.1.1; omega) w
    go_enter Try.func6, Try.ntmps6
    go_wp2_with (first | (go_at_call 17; refine (cC _).mono ?_; rintro e w' ⟨rfl, hw⟩; subst w'))
    go_ret
    exact ⟨rfl, Below.refl _ _⟩
  · by_cases h2 : 4096 < a0
    · have cC := fun w => Count_no a0 (fun h => by have := h.2; omega) w
      go_enter Try.func6, Try.ntmps6
      go_wp2_with (first | (go_at_call 17; refine (cC _).mono ?_; rintro e w' ⟨rfl, hw⟩; subst w'))
      go_ret
      exact ⟨rfl, Below.refl _ _⟩
    · obtain ⟨n, rfl⟩ : ∃ m : Nat, a0 = (m : Int) := ⟨a0.toNat, by omega⟩
      by_cases h3 : n % 2 = 0
      · have cC := fun w => Count_no (n : Int) (fun h => by have := h.1.2.2; omega) w
        have h5 := beq_t (show (n : Int) % 2 = 0 by omega)
        clear h3
        go_enter Try.func6, Try.ntmps6
        go_wp2_with (first | (go_at_call 17; refine (cC _).mono ?_; rintro e w' ⟨rfl, hw⟩; subst w'))
        go_ret
        exact ⟨rfl, Below.refl _ _⟩
      · have h5 := beq_f (show ¬ (n : Int) % 2 = 0 by omega)
        obtain ⟨s, d, H⟩ := Odd2.ex (n := n) (by omega) (by omega)
        have cC := fun w => Count_yes n s d H (by omega) w
        have cS := fun (k : Nat) w => refStrong_any (k : Int) n s d H (by omega) w
        have hN3 := H.three
        have hle := stN_le n s d (n - 1)
        obtain ⟨M, hM⟩ : ∃ M, stN n s d (n - 1) = M := ⟨_, rfl⟩
        rw [hM] at cC hle
        have HM := hid hM
        clear h3 H hM
        go_enter Try.func6, Try.ntmps6
        go_wp2_with (first | (go_at_call 17; refine (cC _).mono ?_; rintro e w' ⟨rfl, hw⟩; subst w'))
        go_loop [5, 6] (fun tc tk => ∃ c k : Nat, tc = .int .i64 (c : Int) ∧ tk = .int .i64 (k : Int) ∧ 1 ≤ k ∧ k ≤ n ∧ c ≤ k ∧ Hid (c = stN n s d (k - 1))) (fun _ tk => ((n : Int) - intOf tk).toNat)
        case atStart => exact ⟨0, 1, rfl, rfl, by omega, by omega, by omega, rfl⟩
        case round =>
          obtain ⟨c, k, rfl, rfl, hk1, hk2, hc, hC⟩ := hrel
          by_cases hgo : k < n
          · have hgo' : (k : Int) < (n : Int) := by omega
            have cK := fun w => cS k w
            have hst := hid (stN_step (n := n) (s := s) (d := d) hk1)
            cases hb : stB (k : Int) n s d
            · rw [hb] at cK
              have e : Hid (c = stN n s d (k + 1 - 1)) := by
                show _ = _
                rw [Nat.add_sub_cancel, hst.out, hb, ← hC.out]; simp
              clear hst hC
              go_wp2_with (first | (go_at_call 16; refine (cK _).mono ?_; rintro e w' ⟨rfl, hw⟩; subst w'))
              go_round
              case rel => exact ⟨c, k + 1, rfl, by simp, by omega, by omega, by omega, e⟩
              case measure => exact meas_in hgo
            · rw [hb] at cK
              have e : Hid (c + 1 = stN n s d (k + 1 - 1)) := by
                show _ = _
                rw [Nat.add_sub_cancel, hst.out, hb, ← hC.out]; simp
              clear hst hC
              go_wp2_with (first | (go_at_call 16; refine (cK _).mono ?_; rintro e w' ⟨rfl, hw⟩; subst w'))
              go_round
              case rel => exact ⟨c + 1, k + 1, by simp, by simp, by omega, by omega, by omega, e⟩
              case measure => exact meas_in hgo
          · have hgo' : ¬ (k : Int) < (n : Int) := by omega
            have ek : k = n := by omega
            subst ek
            have e : c = M := hC.out.trans HM.out
            subst e
            clear hC HM
            go_wp2
            go_ret
            exact ⟨rfl, Below.refl _ _⟩

/-! ### THE ROW's STEP: WRITTEN OUT: LEAVE IT -/
set_option maxRecDepth 100000 in
theorem lifted (os : Os) (started : os.Started) (H : Type) (enc : TypeId × Value → H) :
    ReturnsInHanded {} Try.checked os 6 .any (Rows.liarsCountsSpec.pre6 enc Try.prog Try.f6 Rows.liarsCountsRow.domain false) (Rows.liarsCountsSpec.post enc Try.prog Try.f6 false true false false) := by
  refine returnsInHanded_of_change (C := Try.checked) own started (by kernel_rfl) Try.func6
    (ChangeSpec.witness6 (enc := enc) (C := Try.checked) false ⟨#[], #[.int .i64 0], []⟩ 8 (by kernel_rfl) (by kernel_rfl) (by kernel_rfl) (by kernel_rfl)) ?_
  intro W base args ds gs before hval0 hW hcnd _
  have hval : ∀ (j : Nat) t v, Try.f6.params[j]? = some t → args[j]? = some v → Value.okWide Try.prog W .any base t v := hval0
  have hW' := hW
  obtain ⟨p, q, hA0, hV, rfl, hfz, hnd⟩ := hW
  have hA : DataW.TrodAll enc Try.prog W 0 (fun _ => true) true Try.f6.params.toList args.toList ds p := hA0
  rw [Try.params6] at hA hval
  obtain ⟨v0, vs0, d0, ds0, p0, q0, hargs, rfl, rfl, h0, r0⟩ := trodAll_cons hA
  obtain ⟨rfl, rfl, rfl⟩ := trodAll_nil r0
  obtain rfl : args = #[v0] := by cases args; simp_all
  obtain ⟨rfl, rfl⟩ := trodVars_none hV
  obtain ⟨a0, rfl, rfl, rfl, w0⟩ := open_int Try.underlying2 (hval 0 2 v0 rfl rfl) h0
  clear hA0 hval0
  simp only [List.append_nil] at hW'
  refine (walk a0 w0 W).mono fun e W' ⟨he, hg⟩ => ?_
  subst he
  exact ⟨_, rfl, post_of_kept (pa := []) (pv := []) hW' (fun _ _ _ => (trodAll_cons_mk (shut_bool Try.underlying4 _) trodAll_mk0)) (fun sp _ => (trodAll_cons_mk (shut_int Try.underlying2 w0) trodAll_mk0)) (fun _ _ => rfl) rfl
    (hg.frame _)⟩

theorem over : Rows.liarsCountsRow.holds Try.pinned (OpenSpec.ofChange Rows.liarsCountsSpec) :=
  OpenClaim.holds_of_wide 6 Try.f6 rfl rfl rfl rfl rfl rfl rfl ⟨rfl, rfl, rfl, rfl, rfl⟩ rfl rfl rfl rfl rfl (by kernel_rfl) Try.func6 (by kernel_rfl)
    (of_decide_eq_true (by kernel_rfl)) (by unfold Func.isWrapper; first | (rw [if_pos (by decide +kernel)]; kernel_rfl) | (rw [if_neg (by decide +kernel)]; exact ⟨rfl, rfl⟩))
    (fun os started H enc _ => lifted os started H enc)

/-- ████ THE STATEMENT ████ -/
theorem proved : Rows.LiarsCountsSaid :=
  over
end Go.Proofs.Ytnciahbpmajhdaa.liarsCounts
