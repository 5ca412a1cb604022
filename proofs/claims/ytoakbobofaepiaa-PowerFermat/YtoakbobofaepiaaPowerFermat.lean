/-
  FERMAT: for all numbers a and p: if p is a prime, a to the p leaves what a does, divided by p.
-/
import Derived.Test.YtoakbobofaepiaaRows
import Derived.Test.YtoakbobofaepiaaCalls20
import Derived.WalkKit
import Derived.ProofKit
import Derived.OpenShut
namespace Go.Proofs.Ytoakbobofaepiaa.powerFermat
open Go.Proofs.Ytoakbobofaepiaa.Num Go.Proofs.Ytoakbobofaepiaa.Num7 Go.Proofs.Ytoakbobofaepiaa.Num13 Go.Proofs.Ytoakbobofaepiaa.Calls9 Go.Proofs.Ytoakbobofaepiaa.Calls19 Go.Proofs.Ytoakbobofaepiaa.Calls20
open Go.ChangeShapes Go.WideShapes Go.ChangeAt Go.RowKit
set_option linter.unusedVariables false      -- a walk need not use every 'w<i>' (that an integer argument fits its kind)

theorem own : ownKnob Try.prog.godebug = none := by kernel_rfl

theorem pw_prime (a : Int) {p : Nat} (hp : Pr p) : pw a p p = rs a p := by
  unfold pw
  rw [fermat hp, rs_mod a (by have := hp.1; omega)]

theorem walk (a0 : Int) (a1 : Int) (w0 : (Lit.int .i64 a0).wf = true) (w1 : (Lit.int .i64 a1).wf = true) (w : World) :
    Calls Try.prog 6 #[.int .i64 a0, .int .i64 a1] w fun e w' => e = .returned (.bool true) ∧ Below w.heap.size w w' := by
  have cN := fun w => near_any a0 w
  by_cases hn : -2147483648 ≤ a0 ∧ a0 ≤ 2147483648
  · rw [decide_eq_true hn] at cN
    by_cases hg : Md a1
    · obtain ⟨m1, m2⟩ := hg
      obtain ⟨n1, n2⟩ := hn
      obtain ⟨m, rfl⟩ : ∃ m : Nat, a1 = (m : Int) := ⟨a1.toNat, by omega⟩
      have hm1 : 1 ≤ m := by omega
      have hm2 : m ≤ 1048576 := by omega
      have cM := fun w => kmodulus_yes (m : Int) m1 m2 w
      have cP := fun w => Pow_yes a0 m m n1 n2 (by omega) hm1 hm2 w
      have cI := fun w => refIs_any m hm2 w
      have cR := fun w => refMod_at a0 m w hm1 hm2
      have hl := pw_lt a0 m hm1
      have hl' : (pw a0 m m : Int) < (m : Int) := by omega
      by_cases hp : Pr m
      · rw [(prB_iff m).2 hp] at cI
        rw [pw_prime a0 hp] at cP hl'
        have h2 := hp.1
        have h2' : 1 < (m : Int) := by omega
        clear hp hl
        go_enter Try.func6, Try.ntmps6
        go_wp2_with (first | (go_at_call 9; refine (cP _).mono ?_; rintro e w' ⟨rfl, hw⟩; subst w') | (go_at_call 18; refine (cN _).mono ?_; rintro e w' ⟨rfl, hw⟩; subst w') | (go_at_call 19; refine (cM _).mono ?_; rintro e w' ⟨rfl, hw⟩; subst w') | (go_at_call 20; refine (cI _).mono ?_; rintro e w' ⟨rfl, hw⟩; subst w') | (go_at_call 21; refine (cR _).mono ?_; rintro e w' ⟨rfl, hw⟩; subst w'))
        go_ret
        exact ⟨rfl, Below.refl _ _⟩
      · have hpb : prB m = false := by
          cases h : prB m
          · rfl
          · exact absurd ((prB_iff m).1 h) hp
        rw [hpb] at cI
        clear hp hpb
        by_cases h1 : 1 < (m : Int)
        · clear hl
          go_enter Try.func6, Try.ntmps6
          go_wp2_with (first | (go_at_call 9; refine (cP _).mono ?_; rintro e w' ⟨rfl, hw⟩; subst w') | (go_at_call 18; refine (cN _).mono ?_; rintro e w' ⟨rfl, hw⟩; subst w') | (go_at_call 19; refine (cM _).mono ?_; rintro e w' ⟨rfl, hw⟩; subst w') | (go_at_call 20; refine (cI _).mono ?_; rintro e w' ⟨rfl, hw⟩; subst w'))
          go_ret
          exact ⟨rfl, Below.refl _ _⟩
        · have e1 : m = 1 := by omega
          subst e1
          have e0 : pw a0 1 1 = 0 := by omega
          rw [e0] at cP
          clear e0 hl hl' h1
          go_enter Try.func6, Try.ntmps6
          go_wp2_with (first | (go_at_call 9; refine (cP _).mono ?_; rintro e w' ⟨rfl, hw⟩; subst w') | (go_at_call 18; refine (cN _).mono ?_; rintro e w' ⟨rfl, hw⟩; subst w') | (go_at_call 19; refine (cM _).mono ?_; rintro e w' ⟨rfl, hw⟩; subst w') | (go_at_call 20; refine (cI _).mono ?_; rintro e w' ⟨rfl, hw⟩; subst w'))
          go_ret
          exact ⟨rfl, Below.refl _ _⟩
    · have cM := fun w => kmodulus_no a1 hg w
      have cP := fun w => Pow_no a0 a1 a1 (fun h => hg h.2.2) w
      clear hg hn
      go_enter Try.func6, Try.ntmps6
      go_wp2_with (first | (go_at_call 9; refine (cP _).mono ?_; rintro e w' ⟨rfl, hw⟩; subst w') | (go_at_call 18; refine (cN _).mono ?_; rintro e w' ⟨rfl, hw⟩; subst w') | (go_at_call 19; refine (cM _).mono ?_; rintro e w' ⟨rfl, hw⟩; subst w'))
      go_ret
      exact ⟨rfl, Below.refl _ _⟩
  · rw [decide_eq_false hn] at cN
    have cP := fun w => Pow_no a0 a1 a1 (fun h => hn h.1) w
    clear hn
    go_enter Try.func6, Try.ntmps6
    go_wp2_with (first | (go_at_call 9; refine (cP _).mono ?_; rintro e w' ⟨rfl, hw⟩; subst w') | (go_at_call 18; refine (cN _).mono ?_; rintro e w' ⟨rfl, hw⟩; subst w'))
    go_ret
    exact ⟨rfl, Below.refl _ _⟩

/-! ### THE ROW's STEP: WRITTEN OUT: LEAVE IT -/
set_option maxRecDepth 100000 in
theorem lifted (os : Os) (started : os.Started) (H : Type) (enc : TypeId × Value → H) :
    ReturnsInHanded {} Try.checked os 6 .any (Rows.powerFermatSpec.pre6 enc Try.prog Try.f6 Rows.powerFermatRow.domain false) (Rows.powerFermatSpec.post enc Try.prog Try.f6 false true false false) := by
  refine returnsInHanded_of_change (C := Try.checked) own started (by kernel_rfl) Try.func6
    (ChangeSpec.witness6 (enc := enc) (C := Try.checked) false ⟨#[], #[.int .i64 0, .int .i64 0], []⟩ 8 (by kernel_rfl) (by kernel_rfl) (by kernel_rfl) (by kernel_rfl)) ?_
  intro W base args ds gs before hval0 hW hcnd _
  have hval : ∀ (j : Nat) t v, Try.f6.params[j]? = some t → args[j]? = some v → Value.okWide Try.prog W .any base t v := hval0
  have hW' := hW
  obtain ⟨p, q, hA0, hV, rfl, hfz, hnd⟩ := hW
  have hA : DataW.TrodAll enc Try.prog W 0 (fun _ => true) true Try.f6.params.toList args.toList ds p := hA0
  rw [Try.params6] at hA hval
  obtain ⟨v0, vs0, d0, ds0, p0, q0, hargs, rfl, rfl, h0, r0⟩ := trodAll_cons hA
  obtain ⟨v1, vs1, d1, ds1, p1, q1, rfl, rfl, rfl, h1, r1⟩ := trodAll_cons r0
  obtain ⟨rfl, rfl, rfl⟩ := trodAll_nil r1
  obtain rfl : args = #[v0, v1] := by cases args; simp_all
  obtain ⟨rfl, rfl⟩ := trodVars_none hV
  obtain ⟨a0, rfl, rfl, rfl, w0⟩ := open_int Try.underlying2 (hval 0 2 v0 rfl rfl) h0
  obtain ⟨a1, rfl, rfl, rfl, w1⟩ := open_int Try.underlying2 (hval 1 2 v1 rfl rfl) h1
  clear hA0 hval0
  simp only [List.append_nil] at hW'
  refine (walk a0 a1 w0 w1 W).mono fun e W' ⟨he, hg⟩ => ?_
  subst he
  exact ⟨_, rfl, post_of_kept (pa := []) (pv := []) hW' (fun _ _ _ => (trodAll_cons_mk (shut_bool Try.underlying4 _) trodAll_mk0)) (fun sp _ => (trodAll_cons_mk (shut_int Try.underlying2 w0) (trodAll_cons_mk (shut_int Try.underlying2 w1) trodAll_mk0))) (fun _ _ => rfl) rfl
    (hg.frame _)⟩

theorem over : Rows.powerFermatRow.holds Try.pinned (OpenSpec.ofChange Rows.powerFermatSpec) :=
  OpenClaim.holds_of_wide 6 Try.f6 rfl rfl rfl rfl rfl rfl rfl ⟨rfl, rfl, rfl, rfl, rfl⟩ rfl rfl rfl rfl rfl (by kernel_rfl) Try.func6 (by kernel_rfl)
    (of_decide_eq_true (by kernel_rfl)) (by unfold Func.isWrapper; first | (rw [if_pos (by decide +kernel)]; kernel_rfl) | (rw [if_neg (by decide +kernel)]; exact ⟨rfl, rfl⟩))
    (fun os started H enc _ => lifted os started H enc)

/-- ████ THE STATEMENT ████ -/
theorem proved : Rows.PowerFermatSaid :=
  over
end Go.Proofs.Ytoakbobofaepiaa.powerFermat
