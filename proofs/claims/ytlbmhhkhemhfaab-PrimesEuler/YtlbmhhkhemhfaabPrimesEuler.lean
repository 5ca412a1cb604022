/-
  For any two numbers that have nothing in common: what has nothing in common with their product is as many as the product of both has it; else it is more: with no condition.
-/
import Derived.Test.YtlbmhhkhemhfaabRows
import Derived.Test.YtlbmhhkhemhfaabCalls10
import Derived.WalkKit
import Derived.ProofKit
import Derived.OpenShut
namespace Go.Proofs.Ytlbmhhkhemhfaab.primesEuler
open Go.Proofs.Ytlbmhhkhemhfaab.Num Go.Proofs.Ytlbmhhkhemhfaab.Num3 Go.Proofs.Ytlbmhhkhemhfaab.Calls4 Go.Proofs.Ytlbmhhkhemhfaab.Calls7 Go.Proofs.Ytlbmhhkhemhfaab.Calls8 Go.Proofs.Ytlbmhhkhemhfaab.Calls9 Go.Proofs.Ytlbmhhkhemhfaab.Calls10
open Go.ChangeShapes Go.WideShapes Go.ChangeAt Go.RowKit
set_option linter.unusedVariables false      -- a walk need not use every 'w<i>' (that an integer argument fits its kind)

theorem own : ownKnob Try.prog.godebug = none := by kernel_rfl

theorem euler_facts {a b : Nat} (ha : 1 ≤ a) (hb : 1 ≤ b) : ((tot a : Int) * (tot b : Int) ≤ (tot (a * b) : Int)) ∧ 1 ≤ tot (a * b) ∧ tot (a * b) ≤ a * b ∧
    (Nat.gcd a b = 1 → (tot (a * b) : Int) = (tot a : Int) * (tot b : Int)) ∧ (¬ Nat.gcd a b = 1 → (tot a : Int) * (tot b : Int) < (tot (a * b) : Int)) := by
  obtain ⟨h1, h2⟩ := tot_mul a b ha hb
  have h3 : 1 ≤ a * b := Nat.mul_le_mul ha hb
  have e1 : Nat.gcd a b = 1 → (tot (a * b) : Int) = (tot a : Int) * (tot b : Int) := fun h => by rw [h1 h, Int.natCast_mul]
  have e2 : ¬ Nat.gcd a b = 1 → (tot a : Int) * (tot b : Int) < (tot (a * b) : Int) := fun h => by rw [← Int.natCast_mul]; exact Int.ofNat_lt.2 (h2 h)
  refine ⟨?_, tot_pos h3, tot_le _, e1, e2⟩
  by_cases h : Nat.gcd a b = 1
  · have := e1 h; omega
  · have := e2 h; omega

theorem prod_toNat (a b : Nat) : ((a : Int) * (b : Int)).toNat = a * b := by
  rw [← Int.natCast_mul]; exact Int.toNat_natCast _

set_option maxRecDepth 100000 in
theorem walk (a0 : Int) (a1 : Int) (w0 : (Lit.int .i64 a0).wf = true) (w1 : (Lit.int .i64 a1).wf = true) (w : World) :
    Calls Try.prog 6 #[.int .i64 a0, .int .i64 a1] w fun e w' => e = .returned (.bool true) ∧ Below w.heap.size w w' := by
  by_cases hm1 : 1 ≤ a0 ∧ a0 ≤ 1048576
  · by_cases hm2 : 1 ≤ a1 ∧ a1 ≤ 1048576
    · obtain ⟨a, rfl⟩ : ∃ m : Nat, a0 = (m : Int) := ⟨a0.toNat, by omega⟩
      obtain ⟨b, rfl⟩ : ∃ m : Nat, a1 = (m : Int) := ⟨a1.toNat, by omega⟩
      obtain ⟨u1, u2⟩ := hm1
      obtain ⟨v1, v2⟩ := hm2
      have hA : 1 ≤ a := by omega
      have hB : 1 ≤ b := by omega
      have p1 : 1 ≤ (a : Int) * (b : Int) := by
        have : 1 ≤ a * b := Nat.mul_le_mul hA hB
        rw [← Int.natCast_mul]; omega
      have p2 : (a : Int) * (b : Int) ≤ 1099511627776 := by
        have : a * b ≤ 1048576 * 1048576 := Nat.mul_le_mul (by omega) (by omega)
        rw [← Int.natCast_mul]; omega
      have hb : Below w.heap.size w w := Below.refl _ _
      clear w0 w1
      by_cases hp : (a : Int) * (b : Int) ≤ 1048576
      · obtain ⟨f1, f2, f3, f4, f5⟩ := euler_facts hA hB
        have cP := fun w => Phi_at ((a : Int) * (b : Int)) p1 hp w
        rw [prod_toNat] at cP
        have cA := fun w => Phi_at (a : Int) u1 u2 w
        have cB := fun w => Phi_at (b : Int) v1 v2 w
        rw [Int.toNat_natCast] at cA cB
        have cG := fun w => refGcd_any (a : Int) (b : Int) w (by omega) (by omega) (by omega) (by omega)
        rw [gg_nat] at cG
        have hp' : ¬ 1048576 < (a : Int) * (b : Int) := by omega
        have g0 : 0 ≤ (tot a : Int) * (tot b : Int) := by rw [← Int.natCast_mul]; omega
        have g1 : (tot (a * b) : Int) ≤ 1048576 := by
          have : ((a * b : Nat) : Int) = (a : Int) * (b : Int) := Int.natCast_mul a b
          omega
        have g2 : 1 ≤ (tot (a * b) : Int) := by omega
        by_cases hg : Nat.gcd a b = 1
        · have e := f4 hg
          rw [e] at cP g1 g2
          rw [hg] at cG
          clear f1 f2 f3 f4 f5 e hg
          go_enter Try.func6, Try.ntmps6
          go_wp2_with (first
            | (go_at_call 10; refine (kmodulus_yes _ (by omega) (by omega) _).mono ?_; rintro e w' ⟨rfl, hw⟩; subst w')
            | (go_at_call 14; first
                | (refine (cA _).mono ?_; clear cA; rintro e w' ⟨rfl, hg⟩; replace hb := below_trans hb hg; clear hg)
                | (refine (cB _).mono ?_; clear cB; rintro e w' ⟨rfl, hg⟩; replace hb := below_trans hb hg; clear hg)
                | (refine (cP _).mono ?_; rintro e w' ⟨rfl, hg⟩; replace hb := below_trans hb hg; clear hg))
            | (go_at_call 16; refine (cG _).mono ?_; rintro e w' ⟨rfl, hw⟩; subst w'))
          go_ret
          exact ⟨rfl, hb⟩
        · have e := f5 hg
          have hg' : ((Nat.gcd a b : Int) != 1) = true := by
            have : ¬ (Nat.gcd a b : Int) = 1 := by omega
            simp [this]
          have hg2 : ¬ (Nat.gcd a b : Int) = 1 := by omega
          have g3 : (tot a : Int) * (tot b : Int) ≤ 1048576 := by omega
          clear f1 f2 f3 f4 f5 hg
          go_enter Try.func6, Try.ntmps6
          go_wp2_with (first
            | (go_at_call 10; refine (kmodulus_yes _ (by omega) (by omega) _).mono ?_; rintro e w' ⟨rfl, hw⟩; subst w')
            | (go_at_call 14; first
                | (refine (cA _).mono ?_; clear cA; rintro e w' ⟨rfl, hg⟩; replace hb := below_trans hb hg; clear hg)
                | (refine (cB _).mono ?_; clear cB; rintro e w' ⟨rfl, hg⟩; replace hb := below_trans hb hg; clear hg)
                | (refine (cP _).mono ?_; rintro e w' ⟨rfl, hg⟩; replace hb := below_trans hb hg; clear hg))
            | (go_at_call 16; refine (cG _).mono ?_; rintro e w' ⟨rfl, hw⟩; subst w'))
          go_ret
          exact ⟨rfl, hb⟩
      · have hp' : 1048576 < (a : Int) * (b : Int) := by omega
        go_enter Try.func6, Try.ntmps6
        go_wp2_with (go_at_call 10; refine (kmodulus_yes _ (by omega) (by omega) _).mono ?_; rintro e w' ⟨rfl, hw⟩; subst w')
        go_ret
        exact ⟨rfl, hb⟩
    · have cA := fun w => kmodulus_yes a0 hm1.1 hm1.2 w
      have cB := fun w => kmodulus_no a1 hm2 w
      clear hm1 hm2
      go_enter Try.func6, Try.ntmps6
      go_wp2_with (go_at_call 10; first
        | (refine (cA _).mono ?_; clear cA; rintro e w' ⟨rfl, hw⟩; subst w')
        | (refine (cB _).mono ?_; rintro e w' ⟨rfl, hw⟩; subst w'))
      go_ret
      exact ⟨rfl, Below.refl _ _⟩
  · have cA := fun w => kmodulus_no a0 hm1 w
    clear hm1
    go_enter Try.func6, Try.ntmps6
    go_wp2_with (go_at_call 10; refine (cA _).mono ?_; rintro e w' ⟨rfl, hw⟩; subst w')
    go_ret
    exact ⟨rfl, Below.refl _ _⟩

/-! ### THE ROW's STEP: WRITTEN OUT: LEAVE IT -/
set_option maxRecDepth 100000 in
theorem lifted (os : Os) (started : os.Started) (H : Type) (enc : TypeId × Value → H) :
    ReturnsInHanded {} Try.checked os 6 .any (Rows.primesEulerSpec.pre6 enc Try.prog Try.f6 Rows.primesEulerRow.domain false) (Rows.primesEulerSpec.post enc Try.prog Try.f6 false true false false) := by
  refine returnsInHanded_of_change (C := Try.checked) own started (by kernel_rfl) Try.func6
    (ChangeSpec.witness6 (enc := enc) (C := Try.checked) false ⟨#[], #[.int .i64 0, .int .i64 0], []⟩ 8 (by kernel_rfl) (by kernel_rfl) (by kernel_rfl) (by kernel_rfl)) ?_
  intro W base args ds gs before hval0 hW hcnd _
  have hval : ∀ (j : Nat) t v, Try.f6.params[j]? = some t → args[j]? = some v → Value.okWide Try.prog W .any base t v := hval0
  have hW' := hW
  obtain ⟨p, q, hA0, hV, rfl, hfz, hnd⟩ := hW
  have hA : DataW.TrodAll enc Try.prog W 0 (fun _ => true) true Try.f6.params.toList args.toList ds p := hA0
  rw [Try.params6] at hA hval
  obtain ⟨v0, vs0, d0, ds0, p0, q0, hargs, rfl, rfl, h0, r0⟩ := trodAll_cons hA
  obtain ⟨v1, vs1, d1, ds1, p1, q1, rfl, rfl, rfl, h1, r1⟩ := trodAll_cons r0
  obtain ⟨rfl, rfl, rfl⟩ := trodAll_nil r1
  obtain rfl : args = #[v0, v1] := by cases args; simp_all
  obtain ⟨rfl, rfl⟩ := trodVars_none hV
  obtain ⟨a0, rfl, rfl, rfl, w0⟩ := open_int Try.underlying2 (hval 0 2 v0 rfl rfl) h0
  obtain ⟨a1, rfl, rfl, rfl, w1⟩ := open_int Try.underlying2 (hval 1 2 v1 rfl rfl) h1
  clear hA0 hval0
  simp only [List.append_nil] at hW'
  refine (walk a0 a1 w0 w1 W).mono fun e W' ⟨he, hg⟩ => ?_
  subst he
  exact ⟨_, rfl, post_of_kept (pa := []) (pv := []) hW' (fun _ _ _ => (trodAll_cons_mk (shut_bool Try.underlying4 _) trodAll_mk0)) (fun sp _ => (trodAll_cons_mk (shut_int Try.underlying2 w0) (trodAll_cons_mk (shut_int Try.underlying2 w1) trodAll_mk0))) (fun _ _ => rfl) rfl
    (hg.frame _)⟩

theorem over : Rows.primesEulerRow.holds Try.pinned (OpenSpec.ofChange Rows.primesEulerSpec) :=
  OpenClaim.holds_of_wide 6 Try.f6 rfl rfl rfl rfl rfl rfl rfl ⟨rfl, rfl, rfl, rfl, rfl⟩ rfl rfl rfl rfl rfl (by kernel_rfl) Try.func6 (by kernel_rfl)
    (of_decide_eq_true (by kernel_rfl)) (by unfold Func.isWrapper; first | (rw [if_pos (by decide +kernel)]; kernel_rfl) | (rw [if_neg (by decide +kernel)]; exact ⟨rfl, rfl⟩))
    (fun os started H enc _ => lifted os started H enc)

/-- ████ THE STATEMENT ████ -/
theorem proved : Rows.PrimesEulerSaid :=
  over
end Go.Proofs.Ytlbmhhkhemhfaab.primesEuler
