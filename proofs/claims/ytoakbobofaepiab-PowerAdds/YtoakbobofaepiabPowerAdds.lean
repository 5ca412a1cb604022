/-
  For all numbers a, j, k and m: what a to the j and a to the k leave, together, leaves what a to the j and k together leaves; and a to the 1 leaves what a does.
-/
import Derived.Test.YtoakbobofaepiabRows
import Derived.Test.YtoakbobofaepiabCalls19
import Derived.WalkKit
import Derived.ProofKit
import Derived.OpenShut
namespace Go.Proofs.Ytoakbobofaepiab.powerAdds
open Go.Proofs.Ytoakbobofaepiab.Num13 Go.Proofs.Ytoakbobofaepiab.Calls9 Go.Proofs.Ytoakbobofaepiab.Calls19
open Go.ChangeShapes Go.WideShapes Go.ChangeAt Go.RowKit
set_option linter.unusedVariables false      -- a walk need not use every 'w<i>' (that an integer argument fits its kind)

theorem own : ownKnob Try.prog.godebug = none := by kernel_rfl

theorem Pow_z (a z : Int) (m : Nat) (ha1 : -2147483648 ≤ a) (ha2 : a ≤ 2147483648) (hz1 : 0 ≤ z) (hz2 : z ≤ 2147483648) (hm1 : 1 ≤ m) (hm2 : m ≤ 1048576) (w : World) :
    Calls Try.prog 6 #[.int .i64 a, .int .i64 z, .int .i64 (m : Int)] w fun e w' => e = .returned (.tuple #[.int .i64 (pw a z.toNat m : Int), .int .i64 0]) ∧ w' = w := by
  obtain ⟨k, rfl⟩ : ∃ k : Nat, z = (k : Int) := ⟨z.toNat, by omega⟩
  exact Pow_yes a k m ha1 ha2 (by omega) hm1 hm2 w

theorem walk (a0 : Int) (a1 : Int) (a2 : Int) (a3 : Int) (w0 : (Lit.int .i64 a0).wf = true) (w1 : (Lit.int .i64 a1).wf = true) (w2 : (Lit.int .i64 a2).wf = true) (w3 : (Lit.int .i64 a3).wf = true) (w : World) :
    Calls Try.prog 3 #[.int .i64 a0, .int .i64 a1, .int .i64 a2, .int .i64 a3] w fun e w' => e = .returned (.bool true) ∧ Below w.heap.size w w' := by
  have cN := fun w => near_any a0 w
  by_cases hn : -2147483648 ≤ a0 ∧ a0 ≤ 2147483648
  · rw [decide_eq_true hn] at cN
    by_cases hg : 1 ≤ a3 ∧ a3 ≤ 1048576
    · obtain ⟨m1, m2⟩ := hg
      have cM := fun w => kmodulus_yes a3 m1 m2 w
      by_cases j0 : a1 < 0
      · clear hn
        go_enter Try.func3, Try.ntmps3
        go_wp2_with (first | (go_at_call 4; refine (cN _).mono ?_; rintro e w' ⟨rfl, hw⟩; subst w') | (go_at_call 5; refine (cM _).mono ?_; rintro e w' ⟨rfl, hw⟩; subst w'))
        go_ret
        exact ⟨rfl, Below.refl _ _⟩
      · by_cases k0 : a2 < 0
        · clear hn
          go_enter Try.func3, Try.ntmps3
          go_wp2_with (first | (go_at_call 4; refine (cN _).mono ?_; rintro e w' ⟨rfl, hw⟩; subst w') | (go_at_call 5; refine (cM _).mono ?_; rintro e w' ⟨rfl, hw⟩; subst w'))
          go_ret
          exact ⟨rfl, Below.refl _ _⟩
        · by_cases j1 : 2147483648 < a1
          · clear hn
            go_enter Try.func3, Try.ntmps3
            go_wp2_with (first | (go_at_call 4; refine (cN _).mono ?_; rintro e w' ⟨rfl, hw⟩; subst w') | (go_at_call 5; refine (cM _).mono ?_; rintro e w' ⟨rfl, hw⟩; subst w'))
            go_ret
            exact ⟨rfl, Below.refl _ _⟩
          · by_cases k1 : 2147483648 - a1 < a2
            · clear hn
              go_enter Try.func3, Try.ntmps3
              go_wp2_with (first | (go_at_call 4; refine (cN _).mono ?_; rintro e w' ⟨rfl, hw⟩; subst w') | (go_at_call 5; refine (cM _).mono ?_; rintro e w' ⟨rfl, hw⟩; subst w'))
              go_ret
              exact ⟨rfl, Below.refl _ _⟩
            · obtain ⟨m, rfl⟩ : ∃ m : Nat, a3 = (m : Int) := ⟨a3.toNat, by omega⟩
              have hm1 : 1 ≤ m := by omega
              have hm2 : m ≤ 1048576 := by omega
              have cP := fun z h1 h2 w => Pow_z a0 z m hn.1 hn.2 h1 h2 hm1 hm2 w
              have cR := fun w => refMod_at a0 m w hm1 hm2
              have hm0 : ¬ (m : Int) = 0 := by omega
              obtain ⟨b1, b2⟩ := mul_bd (pw_lt a0 a1.toNat hm1) (pw_lt a0 a2.toNat hm1) hm2
              have e1 : ((pw a0 a1.toNat m : Int) * (pw a0 a2.toNat m : Int) % (m : Int) == (pw a0 (a1 + a2).toNat m : Int)) = true := by
                rw [show (a1 + a2).toNat = a1.toNat + a2.toNat by omega, ← pw_add]
                push_cast
                exact beq_self_eq_true _
              have e2 : ((pw a0 1 m : Int) == (rs a0 m : Int)) = true := by rw [pw_one a0 hm1]; exact beq_self_eq_true _
              clear hn
              go_enter Try.func3, Try.ntmps3
              go_wp2_with (first | (go_at_call 4; refine (cN _).mono ?_; rintro e w' ⟨rfl, hw⟩; subst w') | (go_at_call 5; refine (cM _).mono ?_; rintro e w' ⟨rfl, hw⟩; subst w') | (go_at_call 6; refine (cP _ (by omega) (by omega) _).mono ?_; rintro e w' ⟨rfl, hw⟩; subst w') | (go_at_call 7; refine (cR _).mono ?_; rintro e w' ⟨rfl, hw⟩; subst w'))
              go_ret
              exact ⟨rfl, Below.refl _ _⟩
    · have cM := fun w => kmodulus_no a3 hg w
      clear hg hn
      go_enter Try.func3, Try.ntmps3
      go_wp2_with (first | (go_at_call 4; refine (cN _).mono ?_; rintro e w' ⟨rfl, hw⟩; subst w') | (go_at_call 5; refine (cM _).mono ?_; rintro e w' ⟨rfl, hw⟩; subst w'))
      go_ret
      exact ⟨rfl, Below.refl _ _⟩
  · rw [decide_eq_false hn] at cN
    clear hn
    go_enter Try.func3, Try.ntmps3
    go_wp2_with (first | (go_at_call 4; refine (cN _).mono ?_; rintro e w' ⟨rfl, hw⟩; subst w'))
    go_ret
    exact ⟨rfl, Below.refl _ _⟩

/-! ### THE ROW's STEP: WRITTEN OUT: LEAVE IT -/
set_option maxRecDepth 100000 in
theorem lifted (os : Os) (started : os.Started) (H : Type) (enc : TypeId × Value → H) :
    ReturnsInHanded {} Try.checked os 3 .any (Rows.powerAddsSpec.pre6 enc Try.prog Try.f3 Rows.powerAddsRow.domain false) (Rows.powerAddsSpec.post enc Try.prog Try.f3 false true false false) := by
  refine returnsInHanded_of_change (C := Try.checked) own started (by kernel_rfl) Try.func3
    (ChangeSpec.witness6 (enc := enc) (C := Try.checked) false ⟨#[], #[.int .i64 0, .int .i64 0, .int .i64 0, .int .i64 0], []⟩ 8 (by kernel_rfl) (by kernel_rfl) (by kernel_rfl) (by kernel_rfl)) ?_
  intro W base args ds gs before hval0 hW hcnd _
  have hval : ∀ (j : Nat) t v, Try.f3.params[j]? = some t → args[j]? = some v → Value.okWide Try.prog W .any base t v := hval0
  have hW' := hW
  obtain ⟨p, q, hA0, hV, rfl, hfz, hnd⟩ := hW
  have hA : DataW.TrodAll enc Try.prog W 0 (fun _ => true) true Try.f3.params.toList args.toList ds p := hA0
  rw [Try.params3] at hA hval
  obtain ⟨v0, vs0, d0, ds0, p0, q0, hargs, rfl, rfl, h0, r0⟩ := trodAll_cons hA
  obtain ⟨v1, vs1, d1, ds1, p1, q1, rfl, rfl, rfl, h1, r1⟩ := trodAll_cons r0
  obtain ⟨v2, vs2, d2, ds2, p2, q2, rfl, rfl, rfl, h2, r2⟩ := trodAll_cons r1
  obtain ⟨v3, vs3, d3, ds3, p3, q3, rfl, rfl, rfl, h3, r3⟩ := trodAll_cons r2
  obtain ⟨rfl, rfl, rfl⟩ := trodAll_nil r3
  obtain rfl : args = #[v0, v1, v2, v3] := by cases args; simp_all
  obtain ⟨rfl, rfl⟩ := trodVars_none hV
  obtain ⟨a0, rfl, rfl, rfl, w0⟩ := open_int Try.underlying2 (hval 0 2 v0 rfl rfl) h0
  obtain ⟨a1, rfl, rfl, rfl, w1⟩ := open_int Try.underlying2 (hval 1 2 v1 rfl rfl) h1
  obtain ⟨a2, rfl, rfl, rfl, w2⟩ := open_int Try.underlying2 (hval 2 2 v2 rfl rfl) h2
  obtain ⟨a3, rfl, rfl, rfl, w3⟩ := open_int Try.underlying2 (hval 3 2 v3 rfl rfl) h3
  clear hA0 hval0
  simp only [List.append_nil] at hW'
  refine (walk a0 a1 a2 a3 w0 w1 w2 w3 W).mono fun e W' ⟨he, hg⟩ => ?_
  subst he
  exact ⟨_, rfl, post_of_kept (pa := []) (pv := []) hW' (fun _ _ _ => (trodAll_cons_mk (shut_bool Try.underlying4 _) trodAll_mk0)) (fun sp _ => (trodAll_cons_mk (shut_int Try.underlying2 w0) (trodAll_cons_mk (shut_int Try.underlying2 w1) (trodAll_cons_mk (shut_int Try.underlying2 w2) (trodAll_cons_mk (shut_int Try.underlying2 w3) trodAll_mk0))))) (fun _ _ => rfl) rfl
    (hg.frame _)⟩

theorem over : Rows.powerAddsRow.holds Try.pinned (OpenSpec.ofChange Rows.powerAddsSpec) :=
  OpenClaim.holds_of_wide 3 Try.f3 rfl rfl rfl rfl rfl rfl rfl ⟨rfl, rfl, rfl, rfl, rfl⟩ rfl rfl rfl rfl rfl (by kernel_rfl) Try.func3 (by kernel_rfl)
    (of_decide_eq_true (by kernel_rfl)) (by unfold Func.isWrapper; first | (rw [if_pos (by decide +kernel)]; kernel_rfl) | (rw [if_neg (by decide +kernel)]; exact ⟨rfl, rfl⟩))
    (fun os started H enc _ => lifted os started H enc)

/-- ████ THE STATEMENT ████ -/
theorem proved : Rows.PowerAddsSaid :=
  over
end Go.Proofs.Ytoakbobofaepiab.powerAdds
