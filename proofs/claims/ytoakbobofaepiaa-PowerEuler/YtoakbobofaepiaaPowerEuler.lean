/-
  EULER, LAGRANGE: for all numbers a, m and k: if nothing but 1 divides both a and m, the least power of a that leaves what 1 does divides Euler's count of m; and a to the k leaves what 1 does just if it divides k.
-/
import Derived.Test.YtoakbobofaepiaaRows
import Derived.Test.YtoakbobofaepiaaCalls22
import Derived.Test.YtoakbobofaepiaaCalls10
import Derived.WalkKit
import Derived.ProofKit
import Derived.OpenShut
namespace Go.Proofs.Ytoakbobofaepiaa.powerEuler
open Go.Proofs.Ytoakbobofaepiaa.Num3 Go.Proofs.Ytoakbobofaepiaa.Num6 Go.Proofs.Ytoakbobofaepiaa.Num13 Go.Proofs.Ytoakbobofaepiaa.Calls4 Go.Proofs.Ytoakbobofaepiaa.Calls8 Go.Proofs.Ytoakbobofaepiaa.Calls9 Go.Proofs.Ytoakbobofaepiaa.Calls10 Go.Proofs.Ytoakbobofaepiaa.Calls11 Go.Proofs.Ytoakbobofaepiaa.Calls19 Go.Proofs.Ytoakbobofaepiaa.Calls20 Go.Proofs.Ytoakbobofaepiaa.Calls22
open Go.ChangeShapes Go.WideShapes Go.ChangeAt Go.RowKit
set_option linter.unusedVariables false      -- a walk need not use every 'w<i>' (that an integer argument fits its kind)

theorem own : ownKnob Try.prog.godebug = none := by kernel_rfl

theorem mod_dvd {p o : Nat} (ho : 1 ≤ o) (h : o ∣ p) : ((p : Int) % (o : Int) != 0) = false := by
  rw [show (p : Int) % (o : Int) = ((p % o : Nat) : Int) by simp, Nat.mod_eq_zero_of_dvd h]; rfl

theorem walk (a0 : Int) (a1 : Int) (a2 : Int) (w0 : (Lit.int .i64 a0).wf = true) (w1 : (Lit.int .i64 a1).wf = true) (w2 : (Lit.int .i64 a2).wf = true) (w : World) :
    Calls Try.prog 7 #[.int .i64 a0, .int .i64 a1, .int .i64 a2] w fun e w' => e = .returned (.bool true) ∧ Below w.heap.size w w' := by
  have cN := fun w => near_any a0 w
  by_cases hn : -2147483648 ≤ a0 ∧ a0 ≤ 2147483648
  · rw [decide_eq_true hn] at cN
    by_cases hg : Md a1
    · obtain ⟨m1, m2⟩ := hg
      obtain ⟨m, rfl⟩ : ∃ m : Nat, a1 = (m : Int) := ⟨a1.toNat, by omega⟩
      have hm1 : 1 ≤ m := by omega
      have hm2 : m ≤ 1048576 := by omega
      have cM := fun w => kmodulus_yes (m : Int) m1 m2 w
      have cG := fun w => refGcd_any a0 (m : Int) w hn.1 hn.2 (by omega) (by omega)
      rw [gg_rs a0 hm1] at cG
      by_cases hc : Nat.gcd (rs a0 m) m = 1
      · rw [hc] at cG
        obtain ⟨o, ho, hot⟩ := ord_ex hm1 hc
        have ho1 := ho.1
        have ho2 := ord_le hm1 ho
        have ho3 : ¬ (o : Int) = 0 := by omega
        have ho4 : ¬ o = 0 := by omega
        have cO := fun w => Order_yes a0 m o hn hm1 hm2 ho w
        have cF := fun w => Phi_at (m : Int) m1 m2 w
        rw [Int.toNat_natCast] at cF
        have hd := mod_dvd ho1 hot
        have ht := tot_le m
        by_cases hk : 0 ≤ a2 ∧ a2 ≤ 2147483648
        · obtain ⟨k1, k2⟩ := hk
          obtain ⟨k, rfl⟩ : ∃ k : Nat, a2 = (k : Int) := ⟨a2.toNat, by omega⟩
          have cP := fun w => Pow_yes a0 k m hn.1 hn.2 (by omega) hm1 hm2 w
          have e1 := one_iff ho k
          have e2 := mod_zero_iff k o
          rw [← e1] at e2
          clear e1 hot ho hc hn
          have hm0 : ¬ (m : Int) = 0 := by omega
          have hm0' : ¬ m = 0 := by omega
          go_enter Try.func7, Try.ntmps7
          go_wp2_with (first | (go_at_call 14; refine (cO _).mono ?_; rintro e w1 ⟨rfl, hB1⟩) | (go_at_call 18; refine (cN _).mono ?_; rintro e w' ⟨rfl, hw⟩; subst w') | (go_at_call 19; refine (cM _).mono ?_; rintro e w' ⟨rfl, hw⟩; subst w') | (go_at_call 22; refine (cG _).mono ?_; rintro e w' ⟨rfl, hw⟩; subst w') | (go_at_call 23; refine (cF _).mono ?_; rintro e w2 ⟨rfl, hB2⟩) | (go_at_call 9; refine (cP _).mono ?_; rintro e w' ⟨rfl, hw⟩; subst w'))
          go_quiet (fail)
          go_wp2
          go_ret
          exact ⟨ret_bool (by simp), below_drewN (below_trans hB1 hB2) _⟩
        · clear hot ho hc hn
          by_cases hk0 : a2 < 0
          · clear hk
            go_enter Try.func7, Try.ntmps7
            go_wp2_with (first | (go_at_call 14; refine (cO _).mono ?_; rintro e w1 ⟨rfl, hB1⟩) | (go_at_call 18; refine (cN _).mono ?_; rintro e w' ⟨rfl, hw⟩; subst w') | (go_at_call 19; refine (cM _).mono ?_; rintro e w' ⟨rfl, hw⟩; subst w') | (go_at_call 22; refine (cG _).mono ?_; rintro e w' ⟨rfl, hw⟩; subst w') | (go_at_call 23; refine (cF _).mono ?_; rintro e w2 ⟨rfl, hB2⟩))
            go_ret
            exact ⟨rfl, below_trans hB1 hB2⟩
          · have hk2 : 2147483648 < a2 := by omega
            clear hk
            go_enter Try.func7, Try.ntmps7
            go_wp2_with (first | (go_at_call 14; refine (cO _).mono ?_; rintro e w1 ⟨rfl, hB1⟩) | (go_at_call 18; refine (cN _).mono ?_; rintro e w' ⟨rfl, hw⟩; subst w') | (go_at_call 19; refine (cM _).mono ?_; rintro e w' ⟨rfl, hw⟩; subst w') | (go_at_call 22; refine (cG _).mono ?_; rintro e w' ⟨rfl, hw⟩; subst w') | (go_at_call 23; refine (cF _).mono ?_; rintro e w2 ⟨rfl, hB2⟩))
            go_ret
            exact ⟨rfl, below_trans hB1 hB2⟩
      · have cO := fun w => Order_none a0 m hn hm1 hm2 hc w
        have hg1 : ¬ (Nat.gcd (rs a0 m) m : Int) = 1 := by omega
        have hg2 : ((Nat.gcd (rs a0 m) m : Int) != 1) = true := by simpa using hg1
        clear hc hn
        go_enter Try.func7, Try.ntmps7
        go_wp2_with (first | (go_at_call 14; refine (cO _).mono ?_; rintro e w1 ⟨rfl, hB1⟩) | (go_at_call 18; refine (cN _).mono ?_; rintro e w' ⟨rfl, hw⟩; subst w') | (go_at_call 19; refine (cM _).mono ?_; rintro e w' ⟨rfl, hw⟩; subst w') | (go_at_call 22; refine (cG _).mono ?_; rintro e w' ⟨rfl, hw⟩; subst w'))
        go_ret
        exact ⟨rfl, hB1⟩
    · have cM := fun w => kmodulus_no a1 hg w
      have cO := fun w => Order_no a0 a1 (fun h => hg h.2) w
      clear hg hn
      go_enter Try.func7, Try.ntmps7
      go_wp2_with (first | (go_at_call 14; refine (cO _).mono ?_; rintro e w1 ⟨rfl, hB1⟩) | (go_at_call 18; refine (cN _).mono ?_; rintro e w' ⟨rfl, hw⟩; subst w') | (go_at_call 19; refine (cM _).mono ?_; rintro e w' ⟨rfl, hw⟩; subst w'))
      go_ret
      exact ⟨rfl, hB1⟩
  · rw [decide_eq_false hn] at cN
    have cO := fun w => Order_no a0 a1 (fun h => hn h.1) w
    clear hn
    go_enter Try.func7, Try.ntmps7
    go_wp2_with (first | (go_at_call 14; refine (cO _).mono ?_; rintro e w1 ⟨rfl, hB1⟩) | (go_at_call 18; refine (cN _).mono ?_; rintro e w' ⟨rfl, hw⟩; subst w'))
    go_ret
    exact ⟨rfl, hB1⟩

/-! ### THE ROW's STEP: WRITTEN OUT: LEAVE IT -/
set_option maxRecDepth 100000 in
theorem lifted (os : Os) (started : os.Started) (H : Type) (enc : TypeId × Value → H) :
    ReturnsInHanded {} Try.checked os 7 .any (Rows.powerEulerSpec.pre6 enc Try.prog Try.f7 Rows.powerEulerRow.domain false) (Rows.powerEulerSpec.post enc Try.prog Try.f7 false true false false) := by
  refine returnsInHanded_of_change (C := Try.checked) own started (by kernel_rfl) Try.func7
    (ChangeSpec.witness6 (enc := enc) (C := Try.checked) false ⟨#[], #[.int .i64 0, .int .i64 0, .int .i64 0], []⟩ 8 (by kernel_rfl) (by kernel_rfl) (by kernel_rfl) (by kernel_rfl)) ?_
  intro W base args ds gs before hval0 hW hcnd _
  have hval : ∀ (j : Nat) t v, Try.f7.params[j]? = some t → args[j]? = some v → Value.okWide Try.prog W .any base t v := hval0
  have hW' := hW
  obtain ⟨p, q, hA0, hV, rfl, hfz, hnd⟩ := hW
  have hA : DataW.TrodAll enc Try.prog W 0 (fun _ => true) true Try.f7.params.toList args.toList ds p := hA0
  rw [Try.params7] at hA hval
  obtain ⟨v0, vs0, d0, ds0, p0, q0, hargs, rfl, rfl, h0, r0⟩ := trodAll_cons hA
  obtain ⟨v1, vs1, d1, ds1, p1, q1, rfl, rfl, rfl, h1, r1⟩ := trodAll_cons r0
  obtain ⟨v2, vs2, d2, ds2, p2, q2, rfl, rfl, rfl, h2, r2⟩ := trodAll_cons r1
  obtain ⟨rfl, rfl, rfl⟩ := trodAll_nil r2
  obtain rfl : args = #[v0, v1, v2] := by cases args; simp_all
  obtain ⟨rfl, rfl⟩ := trodVars_none hV
  obtain ⟨a0, rfl, rfl, rfl, w0⟩ := open_int Try.underlying2 (hval 0 2 v0 rfl rfl) h0
  obtain ⟨a1, rfl, rfl, rfl, w1⟩ := open_int Try.underlying2 (hval 1 2 v1 rfl rfl) h1
  obtain ⟨a2, rfl, rfl, rfl, w2⟩ := open_int Try.underlying2 (hval 2 2 v2 rfl rfl) h2
  clear hA0 hval0
  simp only [List.append_nil] at hW'
  refine (walk a0 a1 a2 w0 w1 w2 W).mono fun e W' ⟨he, hg⟩ => ?_
  subst he
  exact ⟨_, rfl, post_of_kept (pa := []) (pv := []) hW' (fun _ _ _ => (trodAll_cons_mk (shut_bool Try.underlying4 _) trodAll_mk0)) (fun sp _ => (trodAll_cons_mk (shut_int Try.underlying2 w0) (trodAll_cons_mk (shut_int Try.underlying2 w1) (trodAll_cons_mk (shut_int Try.underlying2 w2) trodAll_mk0)))) (fun _ _ => rfl) rfl
    (hg.frame _)⟩

theorem over : Rows.powerEulerRow.holds Try.pinned (OpenSpec.ofChange Rows.powerEulerSpec) :=
  OpenClaim.holds_of_wide 7 Try.f7 rfl rfl rfl rfl rfl rfl rfl ⟨rfl, rfl, rfl, rfl, rfl⟩ rfl rfl rfl rfl rfl (by kernel_rfl) Try.func7 (by kernel_rfl)
    (of_decide_eq_true (by kernel_rfl)) (by unfold Func.isWrapper; first | (rw [if_pos (by decide +kernel)]; kernel_rfl) | (rw [if_neg (by decide +kernel)]; exact ⟨rfl, rfl⟩))
    (fun os started H enc _ => lifted os started H enc)

/-- ████ THE STATEMENT ████ -/
theorem proved : Rows.PowerEulerSaid :=
  over
end Go.Proofs.Ytoakbobofaepiaa.powerEuler
