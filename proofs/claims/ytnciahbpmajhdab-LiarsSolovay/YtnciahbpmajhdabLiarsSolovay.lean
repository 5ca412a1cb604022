/-
  For every odd number n from 3 to 500: of a prime all seem to prove it one by Euler's criterion; of another one one at least, and half of those at most that have nothing in common with it; and elsewhere 1 is refused just if n is out of range.
-/
import Derived.Test.YtnciahbpmajhdabRows
import Derived.Test.YtnciahbpmajhdabCalls32
import Derived.Test.YtnciahbpmajhdabCalls34
import Derived.WalkKit
import Derived.ProofKit
import Derived.OpenShut
namespace Go.Proofs.Ytnciahbpmajhdab.liarsSolovay
open Go.Proofs.Ytnciahbpmajhdab.Num Go.Proofs.Ytnciahbpmajhdab.Num3 Go.Proofs.Ytnciahbpmajhdab.Num9 Go.Proofs.Ytnciahbpmajhdab.Num10 Go.Proofs.Ytnciahbpmajhdab.Num13 Go.Proofs.Ytnciahbpmajhdab.Num29 Go.Proofs.Ytnciahbpmajhdab.Num30 Go.Proofs.Ytnciahbpmajhdab.Calls8 Go.Proofs.Ytnciahbpmajhdab.Calls9 Go.Proofs.Ytnciahbpmajhdab.Calls19 Go.Proofs.Ytnciahbpmajhdab.Calls20 Go.Proofs.Ytnciahbpmajhdab.Calls29 Go.Proofs.Ytnciahbpmajhdab.Calls32 Go.Proofs.Ytnciahbpmajhdab.Calls34
open Go.ChangeShapes Go.WideShapes Go.ChangeAt Go.RowKit
set_option linter.unusedVariables false      -- a walk need not use every 'w<i>' (that an integer argument fits its kind)

theorem own : ownKnob Try.prog.godebug = none := by kernel_rfl

theorem sol_f {n : Nat} (hn : 1 ≤ n) : ∃ f : Nat → Bool, ∀ x : Nat, ∃ J, JJ (x : Int) n J ∧ f x = euB (x : Int) n J :=
  ⟨fun x => euB (x : Int) n (Classical.choose (JJ.ex (x : Int) hn)), fun x => ⟨_, Classical.choose_spec (JJ.ex (x : Int) hn), rfl⟩⟩

theorem sol_prime {n : Nat} {f : Nat → Bool} (hp : Pr n) (ho : n ≠ 2) (hf : ∀ x : Nat, ∃ J, JJ (x : Int) n J ∧ f x = euB (x : Int) n J) : cnt f (n - 1) = tot n := by
  rw [tot_prime hp]
  refine cnt_true (fun x h1 h2 => ?_)
  obtain ⟨J, hJ, e⟩ := hf x
  rw [e]
  exact eu_prime hp ho hJ (by rw [rs_self (by omega)]; omega)

theorem sol_one {n : Nat} {f : Nat → Bool} (hn : 3 ≤ n) (hf : ∀ x : Nat, ∃ J, JJ (x : Int) n J ∧ f x = euB (x : Int) n J) : 1 ≤ cnt f (n - 1) := by
  refine cnt_one ?_ _ (by omega)
  obtain ⟨J, hJ, e⟩ := hf 1
  rw [e]
  have : J = 1 := hJ.uniq (JJ.one (by omega))
  subst this
  exact eu_one hn

theorem sol_comp {n : Nat} {f : Nat → Bool} (hn : 3 ≤ n) (ho : n % 2 = 1) (hc : ¬ Pr n) (hf : ∀ x : Nat, ∃ J, JJ (x : Int) n J ∧ f x = euB (x : Int) n J) : 2 * cnt f (n - 1) ≤ tot n :=
  solovay_cnt hn ho hc (fun x _ _ h => by
    obtain ⟨J, hJ, e⟩ := hf x
    exact ⟨J, hJ, by rw [← e]; exact h⟩)

theorem walk (a0 : Int) (w0 : (Lit.int .i64 a0).wf = true) (w : World) :
    Calls Try.prog 4 #[.int .i64 a0] w fun e w' => e = .returned (.bool true) ∧ Below w.heap.size w w' := by
  by_cases hlow : a0 < 3
  · have cE := fun w => Euler_no 1 a0 (fun h => by have := h.2.1; omega) w
    go_enter Try.func4, Try.ntmps4
    go_wp2_with (first | (go_at_call 7; refine (cE _).mono ?_; rintro e w_hB1 ⟨rfl, hB1⟩))
    go_ret
    exact ⟨rfl, hB1⟩
  · by_cases hbig : 1048576 < a0
    · have cE := fun w => Euler_no 1 a0 (fun h => by have := h.2.2; omega) w
      go_enter Try.func4, Try.ntmps4
      go_wp2_with (first | (go_at_call 7; refine (cE _).mono ?_; rintro e w_hB1 ⟨rfl, hB1⟩))
      go_ret
      exact ⟨rfl, hB1⟩
    · obtain ⟨n, rfl⟩ : ∃ m : Nat, a0 = (m : Int) := ⟨a0.toNat, by omega⟩
      by_cases h3 : n % 2 = 0
      · have cE := fun w => Euler_no 1 (n : Int) (fun h => by have := h.2.2.2; omega) w
        have h5 := beq_t (show (n : Int) % 2 = 0 by omega)
        have h6 := beq_f (show ¬ (n : Int) % 2 = 1 by omega)
        have h7 : (n : Int) % 2 = 0 := by omega
        clear h3
        by_cases h500 : 500 < (n : Int)
        · go_enter Try.func4, Try.ntmps4
          go_wp2_with (first | (go_at_call 7; refine (cE _).mono ?_; rintro e w_hB1 ⟨rfl, hB1⟩))
          go_ret
          exact ⟨rfl, hB1⟩
        · go_enter Try.func4, Try.ntmps4
          go_wp2_with (first | (go_at_call 7; refine (cE _).mono ?_; rintro e w_hB1 ⟨rfl, hB1⟩))
          go_ret
          exact ⟨rfl, hB1⟩
      · have h5 := beq_f (show ¬ (n : Int) % 2 = 0 by omega)
        have h6 := beq_t (show (n : Int) % 2 = 1 by omega)
        by_cases h500 : 500 < (n : Int)
        · have cE := fun w => Euler_yes 1 1 n ⟨by omega, by omega⟩ (by omega) (by omega) (JJ.one (by omega)) (by omega) w
          clear h3
          go_enter Try.func4, Try.ntmps4
          go_wp2_with (first | (go_at_call 7; refine (cE _).mono ?_; rintro e w_hB1 ⟨rfl, hB1⟩))
          go_ret
          exact ⟨rfl, hB1⟩
        · obtain ⟨f, hf⟩ := sol_f (n := n) (by omega)
          have cE : ∀ (k : Nat) w, k ≤ n → Calls Try.prog 7 #[.int .i64 (k : Int), .int .i64 (n : Int)] w fun e w' => e = .returned (.tuple #[.bool (f k), .int .i64 0]) ∧ Below w.heap.size w w' := by
            intro k w hk
            obtain ⟨J, hJ, e⟩ := hf k
            rw [e]
            exact Euler_yes (k : Int) J n ⟨by omega, by omega⟩ (by omega) (by omega) hJ (by omega) w
          have cP := fun w => Phi_at (n : Int) (by omega) (by omega) w
          rw [Int.toNat_natCast] at cP
          have cI := fun w => refIs_any n (by omega) w
          have htl := tot_le n
          have kk : (Pr n → cnt f (n - 1) = tot n) ∧ (¬ Pr n → 1 ≤ cnt f (n - 1) ∧ 2 * cnt f (n - 1) ≤ tot n) :=
            ⟨fun hp => sol_prime hp (by omega) hf, fun hp => ⟨sol_one (by omega) hf, sol_comp (by omega) (by omega) hp hf⟩⟩
          have K := hid kk
          have hn3 : 3 ≤ n := by omega
          have hn5 : n ≤ 500 := by omega
          obtain ⟨T, hT⟩ : ∃ T, tot n = T := ⟨_, rfl⟩
          rw [hT] at cP htl K
          clear h3 hf kk hT
          go_enter Try.func4, Try.ntmps4
          go_wp2
          go_loopw [5, 6] (fun tc tk W => ∃ c k : Nat, tc = .int .i64 (c : Int) ∧ tk = .int .i64 (k : Int) ∧ 1 ≤ k ∧ k ≤ n ∧ c ≤ k ∧ Hid (c = cnt f (k - 1)) ∧ Below w.heap.size w W) (fun _ tk _ => ((n : Int) - intOf tk).toNat)
          case atStart => exact ⟨0, 1, rfl, rfl, by omega, by omega, by omega, rfl, Below.refl _ _⟩
          case round =>
            obtain ⟨c, k, rfl, rfl, hk1, hk2, hc, hC, hBr⟩ := hrel
            by_cases hgo : k < n
            · have hgo' : (k : Int) < (n : Int) := by omega
              have cK := fun w => cE k w (by omega)
              have hst := hid (cnt_step f hk1)
              cases hb : f k
              · rw [hb] at cK
                have e : Hid (c = cnt f (k + 1 - 1)) := by
                  show _ = _
                  rw [Nat.add_sub_cancel, hst.out, hb, ← hC.out]; simp
                clear hst hC hb
                go_wp2_with (first | (go_at_call 7; refine (cK _).mono ?_; rintro e w_hB1 ⟨rfl, hB1⟩))
                go_roundw
                case rel => exact ⟨c, k + 1, rfl, by simp, by omega, by omega, by omega, e, hBr.trans (hB1.mono hBr.size)⟩
                case measure => exact meas_in hgo
              · rw [hb] at cK
                have e : Hid (c + 1 = cnt f (k + 1 - 1)) := by
                  show _ = _
                  rw [Nat.add_sub_cancel, hst.out, hb, ← hC.out]; simp
                clear hst hC hb
                go_wp2_with (first | (go_at_call 7; refine (cK _).mono ?_; rintro e w_hB1 ⟨rfl, hB1⟩))
                go_roundw
                case rel => exact ⟨c + 1, k + 1, by simp, by simp, by omega, by omega, by omega, e, hBr.trans (hB1.mono hBr.size)⟩
                case measure => exact meas_in hgo
            · have hgo' : ¬ (k : Int) < (n : Int) := by omega
              have ek : k = n := by omega
              subst ek
              by_cases hp : Pr k
              · rw [(prB_iff k).2 hp] at cI
                have e := K.out.1 hp
                rw [← hC.out] at e
                subst e
                clear hC hp K
                go_wp2_with (first | (go_at_call 8; refine (cP _).mono ?_; rintro e w_hB1 ⟨rfl, hB1⟩) | (go_at_call 6; refine (cI _).mono ?_; rintro e w' ⟨rfl, hw⟩; subst w'))
                go_ret
                exact ⟨rfl, hBr.trans (hB1.mono hBr.size)⟩
              · have hpb : prB k = false := by
                  cases h : prB k
                  · rfl
                  · exact absurd ((prB_iff k).1 h) hp
                rw [hpb] at cI
                obtain ⟨e1, e2⟩ := K.out.2 hp
                rw [← hC.out] at e1 e2
                have e3 : (1 : Int) ≤ (c : Int) := by omega
                have e4 : 2 * (c : Int) ≤ (T : Int) := by omega
                clear hC hp K e1 e2 hpb
                go_wp2_with (first | (go_at_call 8; refine (cP _).mono ?_; rintro e w_hB1 ⟨rfl, hB1⟩) | (go_at_call 6; refine (cI _).mono ?_; rintro e w' ⟨rfl, hw⟩; subst w'))
                go_ret
                exact ⟨rfl, hBr.trans (hB1.mono hBr.size)⟩

/-! ### THE ROW's STEP: WRITTEN OUT: LEAVE IT -/
set_option maxRecDepth 100000 in
theorem lifted (os : Os) (started : os.Started) (H : Type) (enc : TypeId × Value → H) :
    ReturnsInHanded {} Try.checked os 4 .any (Rows.liarsSolovaySpec.pre6 enc Try.prog Try.f4 Rows.liarsSolovayRow.domain false) (Rows.liarsSolovaySpec.post enc Try.prog Try.f4 false true false false) := by
  refine returnsInHanded_of_change (C := Try.checked) own started (by kernel_rfl) Try.func4
    (ChangeSpec.witness6 (enc := enc) (C := Try.checked) false ⟨#[], #[.int .i64 0], []⟩ 8 (by kernel_rfl) (by kernel_rfl) (by kernel_rfl) (by kernel_rfl)) ?_
  intro W base args ds gs before hval0 hW hcnd _
  have hval : ∀ (j : Nat) t v, Try.f4.params[j]? = some t → args[j]? = some v → Value.okWide Try.prog W .any base t v := hval0
  have hW' := hW
  obtain ⟨p, q, hA0, hV, rfl, hfz, hnd⟩ := hW
  have hA : DataW.TrodAll enc Try.prog W 0 (fun _ => true) true Try.f4.params.toList args.toList ds p := hA0
  rw [Try.params4] at hA hval
  obtain ⟨v0, vs0, d0, ds0, p0, q0, hargs, rfl, rfl, h0, r0⟩ := trodAll_cons hA
  obtain ⟨rfl, rfl, rfl⟩ := trodAll_nil r0
  obtain rfl : args = #[v0] := by cases args; simp_all
  obtain ⟨rfl, rfl⟩ := trodVars_none hV
  obtain ⟨a0, rfl, rfl, rfl, w0⟩ := open_int Try.underlying2 (hval 0 2 v0 rfl rfl) h0
  clear hA0 hval0
  simp only [List.append_nil] at hW'
  refine (walk a0 w0 W).mono fun e W' ⟨he, hg⟩ => ?_
  subst he
  exact ⟨_, rfl, post_of_kept (pa := []) (pv := []) hW' (fun _ _ _ => (trodAll_cons_mk (shut_bool Try.underlying4 _) trodAll_mk0)) (fun sp _ => (trodAll_cons_mk (shut_int Try.underlying2 w0) trodAll_mk0)) (fun _ _ => rfl) rfl
    (hg.frame _)⟩

theorem over : Rows.liarsSolovayRow.holds Try.pinned (OpenSpec.ofChange Rows.liarsSolovaySpec) :=
  OpenClaim.holds_of_wide 4 Try.f4 rfl rfl rfl rfl rfl rfl rfl ⟨rfl, rfl, rfl, rfl, rfl⟩ rfl rfl rfl rfl rfl (by kernel_rfl) Try.func4 (by kernel_rfl)
    (of_decide_eq_true (by kernel_rfl)) (by unfold Func.isWrapper; first | (rw [if_pos (by decide +kernel)]; kernel_rfl) | (rw [if_neg (by decide +kernel)]; exact ⟨rfl, rfl⟩))
    (fun os started H enc _ => lifted os started H enc)

/-- ████ THE STATEMENT ████ -/
theorem proved : Rows.LiarsSolovaySaid :=
  over
end Go.Proofs.Ytnciahbpmajhdab.liarsSolovay
