/-
  For any prime and any two numbers: if it divides their product, it divides one of them: with no condition.
-/
import Derived.Test.YtlbmhhkhemhfaabRows
import Derived.Test.YtlbmhhkhemhfaabNum2
import Derived.Test.YtlbmhhkhemhfaabCalls9
import Derived.WalkKit
import Derived.ProofKit
import Derived.OpenShut
namespace Go.Proofs.Ytlbmhhkhemhfaab.primesEuclid
open Go.Proofs.Ytlbmhhkhemhfaab.Num Go.Proofs.Ytlbmhhkhemhfaab.Num2 Go.Proofs.Ytlbmhhkhemhfaab.Calls7 Go.Proofs.Ytlbmhhkhemhfaab.Calls8 Go.Proofs.Ytlbmhhkhemhfaab.Calls9
open Go.ChangeShapes Go.WideShapes Go.ChangeAt Go.RowKit
set_option linter.unusedVariables false      -- a walk need not use every 'w<i>' (that an integer argument fits its kind)

theorem own : ownKnob Try.prog.godebug = none := by kernel_rfl

theorem below_drewN {B : Nat} {a b : World} (h : Below B a b) (n : Nat) : Below B a (b.drewN n) := ⟨h.os, h.tape, h.output, h.size, h.block⟩

theorem tm_bd (a : Int) {p : Nat} (h : 1 ≤ p) : (Int.tmod a p).natAbs < p := by
  have h1 : Int.tmod a p < p := Int.tmod_lt_of_pos a (by omega)
  have h2 := Int.lt_tmod_of_pos a (show 0 < (p : Int) by omega)
  omega

theorem mul_bd {x y : Int} {p : Nat} (hx : x.natAbs < p) (hy : y.natAbs < p) (hp : p ≤ 1048576) : -1099511627776 ≤ x * y ∧ x * y ≤ 1099511627776 := by
  have h : (x * y).natAbs ≤ 1048576 * 1048576 := by
    rw [Int.natAbs_mul]
    exact Nat.mul_le_mul (by omega) (by omega)
  omega

set_option maxRecDepth 100000 in
theorem walk (a0 : Int) (a1 : Int) (a2 : Int) (w0 : (Lit.int .i64 a0).wf = true) (w1 : (Lit.int .i64 a1).wf = true) (w2 : (Lit.int .i64 a2).wf = true) (w : World) :
    Calls Try.prog 3 #[.int .i64 a0, .int .i64 a1, .int .i64 a2] w fun e w' => e = .returned (.bool true) ∧ Below w.heap.size w w' := by
  by_cases hm : 1 ≤ a0 ∧ a0 ≤ 1048576
  · obtain ⟨m, rfl⟩ : ∃ m : Nat, a0 = (m : Int) := ⟨a0.toNat, by omega⟩
    have h1 : 1 ≤ m := by omega
    have h2 : m ≤ 1048576 := by omega
    have hm0 : ¬ (m : Int) = 0 := by omega
    clear hm w0 w1 w2
    cases hp : prB m with
    | false =>
      go_enter Try.func3, Try.ntmps3
      go_wp2_with (first
        | (go_at_call 9; refine (Is_yes m h1 h2 _).mono ?_; rw [hp]; rintro e w' ⟨rfl, hg⟩)
        | (go_at_call 10; refine (kmodulus_yes _ (by omega) (by omega) _).mono ?_; rintro e w' ⟨rfl, rfl⟩)
        | (go_at_call 11; refine (refIs_any m h2 _).mono ?_; rw [hp]; rintro e w' ⟨rfl, rfl⟩))
      go_ret
      exact ⟨rfl, hg⟩
    | true =>
      by_cases hn : (-2147483648 ≤ a1 ∧ a1 ≤ 2147483648) ∧ (-2147483648 ≤ a2 ∧ a2 ≤ 2147483648)
      · obtain ⟨⟨n1, n2⟩, n3, n4⟩ := hn
        have d1 : decide (-2147483648 ≤ a1 ∧ a1 ≤ 2147483648) = true := decide_eq_true ⟨n1, n2⟩
        have d2 : decide (-2147483648 ≤ a2 ∧ a2 ≤ 2147483648) = true := decide_eq_true ⟨n3, n4⟩
        have cN1 := fun w => near_any a1 w
        have cN2 := fun w => near_any a2 w
        rw [d1] at cN1
        rw [d2] at cN2
        have hE := euclid_rest ((prB_iff m).1 hp) a1 a2
        have hx := tm_bd a1 h1
        have hy := tm_bd a2 h1
        obtain ⟨hb1, hb2⟩ := mul_bd hx hy h2
        clear d1 d2
        go_enter Try.func3, Try.ntmps3
        go_wp2_with (first
          | (go_at_call 9; refine (Is_yes m h1 h2 _).mono ?_; rw [hp]; rintro e w' ⟨rfl, hg⟩)
          | (go_at_call 10; refine (kmodulus_yes _ (by omega) (by omega) _).mono ?_; rintro e w' ⟨rfl, rfl⟩)
          | (go_at_call 11; refine (refIs_any m h2 _).mono ?_; rw [hp]; rintro e w' ⟨rfl, rfl⟩)
          | (go_at_call 12; first | (refine (cN1 _).mono ?_; rintro e w' ⟨rfl, rfl⟩) | (refine (cN2 _).mono ?_; rintro e w' ⟨rfl, rfl⟩)))
        by_cases hz : Int.tmod (Int.tmod a1 m * Int.tmod a2 m) m = 0
        · have hE2 := hE hz
          by_cases ea : Int.tmod a1 m = 0
          · have ea' : (Int.tmod a1 m == 0) = true := by simp [ea]
            clear hE hE2 hb1 hb2 hx hy
            go_quiet (fail)
            go_wp2
            go_ret
            exact ⟨rfl, below_drewN hg _⟩
          · have ea' : (Int.tmod a1 m == 0) = false := by simp [ea]
            have eb : Int.tmod a2 m = 0 := hE2.resolve_left ea
            have eb' : (Int.tmod a2 m == 0) = true := by simp [eb]
            clear hE hE2 hb1 hb2 hx hy
            go_quiet (fail)
            go_wp2
            go_ret
            exact ⟨rfl, below_drewN hg _⟩
        · clear hE
          have x1 : -1048576 ≤ Int.tmod a1 m := by omega
          have x2 : Int.tmod a1 m ≤ 1048576 := by omega
          have x3 : -1048576 ≤ Int.tmod a2 m := by omega
          have x4 : Int.tmod a2 m ≤ 1048576 := by omega
          have hx5 := tm_bd (Int.tmod a1 m * Int.tmod a2 m) h1
          have x5 : -1048576 ≤ Int.tmod (Int.tmod a1 m * Int.tmod a2 m) m := by omega
          have x6 : Int.tmod (Int.tmod a1 m * Int.tmod a2 m) m ≤ 1048576 := by omega
          have hz' : (Int.tmod (Int.tmod a1 m * Int.tmod a2 m) m != 0) = true := by simp [hz]
          clear hx hy hx5
          go_quiet (fail)
          go_wp2
          go_ret
          exact ⟨rfl, below_drewN hg _⟩
      · by_cases hn1 : -2147483648 ≤ a1 ∧ a1 ≤ 2147483648
        · have d1 : decide (-2147483648 ≤ a1 ∧ a1 ≤ 2147483648) = true := decide_eq_true hn1
          have d2 : decide (-2147483648 ≤ a2 ∧ a2 ≤ 2147483648) = false := decide_eq_false (fun h => hn ⟨hn1, h⟩)
          have cN1 := fun w => near_any a1 w
          have cN2 := fun w => near_any a2 w
          rw [d1] at cN1
          rw [d2] at cN2
          clear d1 d2 hn hn1
          go_enter Try.func3, Try.ntmps3
          go_wp2_with (first
            | (go_at_call 9; refine (Is_yes m h1 h2 _).mono ?_; rw [hp]; rintro e w' ⟨rfl, hg⟩)
            | (go_at_call 10; refine (kmodulus_yes _ (by omega) (by omega) _).mono ?_; rintro e w' ⟨rfl, rfl⟩)
            | (go_at_call 11; refine (refIs_any m h2 _).mono ?_; rw [hp]; rintro e w' ⟨rfl, rfl⟩)
            | (go_at_call 12; first | (refine (cN1 _).mono ?_; rintro e w' ⟨rfl, rfl⟩) | (refine (cN2 _).mono ?_; rintro e w' ⟨rfl, rfl⟩)))
          go_ret
          exact ⟨rfl, hg⟩
        · have d1 : decide (-2147483648 ≤ a1 ∧ a1 ≤ 2147483648) = false := decide_eq_false hn1
          have cN1 := fun w => near_any a1 w
          rw [d1] at cN1
          clear d1 hn hn1
          go_enter Try.func3, Try.ntmps3
          go_wp2_with (first
            | (go_at_call 9; refine (Is_yes m h1 h2 _).mono ?_; rw [hp]; rintro e w' ⟨rfl, hg⟩)
            | (go_at_call 10; refine (kmodulus_yes _ (by omega) (by omega) _).mono ?_; rintro e w' ⟨rfl, rfl⟩)
            | (go_at_call 11; refine (refIs_any m h2 _).mono ?_; rw [hp]; rintro e w' ⟨rfl, rfl⟩)
            | (go_at_call 12; refine (cN1 _).mono ?_; rintro e w' ⟨rfl, rfl⟩))
          go_ret
          exact ⟨rfl, hg⟩
  · have H : Hid (¬ (1 ≤ a0 ∧ a0 ≤ 1048576)) := hm
    clear hm w0 w1 w2
    go_enter Try.func3, Try.ntmps3
    go_wp2_with (first
      | (go_at_call 9; refine (Is_no _ H.out _).mono ?_; rintro e w' ⟨rfl, hg⟩)
      | (go_at_call 10; refine (kmodulus_no _ H.out _).mono ?_; rintro e w' ⟨rfl, rfl⟩))
    go_ret
    exact ⟨rfl, hg⟩

/-! ### THE ROW's STEP: WRITTEN OUT: LEAVE IT -/
set_option maxRecDepth 100000 in
theorem lifted (os : Os) (started : os.Started) (H : Type) (enc : TypeId × Value → H) :
    ReturnsInHanded {} Try.checked os 3 .any (Rows.primesEuclidSpec.pre6 enc Try.prog Try.f3 Rows.primesEuclidRow.domain false) (Rows.primesEuclidSpec.post enc Try.prog Try.f3 false true false false) := by
  refine returnsInHanded_of_change (C := Try.checked) own started (by kernel_rfl) Try.func3
    (ChangeSpec.witness6 (enc := enc) (C := Try.checked) false ⟨#[], #[.int .i64 0, .int .i64 0, .int .i64 0], []⟩ 8 (by kernel_rfl) (by kernel_rfl) (by kernel_rfl) (by kernel_rfl)) ?_
  intro W base args ds gs before hval0 hW hcnd _
  have hval : ∀ (j : Nat) t v, Try.f3.params[j]? = some t → args[j]? = some v → Value.okWide Try.prog W .any base t v := hval0
  have hW' := hW
  obtain ⟨p, q, hA0, hV, rfl, hfz, hnd⟩ := hW
  have hA : DataW.TrodAll enc Try.prog W 0 (fun _ => true) true Try.f3.params.toList args.toList ds p := hA0
  rw [Try.params3] at hA hval
  obtain ⟨v0, vs0, d0, ds0, p0, q0, hargs, rfl, rfl, h0, r0⟩ := trodAll_cons hA
  obtain ⟨v1, vs1, d1, ds1, p1, q1, rfl, rfl, rfl, h1, r1⟩ := trodAll_cons r0
  obtain ⟨v2, vs2, d2, ds2, p2, q2, rfl, rfl, rfl, h2, r2⟩ := trodAll_cons r1
  obtain ⟨rfl, rfl, rfl⟩ := trodAll_nil r2
  obtain rfl : args = #[v0, v1, v2] := by cases args; simp_all
  obtain ⟨rfl, rfl⟩ := trodVars_none hV
  obtain ⟨a0, rfl, rfl, rfl, w0⟩ := open_int Try.underlying2 (hval 0 2 v0 rfl rfl) h0
  obtain ⟨a1, rfl, rfl, rfl, w1⟩ := open_int Try.underlying2 (hval 1 2 v1 rfl rfl) h1
  obtain ⟨a2, rfl, rfl, rfl, w2⟩ := open_int Try.underlying2 (hval 2 2 v2 rfl rfl) h2
  clear hA0 hval0
  simp only [List.append_nil] at hW'
  refine (walk a0 a1 a2 w0 w1 w2 W).mono fun e W' ⟨he, hg⟩ => ?_
  subst he
  exact ⟨_, rfl, post_of_kept (pa := []) (pv := []) hW' (fun _ _ _ => (trodAll_cons_mk (shut_bool Try.underlying4 _) trodAll_mk0)) (fun sp _ => (trodAll_cons_mk (shut_int Try.underlying2 w0) (trodAll_cons_mk (shut_int Try.underlying2 w1) (trodAll_cons_mk (shut_int Try.underlying2 w2) trodAll_mk0)))) (fun _ _ => rfl) rfl
    (hg.frame _)⟩

theorem over : Rows.primesEuclidRow.holds Try.pinned (OpenSpec.ofChange Rows.primesEuclidSpec) :=
  OpenClaim.holds_of_wide 3 Try.f3 rfl rfl rfl rfl rfl rfl rfl ⟨rfl, rfl, rfl, rfl, rfl⟩ rfl rfl rfl rfl rfl (by kernel_rfl) Try.func3 (by kernel_rfl)
    (of_decide_eq_true (by kernel_rfl)) (by unfold Func.isWrapper; first | (rw [if_pos (by decide +kernel)]; kernel_rfl) | (rw [if_neg (by decide +kernel)]; exact ⟨rfl, rfl⟩))
    (fun os started H enc _ => lifted os started H enc)

/-- ████ THE STATEMENT ████ -/
theorem proved : Rows.PrimesEuclidSaid :=
  over
end Go.Proofs.Ytlbmhhkhemhfaab.primesEuclid
