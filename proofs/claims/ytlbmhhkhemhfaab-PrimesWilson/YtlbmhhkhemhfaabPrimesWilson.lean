/-
  For any number that is not too great: it is told a prime just if the product of all below it leaves what is 1 less than it: with no condition.
-/
import Derived.Test.YtlbmhhkhemhfaabRows
import Derived.Test.YtlbmhhkhemhfaabNum2
import Derived.Test.YtlbmhhkhemhfaabCalls9
import Derived.WalkKit
import Derived.ProofKit
import Derived.OpenShut
namespace Go.Proofs.Ytlbmhhkhemhfaab.primesWilson
open Go.Proofs.Ytlbmhhkhemhfaab.Num Go.Proofs.Ytlbmhhkhemhfaab.Num2 Go.Proofs.Ytlbmhhkhemhfaab.Calls7 Go.Proofs.Ytlbmhhkhemhfaab.Calls8 Go.Proofs.Ytlbmhhkhemhfaab.Calls9
open Go.ChangeShapes Go.WideShapes Go.ChangeAt Go.RowKit
set_option linter.unusedVariables false      -- a walk need not use every 'w<i>' (that an integer argument fits its kind)

theorem own : ownKnob Try.prog.godebug = none := by kernel_rfl

theorem meas3 {q M : Nat} (h : q < M) : ((M : Int) - ((q : Int) + 1)).toNat < ((M : Int) - (q : Int)).toNat := by omega

theorem fact_step {m x q : Nat} (hq : q = fact (x - 1) % m) (hx : 1 ≤ x) : q * x % m = fact (x + 1 - 1) % m := by
  obtain ⟨y, rfl⟩ : ∃ y, x = y + 1 := ⟨x - 1, by omega⟩
  rw [hq]
  show fact y % m * (y + 1) % m = (y + 1) * fact y % m
  rw [Nat.mul_mod, Nat.mod_mod, ← Nat.mul_mod, Nat.mul_comm]

theorem wilson_b {m q : Nat} (h2 : 2 ≤ m) (hq : q = fact (m - 1) % m) : prB m = ((q : Int) == (m : Int) - 1) := by
  have hw := wilson h2
  rw [← hq] at hw
  by_cases hp : Pr m
  · rw [(prB_iff m).2 hp]
    have := hw.2 hp
    have e : (q : Int) = (m : Int) - 1 := by omega
    simp [e]
  · have e1 : prB m = false := by
      cases h : prB m
      · rfl
      · exact absurd ((prB_iff m).1 h) hp
    rw [e1]
    have : ¬ q = m - 1 := fun e => hp (hw.1 e)
    have e : ¬ (q : Int) = (m : Int) - 1 := by omega
    simp [e]

set_option maxRecDepth 100000 in
theorem walk (a0 : Int) (w0 : (Lit.int .i64 a0).wf = true) (w : World) :
    Calls Try.prog 7 #[.int .i64 a0] w fun e w' => e = .returned (.bool true) ∧ Below w.heap.size w w' := by
  by_cases hm : 2 ≤ a0 ∧ a0 ≤ 4096
  · obtain ⟨m, rfl⟩ : ∃ m : Nat, a0 = (m : Int) := ⟨a0.toNat, by omega⟩
    have h1 : 2 ≤ m := by omega
    have h2 : m ≤ 4096 := by omega
    clear hm w0
    go_enter Try.func7, Try.ntmps7
    go_wp2_with (go_at_call 9; refine (Is_yes m (by omega) (by omega) _).mono ?_; rintro e w' ⟨rfl, hg⟩)
    go_loop [5, 6] (fun p x => ∃ q y : Nat, p = .int .i64 (q : Int) ∧ x = .int .i64 (y : Int) ∧ 2 ≤ y ∧ y ≤ m ∧ q < m ∧ Hid (q = fact (y - 1) % m)) (fun p x => ((m : Int) - intOf x).toNat)
    case atStart => exact ⟨1, 2, rfl, rfl, by omega, by omega, by omega, (Nat.mod_eq_of_lt (by omega)).symm⟩
    case round =>
      obtain ⟨q, y, rfl, rfl, hy2, hym, hqm, hq⟩ := hrel
      by_cases hgo : y < m
      · have hgo' : (y : Int) < (m : Int) := by omega
        have hb : q * y ≤ 4096 * 4096 := Nat.mul_le_mul (by omega) (by omega)
        have hb' : (q : Int) * (y : Int) ≤ 16777216 := by have h := Int.ofNat_le.2 hb; rw [Int.natCast_mul] at h; omega
        have hb0 : 0 ≤ (q : Int) * (y : Int) := by exact_mod_cast Nat.zero_le (q * y)
        have hm0 : ¬ (m : Int) = 0 := by omega
        have hst := fact_step hq.out (show 1 ≤ y by omega)
        have hlt : q * y % m < m := Nat.mod_lt _ (by omega)
        have hst' : Hid (q * y % m = fact (y + 1 - 1) % m) := hst
        clear hst
        go_wp2
        go_round
        case rel => exact ⟨q * y % m, y + 1, by simp, by simp, by omega, by omega, hlt, hst'⟩
        case measure => exact meas3 hgo
      · have hgo' : ¬ (y : Int) < (m : Int) := by omega
        have e : y = m := by omega
        subst e
        have hw := wilson_b h1 hq.out
        go_wp2
        go_ret
        exact ⟨rfl, hg⟩
  · by_cases hk : 1 ≤ a0 ∧ a0 ≤ 1048576
    · obtain ⟨m, rfl⟩ : ∃ m : Nat, a0 = (m : Int) := ⟨a0.toNat, by omega⟩
      have h1 : 1 ≤ m := by omega
      have h2 : m ≤ 1048576 := by omega
      by_cases hs : (m : Int) < 2
      · clear hm w0 hk
        go_enter Try.func7, Try.ntmps7
        go_wp2_with (first
          | (go_at_call 9; refine (Is_yes m h1 h2 _).mono ?_; rintro e w' ⟨rfl, hg⟩)
          | (go_at_call 10; refine (kmodulus_yes _ (by omega) (by omega) _).mono ?_; rintro e w' ⟨rfl, rfl⟩))
        go_ret
        exact ⟨rfl, hg⟩
      · have hs2 : 4096 < (m : Int) := by omega
        clear hm w0 hk
        go_enter Try.func7, Try.ntmps7
        go_wp2_with (first
          | (go_at_call 9; refine (Is_yes m h1 h2 _).mono ?_; rintro e w' ⟨rfl, hg⟩)
          | (go_at_call 10; refine (kmodulus_yes _ (by omega) (by omega) _).mono ?_; rintro e w' ⟨rfl, rfl⟩))
        go_ret
        exact ⟨rfl, hg⟩
    · have H : Hid (¬ (1 ≤ a0 ∧ a0 ≤ 1048576)) := hk
      by_cases hs : a0 < 2
      · clear hm w0 hk
        go_enter Try.func7, Try.ntmps7
        go_wp2_with (first
          | (go_at_call 9; refine (Is_no _ H.out _).mono ?_; rintro e w' ⟨rfl, hg⟩)
          | (go_at_call 10; refine (kmodulus_no _ H.out _).mono ?_; rintro e w' ⟨rfl, rfl⟩))
        go_ret
        exact ⟨rfl, hg⟩
      · have hs2 : 4096 < a0 := by omega
        clear hm w0 hk
        go_enter Try.func7, Try.ntmps7
        go_wp2_with (first
          | (go_at_call 9; refine (Is_no _ H.out _).mono ?_; rintro e w' ⟨rfl, hg⟩)
          | (go_at_call 10; refine (kmodulus_no _ H.out _).mono ?_; rintro e w' ⟨rfl, rfl⟩))
        go_ret
        exact ⟨rfl, hg⟩

/-! ### THE ROW's STEP: WRITTEN OUT: LEAVE IT -/
set_option maxRecDepth 100000 in
theorem lifted (os : Os) (started : os.Started) (H : Type) (enc : TypeId × Value → H) :
    ReturnsInHanded {} Try.checked os 7 .any (Rows.primesWilsonSpec.pre6 enc Try.prog Try.f7 Rows.primesWilsonRow.domain false) (Rows.primesWilsonSpec.post enc Try.prog Try.f7 false true false false) := by
  refine returnsInHanded_of_change (C := Try.checked) own started (by kernel_rfl) Try.func7
    (ChangeSpec.witness6 (enc := enc) (C := Try.checked) false ⟨#[], #[.int .i64 0], []⟩ 8 (by kernel_rfl) (by kernel_rfl) (by kernel_rfl) (by kernel_rfl)) ?_
  intro W base args ds gs before hval0 hW hcnd _
  have hval : ∀ (j : Nat) t v, Try.f7.params[j]? = some t → args[j]? = some v → Value.okWide Try.prog W .any base t v := hval0
  have hW' := hW
  obtain ⟨p, q, hA0, hV, rfl, hfz, hnd⟩ := hW
  have hA : DataW.TrodAll enc Try.prog W 0 (fun _ => true) true Try.f7.params.toList args.toList ds p := hA0
  rw [Try.params7] at hA hval
  obtain ⟨v0, vs0, d0, ds0, p0, q0, hargs, rfl, rfl, h0, r0⟩ := trodAll_cons hA
  obtain ⟨rfl, rfl, rfl⟩ := trodAll_nil r0
  obtain rfl : args = #[v0] := by cases args; simp_all
  obtain ⟨rfl, rfl⟩ := trodVars_none hV
  obtain ⟨a0, rfl, rfl, rfl, w0⟩ := open_int Try.underlying2 (hval 0 2 v0 rfl rfl) h0
  clear hA0 hval0
  simp only [List.append_nil] at hW'
  refine (walk a0 w0 W).mono fun e W' ⟨he, hg⟩ => ?_
  subst he
  exact ⟨_, rfl, post_of_kept (pa := []) (pv := []) hW' (fun _ _ _ => (trodAll_cons_mk (shut_bool Try.underlying4 _) trodAll_mk0)) (fun sp _ => (trodAll_cons_mk (shut_int Try.underlying2 w0) trodAll_mk0)) (fun _ _ => rfl) rfl
    (hg.frame _)⟩

theorem over : Rows.primesWilsonRow.holds Try.pinned (OpenSpec.ofChange Rows.primesWilsonSpec) :=
  OpenClaim.holds_of_wide 7 Try.f7 rfl rfl rfl rfl rfl rfl rfl ⟨rfl, rfl, rfl, rfl, rfl⟩ rfl rfl rfl rfl rfl (by kernel_rfl) Try.func7 (by kernel_rfl)
    (of_decide_eq_true (by kernel_rfl)) (by unfold Func.isWrapper; first | (rw [if_pos (by decide +kernel)]; kernel_rfl) | (rw [if_neg (by decide +kernel)]; exact ⟨rfl, rfl⟩))
    (fun os started H enc _ => lifted os started H enc)

/-- ████ THE STATEMENT ████ -/
theorem proved : Rows.PrimesWilsonSaid :=
  over
end Go.Proofs.Ytlbmhhkhemhfaab.primesWilson
