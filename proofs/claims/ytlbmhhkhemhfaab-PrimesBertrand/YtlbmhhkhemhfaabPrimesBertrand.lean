/-
  For any number up to half of what may be there is a prime above it that is not above twice it (and of any other number the program tells whether it is out of range): with no condition.
-/
import Derived.Test.YtlbmhhkhemhfaabRows
import Derived.Test.YtlbmhhkhemhfaabNum2
import Derived.Test.YtlbmhhkhemhfaabCalls9
import Derived.WalkKit
import Derived.ProofKit
import Derived.OpenShut
namespace Go.Proofs.Ytlbmhhkhemhfaab.primesBertrand
open Go.Proofs.Ytlbmhhkhemhfaab.Num Go.Proofs.Ytlbmhhkhemhfaab.Num2 Go.Proofs.Ytlbmhhkhemhfaab.Calls7 Go.Proofs.Ytlbmhhkhemhfaab.Calls8 Go.Proofs.Ytlbmhhkhemhfaab.Calls9
open Go.ChangeShapes Go.WideShapes Go.ChangeAt Go.RowKit
set_option linter.unusedVariables false      -- a walk need not use every 'w<i>' (that an integer argument fits its kind)

theorem own : ownKnob Try.prog.godebug = none := by kernel_rfl

theorem meas2 {q M : Nat} (h : q ≤ M) : (((M : Int) + 1) - ((q : Int) + 1)).toNat < (((M : Int) + 1) - (q : Int)).toNat := by omega

set_option maxRecDepth 100000 in
theorem walk (a0 : Int) (w0 : (Lit.int .i64 a0).wf = true) (w : World) :
    Calls Try.prog 8 #[.int .i64 a0] w fun e w' => e = .returned (.bool true) ∧ Below w.heap.size w w' := by
  by_cases hm : 1 ≤ a0 ∧ a0 ≤ 524288
  · obtain ⟨m, rfl⟩ : ∃ m : Nat, a0 = (m : Int) := ⟨a0.toNat, by omega⟩
    have h1 : 1 ≤ m := by omega
    have h2 : m ≤ 524288 := by omega
    obtain ⟨b, hb⟩ : ∃ b, b = Hid (∃ p, Pr p ∧ m < p ∧ p ≤ 2 * m) := ⟨_, rfl⟩
    have HB : b := by rw [hb]; exact bertrand h1 h2
    clear hm w0
    go_enter Try.func8, Try.ntmps8
    go_wp2
    go_loopw [5] (fun p wr => ∃ q : Nat, p = .int .i64 (q : Int) ∧ m < q ∧ q ≤ 2 * m + 1 ∧ Hid (∀ x, m < x → x < q → prB x = false) ∧ Below w.heap.size w wr) (fun p wr => (((2 * m : Nat) : Int) + 1 - intOf p).toNat)
    case atStart => exact ⟨m + 1, by simp, by omega, by omega, fun x h1 h2 => by omega, Below.refl _ _⟩
    case round =>
      obtain ⟨q, rfl, hq1, hq2, hno, hB⟩ := hrel
      by_cases hgo : q ≤ 2 * m
      · have hgo' : (q : Int) ≤ 2 * (m : Int) := by omega
        cases hp : prB q with
        | true =>
          go_wp2_with (go_at_call 9; refine (Is_yes q (by omega) (by omega) _).mono ?_; rw [hp]; rintro e w' ⟨rfl, hg⟩)
          go_ret
          exact ⟨rfl, below_trans hB hg⟩
        | false =>
          have hno2 : Hid (∀ x, m < x → x < q + 1 → prB x = false) := fun x h1 h2 => by
            by_cases e : x = q
            · subst e; exact hp
            · exact hno.out x h1 (by omega)
          go_wp2_with (go_at_call 9; refine (Is_yes q (by omega) (by omega) _).mono ?_; rw [hp]; rintro e w' ⟨rfl, hg⟩)
          go_roundw
          case rel => exact ⟨q + 1, by simp, by omega, by omega, hno2, below_trans hB hg⟩
          case measure => exact meas2 hgo
      · exfalso
        rw [hb] at HB
        obtain ⟨p, hp, hp1, hp2⟩ := HB
        have := hno.out p hp1 (by omega)
        rw [(prB_iff p).2 hp] at this
        cases this
  · by_cases hk : 1 ≤ a0 ∧ a0 ≤ 1048576
    · obtain ⟨m, rfl⟩ : ∃ m : Nat, a0 = (m : Int) := ⟨a0.toNat, by omega⟩
      have h1 : 524288 < (m : Int) := by omega
      have h2 : m ≤ 1048576 := by omega
      clear hm w0 hk
      go_enter Try.func8, Try.ntmps8
      go_wp2_with (first
        | (go_at_call 9; refine (Is_yes m (by omega) h2 _).mono ?_; rintro e w' ⟨rfl, hg⟩)
        | (go_at_call 10; refine (kmodulus_yes _ (by omega) (by omega) _).mono ?_; rintro e w' ⟨rfl, rfl⟩))
      go_ret
      exact ⟨rfl, hg⟩
    · have H : Hid (¬ (1 ≤ a0 ∧ a0 ≤ 1048576)) := hk
      by_cases hs : a0 < 1
      · clear hm w0 hk
        go_enter Try.func8, Try.ntmps8
        go_wp2_with (first
          | (go_at_call 9; refine (Is_no _ H.out _).mono ?_; rintro e w' ⟨rfl, hg⟩)
          | (go_at_call 10; refine (kmodulus_no _ H.out _).mono ?_; rintro e w' ⟨rfl, rfl⟩))
        go_ret
        exact ⟨rfl, hg⟩
      · have hs2 : 524288 < a0 := by omega
        clear hm w0 hk
        go_enter Try.func8, Try.ntmps8
        go_wp2_with (first
          | (go_at_call 9; refine (Is_no _ H.out _).mono ?_; rintro e w' ⟨rfl, hg⟩)
          | (go_at_call 10; refine (kmodulus_no _ H.out _).mono ?_; rintro e w' ⟨rfl, rfl⟩))
        go_ret
        exact ⟨rfl, hg⟩

/-! ### THE ROW's STEP: WRITTEN OUT: LEAVE IT -/
set_option maxRecDepth 100000 in
theorem lifted (os : Os) (started : os.Started) (H : Type) (enc : TypeId × Value → H) :
    ReturnsInHanded {} Try.checked os 8 .any (Rows.primesBertrandSpec.pre6 enc Try.prog Try.f8 Rows.primesBertrandRow.domain false) (Rows.primesBertrandSpec.post enc Try.prog Try.f8 false true false false) := by
  refine returnsInHanded_of_change (C := Try.checked) own started (by kernel_rfl) Try.func8
    (ChangeSpec.witness6 (enc := enc) (C := Try.checked) false ⟨#[], #[.int .i64 0], []⟩ 8 (by kernel_rfl) (by kernel_rfl) (by kernel_rfl) (by kernel_rfl)) ?_
  intro W base args ds gs before hval0 hW hcnd _
  have hval : ∀ (j : Nat) t v, Try.f8.params[j]? = some t → args[j]? = some v → Value.okWide Try.prog W .any base t v := hval0
  have hW' := hW
  obtain ⟨p, q, hA0, hV, rfl, hfz, hnd⟩ := hW
  have hA : DataW.TrodAll enc Try.prog W 0 (fun _ => true) true Try.f8.params.toList args.toList ds p := hA0
  rw [Try.params8] at hA hval
  obtain ⟨v0, vs0, d0, ds0, p0, q0, hargs, rfl, rfl, h0, r0⟩ := trodAll_cons hA
  obtain ⟨rfl, rfl, rfl⟩ := trodAll_nil r0
  obtain rfl : args = #[v0] := by cases args; simp_all
  obtain ⟨rfl, rfl⟩ := trodVars_none hV
  obtain ⟨a0, rfl, rfl, rfl, w0⟩ := open_int Try.underlying2 (hval 0 2 v0 rfl rfl) h0
  clear hA0 hval0
  simp only [List.append_nil] at hW'
  refine (walk a0 w0 W).mono fun e W' ⟨he, hg⟩ => ?_
  subst he
  exact ⟨_, rfl, post_of_kept (pa := []) (pv := []) hW' (fun _ _ _ => (trodAll_cons_mk (shut_bool Try.underlying4 _) trodAll_mk0)) (fun sp _ => (trodAll_cons_mk (shut_int Try.underlying2 w0) trodAll_mk0)) (fun _ _ => rfl) rfl
    (hg.frame _)⟩

theorem over : Rows.primesBertrandRow.holds Try.pinned (OpenSpec.ofChange Rows.primesBertrandSpec) :=
  OpenClaim.holds_of_wide 8 Try.f8 rfl rfl rfl rfl rfl rfl rfl ⟨rfl, rfl, rfl, rfl, rfl⟩ rfl rfl rfl rfl rfl (by kernel_rfl) Try.func8 (by kernel_rfl)
    (of_decide_eq_true (by kernel_rfl)) (by unfold Func.isWrapper; first | (rw [if_pos (by decide +kernel)]; kernel_rfl) | (rw [if_neg (by decide +kernel)]; exact ⟨rfl, rfl⟩))
    (fun os started H enc _ => lifted os started H enc)

/-- ████ THE STATEMENT ████ -/
theorem proved : Rows.PrimesBertrandSaid :=
  over
end Go.Proofs.Ytlbmhhkhemhfaab.primesBertrand
