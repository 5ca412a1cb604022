/-
  For any number: of all that divide it, what Mobius has of each is 0 together, but 1 of 1: with no condition.
-/
import Derived.Test.YtlbmhhkhemhfaabRows
import Derived.Test.YtlbmhhkhemhfaabCalls17
import Derived.WalkKit
import Derived.ProofKit
import Derived.OpenShut
namespace Go.Proofs.Ytlbmhhkhemhfaab.primesMobius
open Go.Proofs.Ytlbmhhkhemhfaab.Num Go.Proofs.Ytlbmhhkhemhfaab.Num3 Go.Proofs.Ytlbmhhkhemhfaab.Num5 Go.Proofs.Ytlbmhhkhemhfaab.Calls7 Go.Proofs.Ytlbmhhkhemhfaab.Calls8 Go.Proofs.Ytlbmhhkhemhfaab.Calls9 Go.Proofs.Ytlbmhhkhemhfaab.Calls10 Go.Proofs.Ytlbmhhkhemhfaab.Calls15 Go.Proofs.Ytlbmhhkhemhfaab.Calls16 Go.Proofs.Ytlbmhhkhemhfaab.Calls17
open Go.ChangeShapes Go.WideShapes Go.ChangeAt Go.RowKit
set_option linter.unusedVariables false      -- a walk need not use every 'w<i>' (that an integer argument fits its kind)

theorem own : ownKnob Try.prog.godebug = none := by kernel_rfl

theorem measG {k n : Nat} (h : k < n) : ((n : Int) - ((k : Int) + 1)).toNat < ((n : Int) - (k : Int)).toNat := by omega

theorem mob_bd (l : List (Nat × Nat)) : -1 ≤ mob l ∧ mob l ≤ 1 := by
  unfold mob
  split
  · omega
  · split <;> omega

set_option maxRecDepth 100000 in
set_option maxHeartbeats 1000000 in
theorem walk (a0 : Int) (w0 : (Lit.int .i64 a0).wf = true) (w : World) :
    Calls Try.prog 5 #[.int .i64 a0] w fun e w' => e = .returned (.bool true) ∧ Below w.heap.size w w' := by
  by_cases hm : 1 ≤ a0 ∧ a0 ≤ 1048576
  · obtain ⟨m, rfl⟩ : ∃ m : Nat, a0 = (m : Int) := ⟨a0.toNat, by omega⟩
    have h1 : 1 ≤ m := by omega
    have h2 : m ≤ 1048576 := by omega
    obtain ⟨mu, hmu⟩ := mu_ex
    have HMU := hid hmu
    clear hm w0 hmu
    go_enter Try.func5, Try.ntmps5
    go_wp2_with (first
      | (go_at_call 13; refine (Divisors_yes m h1 h2 _).mono ?_; rintro e w1 ⟨l, g, cap, hF, rfl, hown, hB⟩; have HF := hid hF; clear hF)
      | (go_at_call 10; refine (kmodulus_yes _ (by omega) (by omega) _).mono ?_; rintro e w' ⟨rfl, hw⟩; subst w'))
    have hlen := row_len hown
    have htot : Hid (sumf mu (dsort l) = if m = 1 then 1 else 0) := (sumf_perm _ (dsort_perm l)).trans (mobius_sum HMU.out HF.out)
    have hlpos : 1 ≤ (dsort l).length := by
      have h : (1 : Nat) ∈ dsort l := (dsort_perm l).mem_iff.2 (((dv_all HF.out).2 1).2 (Nat.one_dvd m))
      exact List.length_pos_of_mem h
    go_loopw [5, 22] (fun s i wr => ∃ (k : Nat) (S : Int), s = .int .i64 S ∧ i = .int .i64 (k : Int) ∧ k ≤ (dsort l).length ∧ -(k : Int) ≤ S ∧ S ≤ (k : Int) ∧ Hid (S = sumf mu ((dsort l).take k)) ∧ Below w1.heap.size w1 wr) (fun s i wr => (((dsort l).length : Int) - intOf i).toNat)
    case atStart => exact ⟨0, 0, rfl, rfl, by omega, by omega, by omega, rfl, Below.refl _ _⟩
    case round =>
      obtain ⟨k, S, rfl, rfl, hk, hS1, hS2, hS, hBr⟩ := hrel
      by_cases hgo : k < (dsort l).length
      · have hgo' : (k : Int) < ((dsort l).length : Int) := by omega
        have hc := row_at hown hBr hgo
        have hd := dsort_dvd HF.out hgo
        have hnx := sumf_take (f := mu) hgo
        obtain ⟨x, hx⟩ : ∃ x, (dsort l).getD k 0 = x := ⟨_, rfl⟩
        rw [hx] at hc hd hnx
        have hx1 : 1 ≤ x := Nat.pos_of_dvd_of_pos hd h1
        have hxm : x ≤ m := Nat.le_of_dvd h1 hd
        have cA : ∀ w, Calls Try.prog 15 #[.int .i64 (x : Int)] w fun e w' => e = .returned (.tuple #[.int .i64 (mu x), .int .i64 0]) ∧ Below w.heap.size w w' := fun w =>
          (Mobius_yes x hx1 (by omega) w).mono (by rintro e w' ⟨⟨l', hl', rfl⟩, h⟩; rw [HMU.out x l' hl']; exact ⟨rfl, h⟩)
        have hbd : -1 ≤ mu x ∧ mu x ≤ 1 := by
          obtain ⟨l', hl'⟩ := Fac.exists x hx1
          rw [HMU.out x l' hl']; exact mob_bd l'
        obtain ⟨z, hz⟩ : ∃ z, mu x = z := ⟨_, rfl⟩
        rw [hz] at cA hbd hnx
        obtain ⟨hb1, hb2⟩ := hbd
        have hSn : Hid (S + z = sumf mu ((dsort l).take (k + 1))) := by
          show _ = _
          rw [hnx, ← hS.out]
        clear hx hnx hd hz
        go_wp2_with (go_at_call 15; refine (cA _).mono ?_; rintro e w' ⟨rfl, hg⟩)
        go_roundw
        case rel => exact ⟨k + 1, S + z, rfl, by simp, by omega, by omega, by omega, hSn, below_trans hBr hg⟩
        case measure => exact measG hgo
      · have hgo' : ¬ (k : Int) < ((dsort l).length : Int) := by omega
        have hl0 : 0 < ((dsort l).length : Int) := by omega
        have e : S = if m = 1 then 1 else 0 := by
          have := hS.out
          rw [show k = (dsort l).length by omega, List.take_length, htot.out] at this
          exact this
        clear hS hS1 hS2
        by_cases hm1 : m = 1
        · rw [if_pos hm1] at e
          subst e
          subst hm1
          go_wp2
          go_ret
          exact ⟨rfl, below_trans hB hBr⟩
        · rw [if_neg hm1] at e
          subst e
          have hm1' : ¬ (m : Int) = 1 := by omega
          have hm2' : ((m : Int) == 1) = false := by simp [hm1']
          have hm3' : ((m : Int) != 1) = true := by simp [hm1']
          go_wp2
          go_ret
          exact ⟨rfl, below_trans hB hBr⟩
  · have H : Hid (¬ (1 ≤ a0 ∧ a0 ≤ 1048576)) := hm
    clear hm w0
    go_enter Try.func5, Try.ntmps5
    go_wp2_with (first
      | (go_at_call 13; refine (Divisors_no _ H.out _).mono ?_; rintro e w' ⟨rfl, hg⟩)
      | (go_at_call 10; refine (kmodulus_no _ H.out _).mono ?_; rintro e w' ⟨rfl, rfl⟩))
    go_ret
    exact ⟨rfl, hg⟩

/-! ### THE ROW's STEP: WRITTEN OUT: LEAVE IT -/
set_option maxRecDepth 100000 in
theorem lifted (os : Os) (started : os.Started) (H : Type) (enc : TypeId × Value → H) :
    ReturnsInHanded {} Try.checked os 5 .any (Rows.primesMobiusSpec.pre6 enc Try.prog Try.f5 Rows.primesMobiusRow.domain false) (Rows.primesMobiusSpec.post enc Try.prog Try.f5 false true false false) := by
  refine returnsInHanded_of_change (C := Try.checked) own started (by kernel_rfl) Try.func5
    (ChangeSpec.witness6 (enc := enc) (C := Try.checked) false ⟨#[], #[.int .i64 0], []⟩ 8 (by kernel_rfl) (by kernel_rfl) (by kernel_rfl) (by kernel_rfl)) ?_
  intro W base args ds gs before hval0 hW hcnd _
  have hval : ∀ (j : Nat) t v, Try.f5.params[j]? = some t → args[j]? = some v → Value.okWide Try.prog W .any base t v := hval0
  have hW' := hW
  obtain ⟨p, q, hA0, hV, rfl, hfz, hnd⟩ := hW
  have hA : DataW.TrodAll enc Try.prog W 0 (fun _ => true) true Try.f5.params.toList args.toList ds p := hA0
  rw [Try.params5] at hA hval
  obtain ⟨v0, vs0, d0, ds0, p0, q0, hargs, rfl, rfl, h0, r0⟩ := trodAll_cons hA
  obtain ⟨rfl, rfl, rfl⟩ := trodAll_nil r0
  obtain rfl : args = #[v0] := by cases args; simp_all
  obtain ⟨rfl, rfl⟩ := trodVars_none hV
  obtain ⟨a0, rfl, rfl, rfl, w0⟩ := open_int Try.underlying2 (hval 0 2 v0 rfl rfl) h0
  clear hA0 hval0
  simp only [List.append_nil] at hW'
  refine (walk a0 w0 W).mono fun e W' ⟨he, hg⟩ => ?_
  subst he
  exact ⟨_, rfl, post_of_kept (pa := []) (pv := []) hW' (fun _ _ _ => (trodAll_cons_mk (shut_bool Try.underlying4 _) trodAll_mk0)) (fun sp _ => (trodAll_cons_mk (shut_int Try.underlying2 w0) trodAll_mk0)) (fun _ _ => rfl) rfl
    (hg.frame _)⟩

theorem over : Rows.primesMobiusRow.holds Try.pinned (OpenSpec.ofChange Rows.primesMobiusSpec) :=
  OpenClaim.holds_of_wide 5 Try.f5 rfl rfl rfl rfl rfl rfl rfl ⟨rfl, rfl, rfl, rfl, rfl⟩ rfl rfl rfl rfl rfl (by kernel_rfl) Try.func5 (by kernel_rfl)
    (of_decide_eq_true (by kernel_rfl)) (by unfold Func.isWrapper; first | (rw [if_pos (by decide +kernel)]; kernel_rfl) | (rw [if_neg (by decide +kernel)]; exact ⟨rfl, rfl⟩))
    (fun os started H enc _ => lifted os started H enc)

/-- ████ THE STATEMENT ████ -/
theorem proved : Rows.PrimesMobiusSaid :=
  over
end Go.Proofs.Ytlbmhhkhemhfaab.primesMobius
