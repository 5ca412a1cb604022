/-
  For any number the program tells what divides it: with no condition.
-/
import Derived.Test.YtlbmhhkhemhfaaaRows
import Derived.Test.YtlbmhhkhemhfaaaCalls18
import Derived.WalkKit
import Derived.ProofKit
import Derived.OpenShut
namespace Go.Proofs.Ytlbmhhkhemhfaaa.primesDivide
open Go.Proofs.Ytlbmhhkhemhfaaa.Num Go.Proofs.Ytlbmhhkhemhfaaa.Num5 Go.Proofs.Ytlbmhhkhemhfaaa.Calls7 Go.Proofs.Ytlbmhhkhemhfaaa.Calls8 Go.Proofs.Ytlbmhhkhemhfaaa.Calls9 Go.Proofs.Ytlbmhhkhemhfaaa.Calls15 Go.Proofs.Ytlbmhhkhemhfaaa.Calls16 Go.Proofs.Ytlbmhhkhemhfaaa.Calls18
open Go.ChangeShapes Go.WideShapes Go.ChangeAt Go.RowKit
set_option linter.unusedVariables false      -- a walk need not use every 'w<i>' (that an integer argument fits its kind)

theorem own : ownKnob Try.prog.godebug = none := by kernel_rfl

theorem owned_shape {W : World} {base : Nat} {e : TypeId} {size : Nat} {v : Value} {n : Nat} {xs : List Value} (h : W.ownsRow base e size v n xs) (hn : 1 ≤ n) : ∃ g cap, v = .slice (some ⟨g, 0, none⟩) n cap := by
  rcases h.2 with ⟨_, h0⟩ | ⟨g, cap, cur, rfl, _⟩
  · omega
  · exact ⟨g, cap, rfl⟩

theorem row_len {W : World} {base g cap : Nat} {l : List Nat} (h : W.ownsRow base 2 1 (.slice (some ⟨g, 0, none⟩) l.length cap) l.length (ivals (zs l))) : (zs l).length ≤ 9223372036854775807 := by
  rcases h.2 with ⟨h', _⟩ | ⟨g', cap', cur, h', _, _, h1, h2, _⟩
  · cases h'
  · unfold maxLen at h2; rw [zs_length]; omega

theorem row_at {W W' : World} {base g cap : Nat} {l : List Nat} (h : W.ownsRow base 2 1 (.slice (some ⟨g, 0, none⟩) l.length cap) l.length (ivals (zs l))) (hB : Below W.heap.size W W') : ∀ k, k < (zs l).length →
    W'.cell? ⟨g, k, none⟩ = some (.int .i64 ((zs l).getD k 0)) := by
  intro k hk
  have hg := (h.lt g rfl).2
  have c := h.cellAt k (by rw [zs_length] at hk; omega)
  rw [ivals_get hk] at c
  exact (hB.cell (p := ⟨g, k, none⟩) hg).trans c

theorem below_drewN {B : Nat} {a b : World} (h : Below B a b) (n : Nat) : Below B a (b.drewN n) := ⟨h.os, h.tape, h.output, h.size, h.block⟩

set_option maxRecDepth 100000 in
theorem walk (a0 : Int) (w0 : (Lit.int .i64 a0).wf = true) (w : World) :
    Calls Try.prog 7 #[.int .i64 a0] w fun e w' => e = .returned (.bool true) ∧ Below w.heap.size w w' := by
  by_cases hm : 1 ≤ a0 ∧ a0 ≤ 1048576
  · obtain ⟨m, rfl⟩ : ∃ m : Nat, a0 = (m : Int) := ⟨a0.toNat, by omega⟩
    have h1 : 1 ≤ m := by omega
    have h2 : m ≤ 1048576 := by omega
    have hpos : 1 ≤ (dl m m).length := List.length_pos_of_mem (mem_dl.2 ⟨Nat.le_refl 1, h1, Nat.one_dvd m⟩)
    have HP := hid hpos
    clear hm w0 hpos
    go_enter Try.func7, Try.ntmps7
    go_wp2_with (first
      | (go_at_call 19; refine (Divisors_yes m h1 h2 _).mono ?_; rintro e w1 ⟨l, g, cap, hF, rfl, hown, hB⟩; have HF := hid hF; clear hF)
      | (go_at_call 10; refine (modulus_yes _ (by omega) (by omega) _).mono ?_; rintro e w' ⟨rfl, hw⟩; subst w')
      | (go_at_call 21; refine (refDivisors_any m h1 h2 _).mono ?_; rintro e w2 ⟨v2, rfl, hown2, hB2⟩; obtain ⟨g2, cap2, rfl⟩ := owned_shape hown2 HP.out; have cL := Longs_any g g2 cap cap2 (zs (dsort l)) (zs (dl m m)) (row_len hown) (row_len hown2) w2 (row_at hown hB2) (row_at hown2 (Below.refl _ _)); rw [decide_eq_true (show zs (dsort l) = zs (dl m m) by rw [dl_eq HF.out]), zs_length, zs_length] at cL; have CL := hid cL; clear cL)
      | (go_at_call 20; refine CL.out.mono ?_; rintro e w3 ⟨rfl, k, rfl⟩))
    go_ret
    exact ⟨rfl, below_drewN (below_trans hB hB2) _⟩
  · have H : Hid (¬ (1 ≤ a0 ∧ a0 ≤ 1048576)) := hm
    clear hm w0
    go_enter Try.func7, Try.ntmps7
    go_wp2_with (first
      | (go_at_call 19; refine (Divisors_no _ H.out _).mono ?_; rintro e w' ⟨rfl, hg⟩)
      | (go_at_call 10; refine (modulus_no _ H.out _).mono ?_; rintro e w' ⟨rfl, rfl⟩))
    go_ret
    exact ⟨rfl, hg⟩

/-! ### THE ROW's STEP: WRITTEN OUT: LEAVE IT -/
set_option maxRecDepth 100000 in
theorem lifted (os : Os) (started : os.Started) (H : Type) (enc : TypeId × Value → H) :
    ReturnsInHanded {} Try.checked os 7 .any (Rows.primesDivideSpec.pre6 enc Try.prog Try.f7 Rows.primesDivideRow.domain false) (Rows.primesDivideSpec.post enc Try.prog Try.f7 false true false false) := by
  refine returnsInHanded_of_change (C := Try.checked) own started (by kernel_rfl) Try.func7
    (ChangeSpec.witness6 (enc := enc) (C := Try.checked) false ⟨#[], #[.int .i64 0], []⟩ 8 (by kernel_rfl) (by kernel_rfl) (by kernel_rfl) (by kernel_rfl)) ?_
  intro W base args ds gs before hval0 hW hcnd _
  have hval : ∀ (j : Nat) t v, Try.f7.params[j]? = some t → args[j]? = some v → Value.okWide Try.prog W .any base t v := hval0
  have hW' := hW
  obtain ⟨p, q, hA0, hV, rfl, hfz, hnd⟩ := hW
  have hA : DataW.TrodAll enc Try.prog W 0 (fun _ => true) true Try.f7.params.toList args.toList ds p := hA0
  rw [Try.params7] at hA hval
  obtain ⟨v0, vs0, d0, ds0, p0, q0, hargs, rfl, rfl, h0, r0⟩ := trodAll_cons hA
  obtain ⟨rfl, rfl, rfl⟩ := trodAll_nil r0
  obtain rfl : args = #[v0] := by cases args; simp_all
  obtain ⟨rfl, rfl⟩ := trodVars_none hV
  obtain ⟨a0, rfl, rfl, rfl, w0⟩ := open_int Try.underlying2 (hval 0 2 v0 rfl rfl) h0
  clear hA0 hval0
  simp only [List.append_nil] at hW'
  refine (walk a0 w0 W).mono fun e W' ⟨he, hg⟩ => ?_
  subst he
  exact ⟨_, rfl, post_of_kept (pa := []) (pv := []) hW' (fun _ _ _ => (trodAll_cons_mk (shut_bool Try.underlying4 _) trodAll_mk0)) (fun sp _ => (trodAll_cons_mk (shut_int Try.underlying2 w0) trodAll_mk0)) (fun _ _ => rfl) rfl
    (hg.frame _)⟩

theorem over : Rows.primesDivideRow.holds Try.pinned (OpenSpec.ofChange Rows.primesDivideSpec) :=
  OpenClaim.holds_of_wide 7 Try.f7 rfl rfl rfl rfl rfl rfl rfl ⟨rfl, rfl, rfl, rfl, rfl⟩ rfl rfl rfl rfl rfl (by kernel_rfl) Try.func7 (by kernel_rfl)
    (of_decide_eq_true (by kernel_rfl)) (by unfold Func.isWrapper; first | (rw [if_pos (by decide +kernel)]; kernel_rfl) | (rw [if_neg (by decide +kernel)]; exact ⟨rfl, rfl⟩))
    (fun os started H enc _ => lifted os started H enc)

/-- ████ THE STATEMENT ████ -/
theorem proved : Rows.PrimesDivideSaid :=
  over
end Go.Proofs.Ytlbmhhkhemhfaaa.primesDivide
