/-
  For any prime the program makes a proof, whose last line is of it, which it itself finds to hold, and which has no more lines than the prime has bits; for any other number there is none: with no condition.
-/
import Derived.Test.YtmomlcibiklajaaRows
import Derived.Test.YtmomlcibiklajaaCalls38
import Derived.Test.YtmomlcibiklajaaCalls46
import Derived.WalkKit
import Derived.ProofKit
import Derived.OpenShut
namespace Go.Proofs.Ytmomlcibiklajaa.prattEach
open Go.Proofs.Ytmomlcibiklajaa.Base Go.Proofs.Ytmomlcibiklajaa.Num19 Go.Proofs.Ytmomlcibiklajaa.Num31 Go.Proofs.Ytmomlcibiklajaa.Calls35 Go.Proofs.Ytmomlcibiklajaa.Calls36 Go.Proofs.Ytmomlcibiklajaa.Calls38 Go.Proofs.Ytmomlcibiklajaa.Calls41 Go.Proofs.Ytmomlcibiklajaa.Calls46
open Go.ChangeShapes Go.WideShapes Go.ChangeAt Go.RowKit
set_option linter.unusedVariables false      -- a walk need not use every 'w<i>' (that an integer argument fits its kind)

theorem own : ownKnob Try.prog.godebug = none := by kernel_rfl

theorem div_step {n b x : Nat} (h : n / 2 ^ b = x) : n / 2 ^ (b + 1) = x / 2 := by
  rw [Nat.pow_succ, ← Nat.div_div_eq_div_mul, h]

theorem bit_le {n b x : Nat} (h : n / 2 ^ b = x) (hx : 0 < x) (hn : n ≤ 1048576) : b ≤ 20 := by
  have hp : 2 ^ b ≤ n := by
    rcases Nat.lt_or_ge n (2 ^ b) with h1 | h1
    · rw [Nat.div_eq_of_lt h1] at h; omega
    · exact h1
  have h3 : 2 ^ b ≤ 2 ^ 20 := by
    have : (2 : Nat) ^ 20 = 1048576 := by decide
    omega
  exact (Nat.pow_le_pow_iff_right (by omega)).1 h3

theorem bit_end {n b : Nat} (h : n / 2 ^ b = 0) : n < 2 ^ b := by
  have hp : 0 < 2 ^ b := Nat.pow_pos (by omega)
  exact (Nat.div_eq_zero_iff_lt hp).1 h

set_option maxRecDepth 100000 in
theorem walk_prime (n : Nat) (hn : Num.Pr n) (hn2 : n ≤ 1048576) (w : World) :
    Calls Try.prog 6 #[.int .i64 (n : Int)] w fun e w' => e = .returned (.bool true) ∧ Below w.heap.size w w' := by
  have hn1 := hn.1
  have cM := fun w => Make_yes n hn hn2 w
  have cK := fun w => Calls9.kmodulus_yes (n : Int) (by omega) (by omega) w
  have cI := fun w => Calls9.refIs_any n hn2 w
  rw [(Calls9.prB_iff n).2 hn] at cI
  have HPR := hid hn
  clear hn
  go_enter Try.func6, Try.ntmps6
  go_wp2_with (first
    | (go_at_call 9; refine (cM _).mono ?_; rintro e w1 ⟨⟨a, cap, R, ls, rfl, hR, hP, hrow, hcap⟩, hB1⟩; have HR := hid hR; have HP := hid hP; have HRow := hid hrow; have hl21 : ls.length ≤ 21 := (by rw [hP.1]; exact need_len HPR.out hn2 (asc_nodup hR.1) (fun q hq => (hR.2 q).1 hq)); have cC := hid (Check_any a cap ls (by omega) hcap w1 hrow); obtain ⟨K, hK⟩ : ∃ K, ls.length = K + 1 := ⟨ls.length - 1, by have := (hR.last HPR.out).1; have := hP.1; omega⟩; have HK := hid hK; rw [hK] at cC hl21 hcap ⊢; clear hR hP hrow hK)
    | (go_at_call 14; refine (cK _).mono ?_; rintro e w2 ⟨rfl, hw⟩; subst w2)
    | (go_at_call 11; refine (cI _).mono ?_; rintro e w2 ⟨rfl, hw⟩; subst w2)
    | (go_at_call 7; refine cC.out.mono ?_; rintro e w3 ⟨⟨b, hb, rfl⟩, hB3⟩; have hbt : Hid (b = true) := hb.2 (HP.out.hold HPR.out hn2 HR.out); clear hb))
  obtain rfl : b = true := hbt.out
  clear hbt cC
  go_loop [7, 8] (fun t x => ∃ b y : Nat, t = .int .i64 (b : Int) ∧ x = .int .i64 (y : Int) ∧ b ≤ 21 ∧ y ≤ n ∧ Hid (n / 2 ^ b = y)) (fun t x => (intOf x).toNat)
  case atStart => exact ⟨0, n, rfl, rfl, by omega, by omega, by show n / 2 ^ 0 = n; simp⟩
  case round =>
    obtain ⟨b, y, rfl, rfl, hb, hy, he⟩ := hrel
    by_cases hy0 : 0 < y
    · have hy0' : (0 : Int) < (y : Int) := by omega
      have hb2 := bit_le he.out hy0 hn2
      have hs := hid (div_step he.out)
      go_wp2
      go_round
      case rel => exact ⟨b + 1, y / 2, by simp, by simp, by omega, by omega, hs⟩
      case measure => simp only [intOf]; omega
    · obtain rfl : y = 0 := by omega
      have hlb : K + 1 ≤ b := by
        have h1 := few_need HPR.out (bit_end he.out) (asc_nodup HR.out.1) (fun q hq => (HR.out.2 q).1 hq)
        have := HP.out.1
        have := HK.out
        omega
      have hlb' : ((K : Int) + 1) ≤ (b : Int) := by omega
      have hlast : Hid ((ls.getD K Ln0).N = (n : Int)) := by
        show _ = _
        have h1 := HR.out.last HPR.out
        have h2 := HP.out.1
        have h3 := HK.out
        rw [(HP.out.2 K (by omega)).num, show K = R.length - 1 by omega, h1.2]
      rcases a with _ | ad
      · exact (lrow_none HRow.out (j := K) (by rw [HK.out]; omega)).elim
      · obtain ⟨c1, _, _⟩ := (lrow_below HRow.out hB3 (Nat.le_refl _)).2 ad rfl K (by rw [HK.out]; omega)
        rw [hlast.out] at c1
        go_wp2
        go_ret
        exact ⟨rfl, below_trans hB1 hB3⟩

theorem walk (a0 : Int) (w0 : (Lit.int .i64 a0).wf = true) (w : World) :
    Calls Try.prog 6 #[.int .i64 a0] w fun e w' => e = .returned (.bool true) ∧ Below w.heap.size w w' := by
  by_cases hm : 1 ≤ a0 ∧ a0 ≤ 1048576
  · obtain ⟨n, rfl⟩ : ∃ m : Nat, a0 = (m : Int) := ⟨a0.toNat, by omega⟩
    have h1 : 1 ≤ n := by omega
    have h2 : n ≤ 1048576 := by omega
    cases hp : Calls9.prB n with
    | true => exact walk_prime n ((Calls9.prB_iff n).1 hp) h2 w
    | false =>
      have cM := fun w => Make_no n h1 h2 hp w
      have cK := fun w => Calls9.kmodulus_yes (n : Int) (by omega) (by omega) w
      have cI := fun w => Calls9.refIs_any n h2 w
      rw [hp] at cI
      clear hm w0 hp
      go_enter Try.func6, Try.ntmps6
      go_wp2_with (first
        | (go_at_call 9; refine (cM _).mono ?_; rintro e w1 ⟨rfl, hB1⟩)
        | (go_at_call 14; refine (cK _).mono ?_; rintro e w2 ⟨rfl, hw⟩; subst w2)
        | (go_at_call 11; refine (cI _).mono ?_; rintro e w2 ⟨rfl, hw⟩; subst w2))
      go_ret
      exact ⟨rfl, hB1⟩
  · have cM := fun w => Make_out a0 hm w
    have cK := fun w => Calls9.kmodulus_no a0 hm w
    clear hm w0
    go_enter Try.func6, Try.ntmps6
    go_wp2_with (first
      | (go_at_call 9; refine (cM _).mono ?_; rintro e w1 ⟨rfl, hB1⟩)
      | (go_at_call 14; refine (cK _).mono ?_; rintro e w2 ⟨rfl, hw⟩; subst w2))
    go_ret
    exact ⟨rfl, hB1⟩

/-! ### THE ROW's STEP: WRITTEN OUT: LEAVE IT -/
set_option maxRecDepth 100000 in
theorem lifted (os : Os) (started : os.Started) (H : Type) (enc : TypeId × Value → H) :
    ReturnsInHanded {} Try.checked os 6 .any (Rows.prattEachSpec.pre6 enc Try.prog Try.f6 Rows.prattEachRow.domain false) (Rows.prattEachSpec.post enc Try.prog Try.f6 false true false false) := by
  refine returnsInHanded_of_change (C := Try.checked) own started (by kernel_rfl) Try.func6
    (ChangeSpec.witness6 (enc := enc) (C := Try.checked) false ⟨#[], #[.int .i64 0], []⟩ 8 (by kernel_rfl) (by kernel_rfl) (by kernel_rfl) (by kernel_rfl)) ?_
  intro W base args ds gs before hval0 hW hcnd _
  have hval : ∀ (j : Nat) t v, Try.f6.params[j]? = some t → args[j]? = some v → Value.okWide Try.prog W .any base t v := hval0
  have hW' := hW
  obtain ⟨p, q, hA0, hV, rfl, hfz, hnd⟩ := hW
  have hA : DataW.TrodAll enc Try.prog W 0 (fun _ => true) true Try.f6.params.toList args.toList ds p := hA0
  rw [Try.params6] at hA hval
  obtain ⟨v0, vs0, d0, ds0, p0, q0, hargs, rfl, rfl, h0, r0⟩ := trodAll_cons hA
  obtain ⟨rfl, rfl, rfl⟩ := trodAll_nil r0
  obtain rfl : args = #[v0] := by cases args; simp_all
  obtain ⟨rfl, rfl⟩ := trodVars_none hV
  obtain ⟨a0, rfl, rfl, rfl, w0⟩ := open_int Try.underlying2 (hval 0 2 v0 rfl rfl) h0
  clear hA0 hval0
  simp only [List.append_nil] at hW'
  refine (walk a0 w0 W).mono fun e W' ⟨he, hg⟩ => ?_
  subst he
  exact ⟨_, rfl, post_of_kept (pa := []) (pv := []) hW' (fun _ _ _ => (trodAll_cons_mk (shut_bool Try.underlying4 _) trodAll_mk0)) (fun sp _ => (trodAll_cons_mk (shut_int Try.underlying2 w0) trodAll_mk0)) (fun _ _ => rfl) rfl
    (hg.frame _)⟩

theorem over : Rows.prattEachRow.holds Try.pinned (OpenSpec.ofChange Rows.prattEachSpec) :=
  OpenClaim.holds_of_wide 6 Try.f6 rfl rfl rfl rfl rfl rfl rfl ⟨rfl, rfl, rfl, rfl, rfl⟩ rfl rfl rfl rfl rfl (by kernel_rfl) Try.func6 (by kernel_rfl)
    (of_decide_eq_true (by kernel_rfl)) (by unfold Func.isWrapper; first | (rw [if_pos (by decide +kernel)]; kernel_rfl) | (rw [if_neg (by decide +kernel)]; exact ⟨rfl, rfl⟩))
    (fun os started H enc _ => lifted os started H enc)

/-- ████ THE STATEMENT ████ -/
theorem proved : Rows.PrattEachSaid :=
  over
end Go.Proofs.Ytmomlcibiklajaa.prattEach
