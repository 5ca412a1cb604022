/-
  PARSEVAL: for any function the squares of all waves that the program tells are together 4 by the number of variables; of what is no function it tells an error. No condition.
-/
import Derived.Test.YtpnjpkmlfbcnjaaRows
import Derived.Test.YtpnjpkmlfbcnjaaCalls117
import Derived.WalkKit
import Derived.ProofKit
import Derived.OpenShut
import Derived.Carry
namespace Go.Proofs.Ytpnjpkmlfbcnjaa.walshParseval
open Go.ChangeShapes Go.WideShapes Go.ChangeAt Go.RowKit Go.Deep Go.Proofs.Ytpnjpkmlfbcnjaa.Base Go.Proofs.Ytpnjpkmlfbcnjaa.Base2 Go.Proofs.Ytpnjpkmlfbcnjaa.Num34 Go.Proofs.Ytpnjpkmlfbcnjaa.Base4 Go.Proofs.Ytpnjpkmlfbcnjaa.Base6 Go.Proofs.Ytpnjpkmlfbcnjaa.Num41 Go.Proofs.Ytpnjpkmlfbcnjaa.Num42 Go.Proofs.Ytpnjpkmlfbcnjaa.Num43 Go.Proofs.Ytpnjpkmlfbcnjaa.Num57 Go.Proofs.Ytpnjpkmlfbcnjaa.Num58 Go.Proofs.Ytpnjpkmlfbcnjaa.Calls110 Go.Proofs.Ytpnjpkmlfbcnjaa.Calls111 Go.Proofs.Ytpnjpkmlfbcnjaa.Calls112 Go.Proofs.Ytpnjpkmlfbcnjaa.Calls113 Go.Proofs.Ytpnjpkmlfbcnjaa.Calls114 Go.Proofs.Ytpnjpkmlfbcnjaa.Calls115 Go.Proofs.Ytpnjpkmlfbcnjaa.Calls116 Go.Proofs.Ytpnjpkmlfbcnjaa.Calls117
set_option linter.unusedVariables false

theorem own : ownKnob Try.prog.godebug = none := by kernel_rfl

theorem laidOut : laidOutB Try.prog = true := by kernel_rfl

theorem cells2 : Try.prog.cellsOf 2 = 1 := by kernel_rfl

/-- The squares of the first k waves together. -/
def qs (m f k : Nat) : Int := su (fun u => wf m f u * wf m f u) k

theorem qs_end {m f : Nat} : qs m f (2 ^ m) = 2 ^ m * 2 ^ m := by
  have h := parseval m (fun x => sn (bv f x))
  rw [s2_congr (f := fun x => sn (bv f x) * sn (bv f x)) (g := fun _ => (1 : Int)) (fun x _ => by
    have := bv_two f x
    show sn (bv f x) * sn (bv f x) = 1
    rcases this with e | e <;> rw [e] <;> decide), s2_const, Int.mul_one, s2_su] at h
  exact h

theorem sq_bd {z : Int} (h1 : -32 ≤ z) (h2 : z ≤ 32) : 0 ≤ z * z ∧ z * z ≤ 1024 := by
  refine ⟨?_, ?_⟩
  · rcases Int.lt_or_le z 0 with h | h
    · have := Int.mul_nonneg_of_nonpos_of_nonpos (a := z) (b := z) (by omega) (by omega)
      exact this
    · exact Int.mul_nonneg h h
  · rcases Int.lt_or_le z 0 with h | h
    · have := Int.mul_le_mul (a := -z) (b := -z) (c := 32) (d := 32) (by omega) (by omega) (by omega) (by omega)
      rw [Int.neg_mul_neg] at this
      omega
    · have := Int.mul_le_mul (a := z) (b := z) (c := 32) (d := 32) (by omega) (by omega) (by omega) (by omega)
      omega

theorem four_pow {m N : Nat} (hm : m ≤ 5) (hN : N = 2 ^ m) : (2 : Int) ^ (2 * m) = (N : Int) * (N : Int) ∧ (N : Int) * (N : Int) ≤ 1024 := by
  subst hN
  rcases (show m = 0 ∨ m = 1 ∨ m = 2 ∨ m = 3 ∨ m = 4 ∨ m = 5 by omega) with rfl | rfl | rfl | rfl | rfl | rfl <;> decide

set_option maxRecDepth 100000 in
theorem walk (n : Int) (wn : (Lit.int .i64 n).wf = true) (u : Int) (wu : (Lit.int .u32 u).wf = true) (w : World) :
    Calls Try.prog 7 #[.int .i64 n, .int .u32 u] w fun e w' => e = .returned (.bool true) ∧ Below w.heap.size w w' := by
  obtain ⟨f, hf, rfl⟩ := u32_of wu
  clear wn wu
  by_cases hF : FnOk n f
  · have cC := fun w => fn_yes n f hf hF w
    obtain ⟨m, N, rfl, hm, hN, hfN⟩ := fn_nat hF
    have cA := Waves_yes m N f hf hF hm hN w
    have hNN := pow_n hm hN
    have hP : (2 : Int) ^ m = (N : Int) := by rw [hN]; simp
    obtain ⟨h4, h5⟩ := four_pow hm hN
    have hwb := hid (fun u (hu : u < N) => wf_bd (f := f) hm (show u < 2 ^ m by rw [← hN]; exact hu))
    have hend : Hid (qs m f N = (N : Int) * (N : Int)) := by
      show _ = _
      rw [hN, qs_end]; simp
    clear hF hN hfN
    go_enter Try.func7, Try.ntmps7
    go_wp2_with (first
      | (go_at_call 9; refine cA.mono ?_; rintro e w1 ⟨rfl, hO, hB⟩)
      | (go_at_call 18; refine (cC _).mono ?_; rintro e w2 ⟨rfl, hw⟩; subst w2))
    have O1 := hid hO
    have B1 := hid hB
    clear hO hB
    go_loopw [7, 24] (fun s i wr => ∃ k : Nat, s = .int .i64 (qs m f k) ∧ i = .int .i64 (k : Int) ∧ k ≤ N ∧ 0 ≤ qs m f k ∧ qs m f k ≤ 1024 * k ∧ Hid (wr = w1)) (fun s i wr => ((N : Int) - intOf i).toNat)
    case atStart => exact ⟨0, rfl, rfl, by omega, by show (0 : Int) ≤ 0; omega, by show (0 : Int) ≤ 0; omega, rfl⟩
    case round =>
      obtain ⟨k, rfl, rfl, hk, hq1, hq2, hW⟩ := hrel
      by_cases hgo : k < N
      · have hgo' : (k : Int) < (N : Int) := by omega
        have c1 := O1.out.cell hgo
        rw [← hW.out] at c1
        have hb := hwb.out k hgo
        have hsq := sq_bd hb.1 hb.2
        have e : Hid (qs m f (k + 1) = qs m f k + wf m f k * wf m f k) := rfl
        generalize wf m f k = z at *
        generalize qs m f k = s at *
        clear hP h4 h5
        go_wp2
        go_roundw
        case rel => exact ⟨k + 1, by rw [e.out], by simp, by omega, by rw [e.out]; omega, by rw [e.out]; omega, hW⟩
        case measure => exact measK hgo
      · have hgo' : ¬ (k : Int) < (N : Int) := by omega
        obtain rfl : k = N := by omega
        rw [hend.out]
        have h6 : 0 ≤ (k : Int) * (k : Int) := Int.mul_nonneg (by omega) (by omega)
        clear hq1 hq2
        generalize (k : Int) * (k : Int) = q at *
        go_wp2
        go_ret
        exact ⟨by simp, by rw [hW.out]; exact B1.out⟩
  · have cC := fun w => fn_no n f hf hF w
    have cA := Waves_no n f hf hF w
    clear hF
    go_enter Try.func7, Try.ntmps7
    go_wp2_with (first
      | (go_at_call 9; refine cA.mono ?_; rintro e w1 ⟨rfl, hw⟩; subst w1)
      | (go_at_call 18; refine (cC _).mono ?_; rintro e w2 ⟨rfl, hw⟩; subst w2))
    go_ret
    exact ⟨rfl, Below.refl _ _⟩

set_option maxRecDepth 100000 in
theorem lifted (os : Os) (started : os.Started) (H : Type) (enc : TypeId × Value → H) :
    ReturnsInHanded {} Try.checked os 7 .any (Rows.walshParsevalSpec.pre6 enc Try.prog Try.f7 Rows.walshParsevalRow.domain false) (Rows.walshParsevalSpec.post enc Try.prog Try.f7 false true false false) := by
  refine returnsInHanded_of_change (C := Try.checked) own started (by kernel_rfl) Try.func7
    (ChangeSpec.witness6 (enc := enc) (C := Try.checked) false ⟨#[], #[.int .i64 0, .int .u32 0], []⟩ 8 (by kernel_rfl) (by kernel_rfl) (by kernel_rfl) (by kernel_rfl)) ?_
  intro W base args ds gs before hval0 hW hcnd _
  have hval : ∀ (j : Nat) t v, Try.f7.params[j]? = some t → args[j]? = some v → Value.okWide Try.prog W .any base t v := hval0
  have hW' := hW
  obtain ⟨p, q, hA0, hV, rfl, _, _⟩ := hW
  have hA : DataW.TrodAll enc Try.prog W 0 (fun _ => true) true Try.f7.params.toList args.toList ds p := hA0
  rw [Try.params7] at hA hval
  obtain ⟨v0, v1, d0, d1, p0, p1, rfl, rfl, rfl, h0, h1⟩ := trodAll_two hA
  obtain ⟨rfl, rfl⟩ := trodVars_none hV
  obtain ⟨a0, rfl, rfl, rfl, w0⟩ := open_int Try.underlying3 (hval 0 3 v0 rfl rfl) h0
  obtain ⟨a1, rfl, rfl, rfl, w1⟩ := open_int Try.underlying22 (hval 1 22 v1 rfl rfl) h1
  clear hA0 hval0
  simp only [List.append_nil] at hW'
  refine (walk a0 w0 a1 w1 W ).mono fun e W' ⟨he, hg⟩ => ?_
  subst he
  refine ⟨_, rfl, _, _, _, [], ([] : List MemPlace) ++ (([] : List MemPlace)), [], hW', ?_, ?_, rfl, hg.frame _, fun h => by cases h⟩
  · exact trodAll_mk1 (shut_bool Try.underlying4 true)
  · exact trodAll_mk2 (shut_int Try.underlying3 w0) (shut_int Try.underlying22 w1)

theorem over : Rows.walshParsevalRow.holds Try.pinned (OpenSpec.ofChange Rows.walshParsevalSpec) :=
  OpenClaim.holds_of_wide 7 Try.f7 rfl rfl rfl rfl rfl rfl rfl ⟨rfl, rfl, rfl, rfl, rfl⟩ rfl rfl rfl rfl rfl (by kernel_rfl) Try.func7 (by kernel_rfl)
    (of_decide_eq_true (by kernel_rfl)) (by unfold Func.isWrapper; first | (rw [if_pos (by decide +kernel)]; kernel_rfl) | (rw [if_neg (by decide +kernel)]; exact ⟨rfl, rfl⟩))
    (fun os started H enc _ => lifted os started H enc)

/-- ████ THE STATEMENT ████ -/
theorem proved : Rows.WalshParsevalSaid :=
  over

end Go.Proofs.Ytpnjpkmlfbcnjaa.walshParseval
