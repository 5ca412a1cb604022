/-
  CARMICHAEL: for all numbers m: what Lambda tells of m divides Euler's count of m; and it is the Order of some number.
-/
import Derived.Test.YtoakbobofaepiaaRows
import Derived.Test.YtoakbobofaepiaaCalls22
import Derived.Test.YtoakbobofaepiaaCalls10
import Derived.WalkKit
import Derived.ProofKit
import Derived.OpenShut
namespace Go.Proofs.Ytoakbobofaepiaa.powerCarmichael
open Go.Proofs.Ytoakbobofaepiaa.Num3 Go.Proofs.Ytoakbobofaepiaa.Num6 Go.Proofs.Ytoakbobofaepiaa.Num8 Go.Proofs.Ytoakbobofaepiaa.Num13 Go.Proofs.Ytoakbobofaepiaa.Calls8 Go.Proofs.Ytoakbobofaepiaa.Calls9 Go.Proofs.Ytoakbobofaepiaa.Calls10 Go.Proofs.Ytoakbobofaepiaa.Calls11 Go.Proofs.Ytoakbobofaepiaa.Calls19 Go.Proofs.Ytoakbobofaepiaa.Calls20 Go.Proofs.Ytoakbobofaepiaa.Calls22
open Go.ChangeShapes Go.WideShapes Go.ChangeAt Go.RowKit
set_option linter.unusedVariables false      -- a walk need not use every 'w<i>' (that an integer argument fits its kind)

theorem own : ownKnob Try.prog.godebug = none := by kernel_rfl

theorem mod_dvd {p o : Nat} (ho : 1 ≤ o) (h : o ∣ p) : ((p : Int) % (o : Int) != 0) = false := by
  rw [show (p : Int) % (o : Int) = ((p % o : Nat) : Int) by simp, Nat.mod_eq_zero_of_dvd h]; rfl

/-- Whether a number takes as long as all. -/
def Hit (m L y : Nat) : Prop := IsOrd (rs (y : Int) m) m L

theorem order_at (m y L : Nat) (hm1 : 1 ≤ m) (hm2 : m ≤ 1048576) (hy : y ≤ m) : (Hit m L y ∧ ∀ w, Calls Try.prog 14 #[.int .i64 (y : Int), .int .i64 (m : Int)] w fun e w' => e = .returned (.tuple #[.int .i64 (L : Int), .int .i64 0]) ∧ Below w.heap.size w w') ∨
    (¬ Hit m L y ∧ ∃ z c : Int, (z = (L : Int) → ¬ c = 0) ∧ ∀ w, Calls Try.prog 14 #[.int .i64 (y : Int), .int .i64 (m : Int)] w fun e w' => e = .returned (.tuple #[.int .i64 z, .int .i64 c]) ∧ Below w.heap.size w w') := by
  by_cases h : Hit m L y
  · exact .inl ⟨h, fun w => Order_yes (y : Int) m L ⟨by omega, by omega⟩ hm1 hm2 h w⟩
  · refine .inr ⟨h, ?_⟩
    by_cases hc : Nat.gcd (rs (y : Int) m) m = 1
    · obtain ⟨o, ho, _⟩ := ord_ex hm1 hc
      refine ⟨o, 0, fun e => ?_, fun w => Order_yes (y : Int) m o ⟨by omega, by omega⟩ hm1 hm2 ho w⟩
      have e' : o = L := by omega
      subst e'; exact absurd ho h
    · exact ⟨0, 5, fun _ => by omega, fun w => Order_none (y : Int) m ⟨by omega, by omega⟩ hm1 hm2 hc w⟩

theorem meas7 {q M : Nat} (h : q ≤ M) : (((M : Int) + 1) - ((q : Int) + 1)).toNat < (((M : Int) + 1) - (q : Int)).toNat := by omega

theorem walk (a0 : Int) (w0 : (Lit.int .i64 a0).wf = true) (w : World) :
    Calls Try.prog 8 #[.int .i64 a0] w fun e w' => e = .returned (.bool true) ∧ Below w.heap.size w w' := by
  by_cases hg : Md a0
  · obtain ⟨m1, m2⟩ := hg
    obtain ⟨m, rfl⟩ : ∃ m : Nat, a0 = (m : Int) := ⟨a0.toNat, by omega⟩
    have hm1 : 1 ≤ m := by omega
    have hm2 : m ≤ 1048576 := by omega
    obtain ⟨L, hL⟩ := lam_ex hm1
    have cO := fun w => Lambda_yes m L hm1 hm2 hL w
    have cM := fun w => kmodulus_yes (m : Int) m1 m2 w
    have cF := fun w => Phi_at (m : Int) m1 m2 w
    rw [Int.toNat_natCast] at cF
    have hL1 := hL.pos
    have hL2 := lam_le hm1 hL
    have hL3 : ¬ (L : Int) = 0 := by omega
    have hL4 : ¬ L = 0 := by omega
    have hd := mod_dvd hL1 (hL.tot hm1)
    have ht := tot_le m
    have hE : Hid (∃ c, 1 ≤ c ∧ c ≤ m ∧ Hit m L c) := by
      obtain ⟨c, h1, h2, h3⟩ := lam_at hm1 hL
      exact ⟨c, h1, h2, by unfold Hit; rw [rs_nat]; exact h3⟩
    clear hL
    go_enter Try.func8, Try.ntmps8
    go_wp2_with (first | (go_at_call 16; refine (cO _).mono ?_; rintro e w1 ⟨rfl, hB1⟩) | (go_at_call 19; refine (cM _).mono ?_; rintro e w' ⟨rfl, hw⟩; subst w') | (go_at_call 23; refine (cF _).mono ?_; rintro e w2 ⟨rfl, hB2⟩))
    go_loopw [7, 8, 9] (fun y u v wr => ∃ y' : Nat, y = .int .i64 (y' : Int) ∧ 1 ≤ y' ∧ y' ≤ m + 1 ∧ Hid (∀ c, 1 ≤ c → c < y' → ¬ Hit m L c) ∧ Below w2.heap.size w2 wr) (fun y u v wr => (((m : Int) + 1) - intOf y).toNat)
    case atStart => exact ⟨1, rfl, by omega, by omega, fun c h1 h2 => by omega, Below.refl _ _⟩
    case round =>
      obtain ⟨y, rfl, hy1, hym, hno, hBr⟩ := hrel
      by_cases hgo : y ≤ m
      · have hgo' : (y : Int) ≤ (m : Int) := by omega
        rcases order_at m y L hm1 hm2 hgo with ⟨_, cY⟩ | ⟨hh, z, c, hzc, cY⟩
        · go_wp2_with (go_at_call 14; refine (cY _).mono ?_; rintro e w3 ⟨rfl, hB3⟩)
          go_ret
          exact ⟨rfl, below_trans (below_trans hB1 hB2) (below_trans hBr hB3)⟩
        · have hno2 : Hid (∀ c, 1 ≤ c → c < y + 1 → ¬ Hit m L c) := fun c h1 h2 => by
            by_cases e : c = y
            · subst e; exact hh
            · exact hno.out c h1 (by omega)
          clear hh
          by_cases hc0 : c = 0
          · subst hc0
            have hz : (z == (L : Int)) = false := by
              rw [beq_eq_false_iff_ne]; intro e; exact hzc e rfl
            clear hzc
            go_wp2_with (go_at_call 14; refine (cY _).mono ?_; rintro e w3 ⟨rfl, hB3⟩)
            go_roundw
            case rel => exact ⟨y + 1, by simp, by omega, by omega, hno2, below_trans hBr hB3⟩
            case measure => exact meas7 hgo
          · have hc1 : (c == 0) = false := by simpa using hc0
            clear hzc hc0
            go_wp2_with (go_at_call 14; refine (cY _).mono ?_; rintro e w3 ⟨rfl, hB3⟩)
            go_roundw
            case rel => exact ⟨y + 1, by simp, by omega, by omega, hno2, below_trans hBr hB3⟩
            case measure => exact meas7 hgo
      · exfalso
        obtain ⟨c, h1, h2, h3⟩ := hE.out
        exact hno.out c h1 (by omega) h3
  · have cO := fun w => Lambda_no a0 hg w
    have cM := fun w => kmodulus_no a0 hg w
    clear hg
    go_enter Try.func8, Try.ntmps8
    go_wp2_with (first | (go_at_call 16; refine (cO _).mono ?_; rintro e w1 ⟨rfl, hB1⟩) | (go_at_call 19; refine (cM _).mono ?_; rintro e w' ⟨rfl, hw⟩; subst w'))
    go_ret
    exact ⟨rfl, hB1⟩

/-! ### THE ROW's STEP: WRITTEN OUT: LEAVE IT -/
set_option maxRecDepth 100000 in
theorem lifted (os : Os) (started : os.Started) (H : Type) (enc : TypeId × Value → H) :
    ReturnsInHanded {} Try.checked os 8 .any (Rows.powerCarmichaelSpec.pre6 enc Try.prog Try.f8 Rows.powerCarmichaelRow.domain false) (Rows.powerCarmichaelSpec.post enc Try.prog Try.f8 false true false false) := by
  refine returnsInHanded_of_change (C := Try.checked) own started (by kernel_rfl) Try.func8
    (ChangeSpec.witness6 (enc := enc) (C := Try.checked) false ⟨#[], #[.int .i64 0], []⟩ 8 (by kernel_rfl) (by kernel_rfl) (by kernel_rfl) (by kernel_rfl)) ?_
  intro W base args ds gs before hval0 hW hcnd _
  have hval : ∀ (j : Nat) t v, Try.f8.params[j]? = some t → args[j]? = some v → Value.okWide Try.prog W .any base t v := hval0
  have hW' := hW
  obtain ⟨p, q, hA0, hV, rfl, hfz, hnd⟩ := hW
  have hA : DataW.TrodAll enc Try.prog W 0 (fun _ => true) true Try.f8.params.toList args.toList ds p := hA0
  rw [Try.params8] at hA hval
  obtain ⟨v0, vs0, d0, ds0, p0, q0, hargs, rfl, rfl, h0, r0⟩ := trodAll_cons hA
  obtain ⟨rfl, rfl, rfl⟩ := trodAll_nil r0
  obtain rfl : args = #[v0] := by cases args; simp_all
  obtain ⟨rfl, rfl⟩ := trodVars_none hV
  obtain ⟨a0, rfl, rfl, rfl, w0⟩ := open_int Try.underlying2 (hval 0 2 v0 rfl rfl) h0
  clear hA0 hval0
  simp only [List.append_nil] at hW'
  refine (walk a0 w0 W).mono fun e W' ⟨he, hg⟩ => ?_
  subst he
  exact ⟨_, rfl, post_of_kept (pa := []) (pv := []) hW' (fun _ _ _ => (trodAll_cons_mk (shut_bool Try.underlying4 _) trodAll_mk0)) (fun sp _ => (trodAll_cons_mk (shut_int Try.underlying2 w0) trodAll_mk0)) (fun _ _ => rfl) rfl
    (hg.frame _)⟩

theorem over : Rows.powerCarmichaelRow.holds Try.pinned (OpenSpec.ofChange Rows.powerCarmichaelSpec) :=
  OpenClaim.holds_of_wide 8 Try.f8 rfl rfl rfl rfl rfl rfl rfl ⟨rfl, rfl, rfl, rfl, rfl⟩ rfl rfl rfl rfl rfl (by kernel_rfl) Try.func8 (by kernel_rfl)
    (of_decide_eq_true (by kernel_rfl)) (by unfold Func.isWrapper; first | (rw [if_pos (by decide +kernel)]; kernel_rfl) | (rw [if_neg (by decide +kernel)]; exact ⟨rfl, rfl⟩))
    (fun os started H enc _ => lifted os started H enc)

/-- ████ THE STATEMENT ████ -/
theorem proved : Rows.PowerCarmichaelSaid :=
  over
end Go.Proofs.Ytoakbobofaepiaa.powerCarmichael
