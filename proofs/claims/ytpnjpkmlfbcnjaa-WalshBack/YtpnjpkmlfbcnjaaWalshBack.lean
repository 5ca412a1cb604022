/-
  For any function: of all waves that the program tells it comes again; and the sums of products of its sums of products are it; of what is no function it tells errors. No condition.
-/
import Derived.Test.YtpnjpkmlfbcnjaaRows
import Derived.Test.YtpnjpkmlfbcnjaaCalls117
import Derived.Test.YtpnjpkmlfbcnjaaNum59
import Derived.WalkKit
import Derived.ProofKit
import Derived.OpenShut
import Derived.Carry
namespace Go.Proofs.Ytpnjpkmlfbcnjaa.walshBack
open Go.ChangeShapes Go.WideShapes Go.ChangeAt Go.RowKit Go.Deep Go.Proofs.Ytpnjpkmlfbcnjaa.Base Go.Proofs.Ytpnjpkmlfbcnjaa.Base2 Go.Proofs.Ytpnjpkmlfbcnjaa.Num34 Go.Proofs.Ytpnjpkmlfbcnjaa.Base4 Go.Proofs.Ytpnjpkmlfbcnjaa.Base6 Go.Proofs.Ytpnjpkmlfbcnjaa.Num41 Go.Proofs.Ytpnjpkmlfbcnjaa.Num42 Go.Proofs.Ytpnjpkmlfbcnjaa.Num43 Go.Proofs.Ytpnjpkmlfbcnjaa.Num57 Go.Proofs.Ytpnjpkmlfbcnjaa.Num58 Go.Proofs.Ytpnjpkmlfbcnjaa.Num59 Go.Proofs.Ytpnjpkmlfbcnjaa.Calls110 Go.Proofs.Ytpnjpkmlfbcnjaa.Calls111 Go.Proofs.Ytpnjpkmlfbcnjaa.Calls112 Go.Proofs.Ytpnjpkmlfbcnjaa.Calls113 Go.Proofs.Ytpnjpkmlfbcnjaa.Calls114 Go.Proofs.Ytpnjpkmlfbcnjaa.Calls115 Go.Proofs.Ytpnjpkmlfbcnjaa.Calls116 Go.Proofs.Ytpnjpkmlfbcnjaa.Calls117
set_option linter.unusedVariables false

theorem own : ownKnob Try.prog.godebug = none := by kernel_rfl

theorem laidOut : laidOutB Try.prog = true := by kernel_rfl

theorem cells2 : Try.prog.cellsOf 2 = 1 := by kernel_rfl

set_option maxRecDepth 100000 in
set_option maxHeartbeats 1000000 in
theorem walk (n : Int) (wn : (Lit.int .i64 n).wf = true) (u : Int) (wu : (Lit.int .u32 u).wf = true) (w : World) :
    Calls Try.prog 8 #[.int .i64 n, .int .u32 u] w fun e w' => e = .returned (.bool true) ∧ Below w.heap.size w w' := by
  obtain ⟨f, hf, rfl⟩ := u32_of wu
  clear wn wu
  by_cases hF : FnOk n f
  · have cC := fun w => fn_yes n f hf hF w
    obtain ⟨m, N, rfl, hm, hN, hfN⟩ := fn_nat hF
    have cW := Waves_yes m N f hf hF hm hN w
    have cA := fun w => Anf_yes m N f hf hF hm hN w
    have cA2 := fun w => Anf_yes m N (an m f) (an_u32 hm) (an_ok hm) hm hN w
    rw [an_twice (by rw [← hN]; exact hfN)] at cA2
    have hNN := pow_n hm hN
    have hP : (2 : Int) ^ m = (N : Int) := by rw [hN]; simp
    have hwb := hid (fun u (hu : u < N) => wf_bd (f := f) hm (show u < 2 ^ m by rw [← hN]; exact hu))
    have hst := hid (fun x (hx : x < N) u => bk_step (f := f) hm (show x < 2 ^ m by rw [← hN]; exact hx) u)
    have hend := hid (fun x (hx : x < N) => bk_end (f := f) (show x < 2 ^ m by rw [← hN]; exact hx))
    rw [← hN, hP] at hend
    have cB := fun x (hx : x < N) w => bit_any f x hf (by omega) w
    have cO := fun u x (hu : u < N) (hx : x < N) w => refOnes_any (u &&& x) (and_32 u (by omega) x (by omega)).2 w
    generalize an m f = a at *
    clear hF hN hfN
    go_enter Try.func8, Try.ntmps8
    go_wp2_with (first
      | (go_at_call 9; refine cW.mono ?_; rintro e w1 ⟨rfl, hO, hB⟩; clear cW)
      | (go_at_call 12; refine (cA _).mono ?_; rintro e w2 ⟨rfl, hB2⟩; clear cA)
      | (go_at_call 18; refine (cC _).mono ?_; rintro e w3 ⟨rfl, hw⟩; subst w3; clear cC)
      | (go_at_call 12; refine (cA2 _).mono ?_; rintro e w4 ⟨rfl, hB4⟩; clear cA2))
    have O1 := hid ((hO.below hB2).below hB4)
    have B1 := hid (below_trans (below_trans hB hB2) hB4)
    clear hO hB hB2 hB4
    go_loopw [11] (fun i wr => ∃ x : Nat, i = .int .i64 (x : Int) ∧ x ≤ N ∧ Hid (wr = w4)) (fun i wr => ((N : Int) - intOf i).toNat)
    case atStart => exact ⟨0, rfl, by omega, rfl⟩
    case round =>
      obtain ⟨x, rfl, hx, hW⟩ := hrel
      by_cases hgx : x < N
      · have hgx' : (x : Int) < (N : Int) := by omega
        have hwr := hW.out
        subst hwr
        have cBx := fun w => cB x hgx w
        have cOx := fun u (hu : u < N) w => cO u x hu hgx w
        have hsx := hid (hst.out x hgx)
        have hex := hid (hend.out x hgx)
        have hand := fun u (hu : u < N) => and_32 u (by omega) x (by omega)
        clear hW cB cO hst hend
        go_wp2
        go_loopw [12, 13] (fun s i w' => ∃ u : Nat, s = .int .i64 (bk m f x u) ∧ i = .int .i64 (u : Int) ∧ u ≤ N ∧ -(32 * (u : Int)) ≤ bk m f x u ∧ bk m f x u ≤ 32 * u ∧ Hid (w' = wr)) (fun s i w' => ((N : Int) - intOf i).toNat)
        case atStart => exact ⟨0, rfl, rfl, by omega, by show -(32 * (0 : Int)) ≤ 0; omega, by show (0 : Int) ≤ 32 * (0 : Int); omega, rfl⟩
        case round =>
          obtain ⟨u, rfl, rfl, hu, hs1, hs2, hW⟩ := hrel
          by_cases hgu : u < N
          · have hgu' : (u : Int) < (N : Int) := by omega
            have c1 := O1.out.cell hgu
            rw [← hW.out] at c1
            have hb := hwb.out u hgu
            have c2 := fun w => cOx u hgu w
            obtain ⟨ha, hal⟩ := hand u hgu
            obtain ⟨s1, s2⟩ := hsx.out u
            have S1 := hid s1
            have S2 := hid s2
            have ho := on_le 5 (u &&& x)
            clear s1 s2 cOx hand hP
            generalize u &&& x = y at *
            generalize on 5 y = o at *
            generalize wf m f u = z at *
            by_cases hz : o % 2 = 0
            · have e := hid (S1.out hz)
              have hz' : ((o : Int) % 2 == 0) = true := by simp; omega
              generalize bk m f x u = s at *
              go_wp2_with (go_at_call 19; refine (c2 _).mono ?_; rintro e w' ⟨rfl, hw⟩; subst w')
              go_roundw
              case rel => exact ⟨u + 1, by rw [e.out], by simp, by omega, by rw [e.out]; omega, by rw [e.out]; omega, hW⟩
              case measure => exact measK hgu
            · have e := hid (S2.out hz)
              have hz' : ((o : Int) % 2 == 0) = false := by simp; omega
              generalize bk m f x u = s at *
              go_wp2_with (go_at_call 19; refine (c2 _).mono ?_; rintro e w' ⟨rfl, hw⟩; subst w')
              go_roundw
              case rel => exact ⟨u + 1, by rw [e.out], by simp, by omega, by rw [e.out]; omega, by rw [e.out]; omega, hW⟩
              case measure => exact measK hgu
          · have hgu' : ¬ (u : Int) < (N : Int) := by omega
            obtain rfl : u = N := by omega
            have hbx := bv_two f x
            have hbe : ((bt f x : Nat) : Int) = bv f x := rfl
            rw [hbe] at cBx
            have hfin : Hid (bk m f x u = (1 - 2 * bv f x) * (u : Int)) := by
              show _ = _
              rw [hex.out, Int.mul_comm]
            rw [hfin.out] at hs1 hs2
            rw [hfin.out]
            generalize bv f x = b at *
            have hb2 : 0 ≤ b ∧ b ≤ 1 := by omega
            clear hbx hfin hex hbe hsx
            go_wp2_with (go_at_call 20; refine (cBx _).mono ?_; rintro e w' ⟨rfl, hw⟩; subst w')
            go_roundw
            case rel => exact ⟨x + 1, by simp, by omega, hW⟩
            case measure => exact measK hgx
      · have hgx' : ¬ (x : Int) < (N : Int) := by omega
        go_wp2
        go_ret
        exact ⟨rfl, by rw [hW.out]; exact B1.out⟩
  · have cC := fun w => fn_no n f hf hF w
    have cW := Waves_no n f hf hF w
    have cA := Anf_no n f hf hF w
    clear hF
    go_enter Try.func8, Try.ntmps8
    go_wp2_with (first
      | (go_at_call 9; refine cW.mono ?_; rintro e w1 ⟨rfl, hw⟩; subst w1)
      | (go_at_call 12; refine cA.mono ?_; rintro e w2 ⟨rfl, hw⟩; subst w2)
      | (go_at_call 18; refine (cC _).mono ?_; rintro e w2 ⟨rfl, hw⟩; subst w2))
    go_ret
    exact ⟨rfl, Below.refl _ _⟩

set_option maxRecDepth 100000 in
theorem lifted (os : Os) (started : os.Started) (H : Type) (enc : TypeId × Value → H) :
    ReturnsInHanded {} Try.checked os 8 .any (Rows.walshBackSpec.pre6 enc Try.prog Try.f8 Rows.walshBackRow.domain false) (Rows.walshBackSpec.post enc Try.prog Try.f8 false true false false) := by
  refine returnsInHanded_of_change (C := Try.checked) own started (by kernel_rfl) Try.func8
    (ChangeSpec.witness6 (enc := enc) (C := Try.checked) false ⟨#[], #[.int .i64 0, .int .u32 0], []⟩ 8 (by kernel_rfl) (by kernel_rfl) (by kernel_rfl) (by kernel_rfl)) ?_
  intro W base args ds gs before hval0 hW hcnd _
  have hval : ∀ (j : Nat) t v, Try.f8.params[j]? = some t → args[j]? = some v → Value.okWide Try.prog W .any base t v := hval0
  have hW' := hW
  obtain ⟨p, q, hA0, hV, rfl, _, _⟩ := hW
  have hA : DataW.TrodAll enc Try.prog W 0 (fun _ => true) true Try.f8.params.toList args.toList ds p := hA0
  rw [Try.params8] at hA hval
  obtain ⟨v0, v1, d0, d1, p0, p1, rfl, rfl, rfl, h0, h1⟩ := trodAll_two hA
  obtain ⟨rfl, rfl⟩ := trodVars_none hV
  obtain ⟨a0, rfl, rfl, rfl, w0⟩ := open_int Try.underlying3 (hval 0 3 v0 rfl rfl) h0
  obtain ⟨a1, rfl, rfl, rfl, w1⟩ := open_int Try.underlying22 (hval 1 22 v1 rfl rfl) h1
  clear hA0 hval0
  simp only [List.append_nil] at hW'
  refine (walk a0 w0 a1 w1 W ).mono fun e W' ⟨he, hg⟩ => ?_
  subst he
  refine ⟨_, rfl, _, _, _, [], ([] : List MemPlace) ++ (([] : List MemPlace)), [], hW', ?_, ?_, rfl, hg.frame _, fun h => by cases h⟩
  · exact trodAll_mk1 (shut_bool Try.underlying4 true)
  · exact trodAll_mk2 (shut_int Try.underlying3 w0) (shut_int Try.underlying22 w1)

theorem over : Rows.walshBackRow.holds Try.pinned (OpenSpec.ofChange Rows.walshBackSpec) :=
  OpenClaim.holds_of_wide 8 Try.f8 rfl rfl rfl rfl rfl rfl rfl ⟨rfl, rfl, rfl, rfl, rfl⟩ rfl rfl rfl rfl rfl (by kernel_rfl) Try.func8 (by kernel_rfl)
    (of_decide_eq_true (by kernel_rfl)) (by unfold Func.isWrapper; first | (rw [if_pos (by decide +kernel)]; kernel_rfl) | (rw [if_neg (by decide +kernel)]; exact ⟨rfl, rfl⟩))
    (fun os started H enc _ => lifted os started H enc)

/-- ████ THE STATEMENT ████ -/
theorem proved : Rows.WalshBackSaid :=
  over

end Go.Proofs.Ytpnjpkmlfbcnjaa.walshBack
