/-
  For any rounds and any number, if it is not too long till all are back: then it is, and behind fewer steps that divide these some are not; without a condition.
-/
import Derived.Test.YtngdhhhdnkkagaaRows
import Derived.Test.YtngdhhhdnkkagaaCalls109
import Derived.WalkKit
import Derived.ProofKit
import Derived.OpenShut
import Derived.Carry
namespace Go.Proofs.Ytngdhhhdnkkagaa.feistelOrder
open Go.ChangeShapes Go.WideShapes Go.ChangeAt Go.RowKit Go.Deep Go.Proofs.Ytngdhhhdnkkagaa.Base Go.Proofs.Ytngdhhhdnkkagaa.Base2 Go.Proofs.Ytngdhhhdnkkagaa.Num16 Go.Proofs.Ytngdhhhdnkkagaa.Num17 Go.Proofs.Ytngdhhhdnkkagaa.Num34 Go.Proofs.Ytngdhhhdnkkagaa.Num51 Go.Proofs.Ytngdhhhdnkkagaa.Base4 Go.Proofs.Ytngdhhhdnkkagaa.Base5 Go.Proofs.Ytngdhhhdnkkagaa.Calls96 Go.Proofs.Ytngdhhhdnkkagaa.Calls103 Go.Proofs.Ytngdhhhdnkkagaa.Calls104 Go.Proofs.Ytngdhhhdnkkagaa.Calls105 Go.Proofs.Ytngdhhhdnkkagaa.Num18 Go.Proofs.Ytngdhhhdnkkagaa.Num52 Go.Proofs.Ytngdhhhdnkkagaa.Num53 Go.Proofs.Ytngdhhhdnkkagaa.Calls108 Go.Proofs.Ytngdhhhdnkkagaa.Calls109
set_option linter.unusedVariables false

theorem own : ownKnob Try.prog.godebug = none := by kernel_rfl

theorem laidOut : laidOutB Try.prog = true := by kernel_rfl

theorem cells2 : Try.prog.cellsOf 2 = 1 := by kernel_rfl

theorem cellsR : Try.prog.cellsOf 34 = 1 := by kernel_rfl

theorem cells3 : Try.prog.cellsOf 3 = 1 := by kernel_rfl

/-- Behind k steps. -/
def StepV (f : Nat → Nat) (q n : Nat) (v i : Value) : Prop := ∃ k y : Nat, v = .int .i64 (y : Int) ∧ i = .int .i64 (k : Int) ∧ k ≤ n ∧ Hid (it f q k = y)

set_option maxRecDepth 100000 in
set_option maxHeartbeats 4000000 in
theorem walk (ao : Option Addr) (cap : Nat) (L : List (List Int)) (kl : L.length ≤ cap) (ml : L.length ≤ 9223372036854775807) (x : Int) (wx : (Lit.int .i64 x).wf = true) (d : Int) (w : World) (hrow : RRow w ao L) :
    Calls Try.prog 8 #[.slice ao L.length cap, .int .i64 x, .int .i64 d] w fun e w' => e = .returned (.bool true) ∧ Below w.heap.size w w' := by
  obtain ⟨c, hc⟩ := FC.ex L x
  obtain ⟨c0, hc0⟩ := FC.ex L 0
  have cR := fun w' (hB : Below w.heap.size w w') => refRounds_any ao cap L x c hc ml w' (rb hrow hB)
  clear wx
  by_cases h00 : c0 = 0
  · subst h00
    obtain ⟨hl, hR, _, _⟩ := hc0.ok.1 rfl
    obtain ⟨o, ho, ho2⟩ := order_ex hR
    have cS := Order_yes ao cap L hR hl o ho ho2 w hrow
    by_cases h0 : c = 0
    · subst h0
      obtain ⟨_, _, h1, h2⟩ := hc.ok.1 rfl
      obtain ⟨q, rfl⟩ : ∃ q : Nat, x = (q : Int) := ⟨x.toNat, by omega⟩
      have hq : q < 256 := by omega
      by_cases hbig : 3000 < o
      · have hb1 : decide ((3000 : Int) < (o : Int)) = true := by simp; omega
        have hb2 : (3000 : Int) < (o : Int) := by omega
        generalize L.length = n at *
        clear hc hc0 hrow ho ho2
        go_enter Try.func8, Try.ntmps8
        go_wp2_with (first
          | (go_at_call 13; refine cS.mono ?_; rintro e w1 ⟨rfl, hB⟩)
          | (go_at_call 10; refine (cR _ hB).mono ?_; rintro e w2 ⟨rfl, hw⟩; subst w2))
        go_ret
        exact ⟨by simp, hB⟩
      · have hb1 : decide ((3000 : Int) < (o : Int)) = false := by simp; omega
        have ho1 := ho.1
        have hb3 : decide ((o : Int) < 1) = false := by simp; omega
        have HO : Hid (OrdOf (sl L) (fun x => x < 256) o) := ho
        have hit : Hid (∀ s j, s < 256 → it (sl L) s j < 256) := fun s j hs => it_lt hs (fun y hy => sl_lt hR hy) j
        have cP := fun (y : Nat) (hy : y < 256) (W : World) (hB : Below w.heap.size w W) => Seal_yes ao cap L hR hl y hy W (rb hrow hB)
        have cD := fun (y : Nat) (hy : y < 256) (W : World) (hB : Below w.heap.size w W) => refSeal_any ao cap L hR hl y hy W (rb hrow hB)
        have hsu : Hid (∀ s j, sl L (it (sl L) s j) = it (sl L) s (j + 1)) := fun s j => rfl
        generalize L.length = n at *
        generalize sl L = f at *
        clear hc hc0 hrow ho ho2 hR
        go_enter Try.func8, Try.ntmps8
        go_wp2_with (first
          | (go_at_call 13; refine cS.mono ?_; rintro e w1 ⟨rfl, hB⟩)
          | (go_at_call 10; refine (cR _ hB).mono ?_; rintro e w2 ⟨rfl, hw⟩; subst w2))
        clear cS cR
        go_loopw [9, 10] (fun v i wr => StepV f q o v i ∧ Hid (Below w.heap.size w wr)) (fun v i wr => ((o : Int) - intOf i).toNat)
        case atStart => exact ⟨⟨0, q, rfl, rfl, by omega, rfl⟩, hB⟩
        case round =>
          obtain ⟨⟨k, y, rfl, rfl, hk, hY⟩, HB⟩ := hrel
          have hy := hit.out q k hq
          rw [hY.out] at hy
          by_cases hgo : k < o
          · have hgo' : (k : Int) < (o : Int) := by omega
            have cX := cP y hy _ HB.out
            have hnx := hsu.out q k
            rw [hY.out] at hnx
            rw [hnx] at cX
            obtain ⟨x2, hx2⟩ : ∃ x2, it f q (k + 1) = x2 := ⟨_, rfl⟩
            rw [hx2] at cX
            have hx2' := hid hx2
            clear hnx hx2
            go_wp2_with (go_at_call 9; refine cX.mono ?_; rintro e w3 ⟨rfl, hB3⟩)
            go_roundw
            case rel => exact ⟨⟨k + 1, x2, rfl, by simp, by omega, hx2'⟩, below_trans HB.out hB3⟩
            case measure => exact measK hgo
          · have hgo' : ¬ (k : Int) < (o : Int) := by omega
            have eko : k = o := by omega
            subst eko
            have eyq : y = q := by rw [← hY.out]; exact (HO.out.2 k).2 (Nat.dvd_refl k) q hq
            subst eyq
            by_cases hd1 : d < 1
            · have hd1' : decide (d < 1) = true := by simpa using hd1
              go_wp2
              go_ret
              exact ⟨rfl, HB.out⟩
            have hd1' : decide (d < 1) = false := by simpa using hd1
            obtain ⟨D, rfl⟩ : ∃ D : Nat, d = (D : Int) := ⟨d.toNat, by omega⟩
            by_cases hd2 : k ≤ D
            · have hd2' : decide ((k : Int) ≤ (D : Int)) = true := by simp; omega
              have hd2'' : (k : Int) ≤ (D : Int) := by omega
              go_wp2
              go_ret
              exact ⟨rfl, HB.out⟩
            have hd2' : decide ((k : Int) ≤ (D : Int)) = false := by simp; omega
            have hd2'' : ¬ (k : Int) ≤ (D : Int) := by omega
            have hdn : decide (k ≤ D) = false := by simp; omega
            have hD0 : ¬ (D : Int) = 0 := by omega
            by_cases hd3 : k % D = 0
            · have hd3' : (k : Int) % (D : Int) = 0 := by omega
              have hno : Hid (¬ ∀ x, x < 256 → it f x D = x) := fun h => by
                have := Nat.le_of_dvd (by omega) ((HO.out.2 D).1 h)
                omega
              go_wp2
              go_loopw [1] (fun u wr => (∃ s : Nat, u = .int .i64 (s : Int) ∧ s ≤ 256 ∧ Hid (∀ x, x < s → it f x D = x)) ∧ Hid (Below w.heap.size w wr)) (fun u wr => (256 - intOf u).toNat)
              case atStart => exact ⟨⟨0, rfl, by omega, fun x hx => by omega⟩, HB.out⟩
              case round =>
                obtain ⟨⟨s, rfl, hs, hA⟩, HB2⟩ := hrel
                by_cases hgo2 : s < 256
                · have hgo2' : (s : Int) < 256 := by omega
                  obtain ⟨W1, hW1⟩ : ∃ W1, W1 = wr := ⟨_, rfl⟩
                  rw [← hW1] at HB2 ⊢
                  clear hW1
                  go_wp2
                  go_loopw [9, 13] (fun v i wr => StepV f s D v i ∧ Hid (Below w.heap.size w wr)) (fun v i wr => ((D : Int) - intOf i).toNat)
                  case atStart => exact ⟨⟨0, s, rfl, rfl, by omega, rfl⟩, HB2.out⟩
                  case round =>
                    obtain ⟨⟨j, z, rfl, rfl, hj, hZ⟩, HB3⟩ := hrel
                    have hz := hit.out s j hgo2
                    rw [hZ.out] at hz
                    by_cases hgo3 : j < D
                    · have hgo3' : (j : Int) < (D : Int) := by omega
                      have cX := cD z hz _ HB3.out
                      have hnx := hsu.out s j
                      rw [hZ.out] at hnx
                      rw [hnx] at cX
                      obtain ⟨x2, hx2⟩ : ∃ x2, it f s (j + 1) = x2 := ⟨_, rfl⟩
                      rw [hx2] at cX
                      have hx2' := hid hx2
                      clear hnx hx2
                      go_wp2_with (go_at_call 11; refine cX.mono ?_; rintro e w3 ⟨rfl, hB3⟩)
                      go_roundw
                      case rel => exact ⟨⟨j + 1, x2, rfl, by simp, by omega, hx2'⟩, below_trans HB3.out hB3⟩
                      case measure => exact measK hgo3
                    · have hgo3' : ¬ (j : Int) < (D : Int) := by omega
                      have ejd : j = D := by omega
                      by_cases hzs : z = s
                      · have hA2 : Hid (∀ x, x < s + 1 → it f x D = x) := fun x hx => by
                          by_cases e : x = s
                          · rw [e, ← ejd, hZ.out, hzs]
                          · exact hA.out x (by omega)
                        clear hZ hz
                        subst hzs
                        go_wp2
                        go_roundw
                        case rel => exact ⟨⟨z + 1, by simp, by omega, hA2⟩, HB3.out⟩
                        case measure => simp [intOf]; omega
                      · have hzs' : ¬ (z : Int) = (s : Int) := by omega
                        go_wp2
                        go_ret
                        exact ⟨rfl, HB3.out⟩
                · exact (hno.out (fun x hx => hA.out x (by omega))).elim
            · have hd3' : ¬ (k : Int) % (D : Int) = 0 := by omega
              have hd3'' : ((k : Int) % (D : Int) != 0) = true := by simp; omega
              go_wp2
              go_ret
              exact ⟨rfl, HB.out⟩
    · have h1 : (c != 0) = true := by simpa using h0
      have h2 : (c == 0) = false := by simpa using h0
      generalize L.length = n at *
      clear hc hc0 hrow ho ho2
      go_enter Try.func8, Try.ntmps8
      go_wp2_with (first
        | (go_at_call 13; refine cS.mono ?_; rintro e w1 ⟨rfl, hB⟩)
        | (go_at_call 10; refine (cR _ hB).mono ?_; rintro e w2 ⟨rfl, hw⟩; subst w2))
      go_ret
      exact ⟨by simp, hB⟩
  · have cS := Order_bad ao cap L c0 hc0 h00 ml w hrow
    have h0 : ¬ c = 0 := fun e => by
      obtain ⟨a1, a2, _, _⟩ := hc.ok.1 e
      exact h00 (hc0.ok.2 ⟨a1, a2, by omega, by omega⟩)
    have h1 : (c != 0) = true := by simpa using h0
    have h2 : (c == 0) = false := by simpa using h0
    have g1 : (c0 != 0) = true := by simpa using h00
    have g2 : (c0 == 0) = false := by simpa using h00
    generalize L.length = n at *
    clear hc hc0 hrow
    go_enter Try.func8, Try.ntmps8
    go_wp2_with (first
      | (go_at_call 13; refine cS.mono ?_; rintro e w1 ⟨rfl, hB⟩)
      | (go_at_call 10; refine (cR _ hB).mono ?_; rintro e w2 ⟨rfl, hw⟩; subst w2))
    go_ret
    exact ⟨by simp, hB⟩

set_option maxRecDepth 100000 in
theorem lifted (os : Os) (started : os.Started) (H : Type) (enc : TypeId × Value → H) :
    ReturnsInHanded {} Try.checked os 8 .any (Rows.feistelOrderSpec.pre6 enc Try.prog Try.f8 Rows.feistelOrderRow.domain false) (Rows.feistelOrderSpec.post enc Try.prog Try.f8 false true false false) := by
  refine returnsInHanded_of_change (C := Try.checked) own started (by kernel_rfl) Try.func8
    (ChangeSpec.witness6 (enc := enc) (C := Try.checked) false ⟨#[], #[.slice none 0 0, .int .i64 0, .int .i64 0], []⟩ 8 (by kernel_rfl) (by kernel_rfl) (by kernel_rfl) (by kernel_rfl)) ?_
  intro W base args ds gs before hval0 hW hcnd _
  have hval : ∀ (j : Nat) t v, Try.f8.params[j]? = some t → args[j]? = some v → Value.okWide Try.prog W .any base t v := hval0
  have hW' := hW
  obtain ⟨p, q, hA0, hV, rfl, _, _⟩ := hW
  have hA : DataW.TrodAll enc Try.prog W 0 (fun _ => true) true Try.f8.params.toList args.toList ds p := hA0
  rw [Try.params8] at hA hval
  obtain ⟨v0, v1, v2, d0, d1, d2, p0, p1, p2, rfl, rfl, rfl, h0, h1, h2⟩ := trodAll_three hA
  obtain ⟨rfl, rfl⟩ := trodVars_none hV
  have hsl0 := okWide_slice Try.underlying22 (hval 0 22 v0 rfl rfl)
  obtain ⟨a1, rfl, rfl, rfl, w1⟩ := open_int Try.underlying3 (hval 1 3 v1 rfl rfl) h1
  obtain ⟨a2, rfl, rfl, rfl, w2⟩ := open_int Try.underlying2 (hval 2 2 v2 rfl rfl) h2
  clear hA0 hval0
  simp only [List.append_nil] at hW'
  have hlt0 : ∀ x ∈ p0, x.block < W.heap.size := fun x hx => by simpa using hW'.lt x (by simp [hx])
  have harg0 : ∀ (W' : World), Below W.heap.size W W' → DataW.Trod enc Try.prog W' 0 (fun b => decide (b < W.heap.size)) true 22 v0 d0 p0 :=
    fun W' hn => Below.trod laidOut (by kernel_rfl) (of_decide_eq_true (by kernel_rfl)) h0 hn hlt0
  obtain ⟨o0, c0, l0, rfl, r0, k0, m0⟩ := rows_view Try.underlying22 cellsR Try.underlying34 cells3 Try.underlying3 h0 hsl0
  refine (walk o0 c0 l0 k0 m0 a1 w1 a2 W r0).mono fun e W' ⟨he, hg⟩ => ?_
  subst he
  refine ⟨_, rfl, _, _, _, [], p0 ++ (([] : List MemPlace) ++ (([] : List MemPlace))), [], hW', ?_, ?_, rfl, hg.frame _, fun h => by cases h⟩
  · exact trodAll_mk1 (shut_bool Try.underlying4 true)
  · exact trodAll_mk3 (harg0 _ hg) (shut_int Try.underlying3 w1) (shut_int Try.underlying2 w2)

theorem over : Rows.feistelOrderRow.holds Try.pinned (OpenSpec.ofChange Rows.feistelOrderSpec) :=
  OpenClaim.holds_of_wide 8 Try.f8 rfl rfl rfl rfl rfl rfl rfl ⟨rfl, rfl, rfl, rfl, rfl⟩ rfl rfl rfl rfl rfl (by kernel_rfl) Try.func8 (by kernel_rfl)
    (of_decide_eq_true (by kernel_rfl)) (by unfold Func.isWrapper; first | (rw [if_pos (by decide +kernel)]; kernel_rfl) | (rw [if_neg (by decide +kernel)]; exact ⟨rfl, rfl⟩))
    (fun os started H enc _ => lifted os started H enc)

/-- ████ THE STATEMENT ████ -/
theorem proved : Rows.FeistelOrderSaid :=
  over

end Go.Proofs.Ytngdhhhdnkkagaa.feistelOrder
