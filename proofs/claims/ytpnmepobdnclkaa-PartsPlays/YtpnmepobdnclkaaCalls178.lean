/-
  The document's values of gates.
-/
import Derived.Test.YtpnmepobdnclkaaCalls177
namespace Go.Proofs.Ytpnmepobdnclkaa.Calls178
set_option linter.unusedVariables false
open Go.ChangeShapes Go.WideShapes Go.ChangeAt Go.RowKit Go.Deep Go.Proofs.Ytpnmepobdnclkaa.Base Go.Proofs.Ytpnmepobdnclkaa.Base2 Go.Proofs.Ytpnmepobdnclkaa.Num Go.Proofs.Ytpnmepobdnclkaa.Num13 Go.Proofs.Ytpnmepobdnclkaa.Num16 Go.Proofs.Ytpnmepobdnclkaa.Num17 Go.Proofs.Ytpnmepobdnclkaa.Num34 Go.Proofs.Ytpnmepobdnclkaa.Num35 Go.Proofs.Ytpnmepobdnclkaa.Num61 Go.Proofs.Ytpnmepobdnclkaa.Num69 Go.Proofs.Ytpnmepobdnclkaa.Base4 Go.Proofs.Ytpnmepobdnclkaa.Base10 Go.Proofs.Ytpnmepobdnclkaa.Calls56 Go.Proofs.Ytpnmepobdnclkaa.Calls57 Go.Proofs.Ytpnmepobdnclkaa.Calls61 Go.Proofs.Ytpnmepobdnclkaa.Calls176 Go.Proofs.Ytpnmepobdnclkaa.Calls177
open Go.Proofs.Ytpnmepobdnclkaa.Calls71 (al)
open Go.Proofs.Ytpnmepobdnclkaa.Calls87 (ib)
open Go.Proofs.Ytpnmepobdnclkaa.Calls90 (InM)
open Go.Proofs.Ytpnmepobdnclkaa.Calls19 (refMod_at)
open Go.Proofs.Ytpnmepobdnclkaa.Calls58 (mul_bd)

set_option maxRecDepth 100000 in
set_option maxHeartbeats 2000000 in
theorem refClear_any (P : Nat) (hP : 2 ≤ P) (hP2 : P ≤ 251) (go lo : Option Addr) (n cg cl : Nat) (F : Nat → Nat → Int) (l : List Int) (hn : n ≤ 60) (hl : l.length ≤ 60) (hI : InM (P : Int) l l.length) (hG : ∀ i, i < n → GOk (P : Int) l.length F i) (w : World) (hrow : IRow w lo l) (hg : GRow w go 4 n F) :
    Calls Try.prog 15 #[.int .i64 (P : Int), .slice go n cg, .slice lo l.length cl] w fun e w' => RetL (clr P l F n) e w' ∧ Below w.heap.size w w' := by
  obtain ⟨i0, hi, hz0, hz1, hz2⟩ := info_ex
  obtain ⟨N, hN⟩ : ∃ N, N = l.length := ⟨_, rfl⟩
  have HN : Hid (N = l.length) := hN
  have HR := hid hrow
  have HG := hid hg
  have HK := hid hG
  have HBd := hid (fun k hk => clr_bd (n := k) (by omega) hI (fun i hi => hG i (Nat.lt_of_lt_of_le hi hk)))
  have hlen : Hid ((clr P l F n).length = n) := clr_length _ _ _ _
  have cM := fun (x : Int) w => refMod_at x P w (by omega) (by omega)
  have hp0 : ¬ (P : Int) = 0 := by omega
  rw [← hN] at hl ⊢
  clear hN hrow hg hG hI
  go_enter Try.func15, Try.ntmps15
  go_wp2
  go_loopw [7, 13] (fun v x wr => ∃ k : Nat, x = .int .i64 (k : Int) ∧ k ≤ n ∧ Hid (wr.ownsRow w.heap.size 2 1 v k (ivals (clr P l F k))) ∧ Hid (Below w.heap.size w wr)) (fun v x wr => ((n : Int) - intOf x).toNat)
  case atStart => exact ⟨0, rfl, by omega, World.ownsRow_nil _ _ _ _, Below.refl _ _⟩
  case round =>
    obtain ⟨k, rfl, hk, hown, hB⟩ := hrel
    have hss := hB.out.size
    by_cases hgo : k < n
    · have hgo' : (k : Int) < (n : Int) := by omega
      rcases go with _ | ad
      · exact (grow_none HG.out hgo).elim
      · obtain ⟨c0, c1, c2, c3⟩ := gcell (gb HG.out hB.out) hgo
        have hsn := hid (clr_vals P l F k)
        have hBx : Hid (∀ o, Below w.heap.size w (wr.alloc o)) := fun o => al hB.out o
        have hal0 : Hid (∀ i, i < k → 0 ≤ co (clr P l F k) i ∧ co (clr P l F k) i < (P : Int)) := HBd.out k hk
        rcases HK.out k hgo with ⟨e, a, ha, hal⟩ | ⟨e, h2⟩ | ⟨e, a, b, ha, hb, hak, hbk⟩ | ⟨e, a, b, ha, hb, hak, hbk⟩
        · have hv : Hid (vst P l F (clr P l F k) k = co l a) := vst_in e ha _
          rw [hv.out] at hsn
          rw [e] at c0
          rw [ha] at c1
          rcases lo with _ | ad2
          · exact (irow_none HR.out hal).elim
          · have d0 := (ib HR.out (hBx.out (.cells #[.int .i64 1, .int .i64 (a : Int), .int .i64 (F k 2), .int .i64 (F k 3)] 54))).2 ad2 rfl a hal
            have haN : a < N := by have := HN.out; omega
            have hai : (a : Int) < (N : Int) := by omega
            clear hv e ha hal HBd hal0
            generalize co l a = z at *
            generalize F k 2 = b at *
            generalize F k 3 = y at *
            go_wp2_with (at_builtin; refine wpList_append_own _ rfl _ _ 22 rfl w.heap.size 2 i0 (.int .i64 0) 1 8 Try.underlying22 hi hz0 hz1 hz2 rfl (by decide) _ _ _ rfl ((hown.out.alloc _).alloc _) ⟨wr.heap.size + 1, 0, none⟩ 1 1 [.int .i64 z] rfl rfl new_cell (by simp [Value.oneCell']) (by unfold maxLen; omega) (by omega) (by simp; omega) ?_; intro v' w1 hown' hgrow _)
            go_roundw
            case rel => exact ⟨k + 1, by simp, by omega, by show World.ownsRow _ _ _ _ _ _ _; rw [hsn.out]; exact hown', grown2 hB.out hown.out hgrow⟩
            case measure => exact measK hgo
        · have hv : Hid (vst P l F (clr P l F k) k = F k 3) := vst_co e _
          rw [hv.out] at hsn
          rw [e] at c0
          clear hv e h2 HBd hal0
          generalize F k 1 = a at *
          generalize F k 2 = b at *
          generalize F k 3 = z at *
          go_wp2_with (at_builtin; refine wpList_append_own _ rfl _ _ 22 rfl w.heap.size 2 i0 (.int .i64 0) 1 8 Try.underlying22 hi hz0 hz1 hz2 rfl (by decide) _ _ _ rfl ((hown.out.alloc _).alloc _) ⟨wr.heap.size + 1, 0, none⟩ 1 1 [.int .i64 z] rfl rfl new_cell (by simp [Value.oneCell']) (by unfold maxLen; omega) (by omega) (by simp; omega) ?_; intro v' w1 hown' hgrow _)
          go_roundw
          case rel => exact ⟨k + 1, by simp, by omega, by show World.ownsRow _ _ _ _ _ _ _; rw [hsn.out]; exact hown', grown2 hB.out hown.out hgrow⟩
          case measure => exact measK hgo
        · have hv : Hid (vst P l F (clr P l F k) k = (co (clr P l F k) a + co (clr P l F k) b) % (P : Int)) := vst_add e ha hb _
          rw [hv.out] at hsn
          rw [e] at c0
          rw [ha] at c1
          rw [hb] at c2
          obtain ⟨ba1, ba2⟩ := hal0.out a hak
          obtain ⟨bb1, bb2⟩ := hal0.out b hbk
          have bm := mul_bd (hal0.out a hak) (hal0.out b hbk) hP2
          have hclen : Hid ((clr P l F k).length = k) := clr_length _ _ _ _
          obtain ⟨vo, vc, rfl, hcap, hr⟩ := irow_owns hown.out
          rw [hclen.out] at hcap hown ⊢
          rcases vo with _ | av
          · exact (irow_none hr (j := a) (by rw [hclen.out]; exact hak)).elim
          · have hr2 := irow_below hr ((Below.refl _ _).alloc (Nat.le_refl _) (.cells #[.int .i64 3, .int .i64 (a : Int), .int .i64 (b : Int), .int .i64 (F k 3)] 54)) (Nat.le_refl _)
            have d1 := hr2.2 av rfl a (by rw [hclen.out]; exact hak)
            have d2 := hr2.2 av rfl b (by rw [hclen.out]; exact hbk)
            have hai : (a : Int) < (k : Int) := by omega
            have hbi : (b : Int) < (k : Int) := by omega
            clear hv e ha hb HBd hal0 hr hr2
            generalize F k 3 = y at *
            generalize co (clr P l F k) a = x1 at *
            generalize co (clr P l F k) b = x2 at *
            obtain ⟨bm1, bm2⟩ := bm
            have cM1 := fun w => cM (x1 + x2) w
            obtain ⟨z, hz⟩ : ∃ z : Int, z = (rs (x1 + x2) P : Int) := ⟨_, rfl⟩
            have hz' : (x1 + x2) % (P : Int) = z := by rw [hz]; exact (rs_cast _ (by omega)).symm
            rw [hz'] at hsn
            rw [← hz] at cM1
            clear hz hz' cM
            go_wp2
            go_quiet ((go_at_call 24; exact Calls.quiet_of_same (cM1 _)))
            go_wp2_with (at_builtin; refine wpList_append_own _ rfl _ _ 22 rfl w.heap.size 2 i0 (.int .i64 0) 1 8 Try.underlying22 hi hz0 hz1 hz2 rfl (by decide) _ _ _ rfl ((hown.out.alloc _).alloc _) ⟨wr.heap.size + 1, 0, none⟩ 1 1 [.int .i64 z] rfl rfl new_cell (by simp [Value.oneCell']) (by unfold maxLen; omega) (by omega) (by simp; omega) ?_; intro v' w1 hown' hgrow _)
            go_roundw
            case rel => exact ⟨k + 1, by simp, by omega, by show World.ownsRow _ _ _ _ _ _ _; rw [hsn.out]; exact hown', grown2d hB.out hown.out hgrow⟩
            case measure => exact measK hgo
        · have hv : Hid (vst P l F (clr P l F k) k = (co (clr P l F k) a * co (clr P l F k) b) % (P : Int)) := vst_mul e ha hb _
          rw [hv.out] at hsn
          rw [e] at c0
          rw [ha] at c1
          rw [hb] at c2
          obtain ⟨ba1, ba2⟩ := hal0.out a hak
          obtain ⟨bb1, bb2⟩ := hal0.out b hbk
          have bm := mul_bd (hal0.out a hak) (hal0.out b hbk) hP2
          have hclen : Hid ((clr P l F k).length = k) := clr_length _ _ _ _
          obtain ⟨vo, vc, rfl, hcap, hr⟩ := irow_owns hown.out
          rw [hclen.out] at hcap hown ⊢
          rcases vo with _ | av
          · exact (irow_none hr (j := a) (by rw [hclen.out]; exact hak)).elim
          · have hr2 := irow_below hr ((Below.refl _ _).alloc (Nat.le_refl _) (.cells #[.int .i64 4, .int .i64 (a : Int), .int .i64 (b : Int), .int .i64 (F k 3)] 54)) (Nat.le_refl _)
            have d1 := hr2.2 av rfl a (by rw [hclen.out]; exact hak)
            have d2 := hr2.2 av rfl b (by rw [hclen.out]; exact hbk)
            have hai : (a : Int) < (k : Int) := by omega
            have hbi : (b : Int) < (k : Int) := by omega
            clear hv e ha hb HBd hal0 hr hr2
            generalize F k 3 = y at *
            generalize co (clr P l F k) a = x1 at *
            generalize co (clr P l F k) b = x2 at *
            obtain ⟨bm1, bm2⟩ := bm
            have cM1 := fun w => cM (x1 * x2) w
            obtain ⟨z, hz⟩ : ∃ z : Int, z = (rs (x1 * x2) P : Int) := ⟨_, rfl⟩
            have hz' : (x1 * x2) % (P : Int) = z := by rw [hz]; exact (rs_cast _ (by omega)).symm
            rw [hz'] at hsn
            rw [← hz] at cM1
            clear hz hz' cM
            go_wp2
            go_quiet ((go_at_call 24; exact Calls.quiet_of_same (cM1 _)))
            go_wp2_with (at_builtin; refine wpList_append_own _ rfl _ _ 22 rfl w.heap.size 2 i0 (.int .i64 0) 1 8 Try.underlying22 hi hz0 hz1 hz2 rfl (by decide) _ _ _ rfl ((hown.out.alloc _).alloc _) ⟨wr.heap.size + 1, 0, none⟩ 1 1 [.int .i64 z] rfl rfl new_cell (by simp [Value.oneCell']) (by unfold maxLen; omega) (by omega) (by simp; omega) ?_; intro v' w1 hown' hgrow _)
            go_roundw
            case rel => exact ⟨k + 1, by simp, by omega, by show World.ownsRow _ _ _ _ _ _ _; rw [hsn.out]; exact hown', grown2d hB.out hown.out hgrow⟩
            case measure => exact measK hgo
    · have hgo' : ¬ (k : Int) < (n : Int) := by omega
      obtain rfl : k = n := by omega
      obtain ⟨vo, vc, rfl, hcap, hr⟩ := irow_owns hown.out
      have H3 := hid hr
      rw [hlen.out] at hcap ⊢
      clear hr
      go_wp2
      go_ret
      refine ⟨⟨vo, vc, ?_, ?_, H3.out⟩, hB.out⟩
      · rw [hlen.out]; rfl
      · rw [hlen.out]; exact hcap

end Go.Proofs.Ytpnmepobdnclkaa.Calls178
