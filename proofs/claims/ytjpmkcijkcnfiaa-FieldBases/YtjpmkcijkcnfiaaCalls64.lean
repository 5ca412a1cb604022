/-
  The document's polynomials: what is left, and what divides both.
-/
import Derived.Test.YtjpmkcijkcnfiaaCalls61
import Derived.Test.YtjpmkcijkcnfiaaCalls63
import Derived.Deep.RegionWith
namespace Go.Proofs.Ytjpmkcijkcnfiaa.Calls64
set_option linter.unusedVariables false
open Go.ChangeShapes Go.WideShapes Go.ChangeAt Go.RowKit Go.Deep Go.Proofs.Ytjpmkcijkcnfiaa.Base Go.Proofs.Ytjpmkcijkcnfiaa.Base2 Go.Proofs.Ytjpmkcijkcnfiaa.Num Go.Proofs.Ytjpmkcijkcnfiaa.Num13 Go.Proofs.Ytjpmkcijkcnfiaa.Num16 Go.Proofs.Ytjpmkcijkcnfiaa.Num17 Go.Proofs.Ytjpmkcijkcnfiaa.Num34 Go.Proofs.Ytjpmkcijkcnfiaa.Num35 Go.Proofs.Ytjpmkcijkcnfiaa.Base4 Go.Proofs.Ytjpmkcijkcnfiaa.Calls56 Go.Proofs.Ytjpmkcijkcnfiaa.Calls57 Go.Proofs.Ytjpmkcijkcnfiaa.Calls58 Go.Proofs.Ytjpmkcijkcnfiaa.Calls59 Go.Proofs.Ytjpmkcijkcnfiaa.Calls60 Go.Proofs.Ytjpmkcijkcnfiaa.Calls61 Go.Proofs.Ytjpmkcijkcnfiaa.Calls62 Go.Proofs.Ytjpmkcijkcnfiaa.Calls63
open Go.Proofs.Ytjpmkcijkcnfiaa.Calls19 (refMod_at)

/-- The call has returned what is left. -/
def LeftR (p : Nat) (a b : List Int) (e : Ending) (w' : World) : Prop := ∃ q r, DivIs p a b q r ∧ RetL r e w'

theorem measL (k m : Nat) : ((k : Int) + (m : Int) - 1 + 1).toNat < ((k : Int) + (m : Int) + 1).toNat := by omega

set_option maxRecDepth 100000 in
theorem refLeft_short (p : Nat) (hp1 : 1 ≤ p) (ao bo : Option Addr) (ca cb : Nat) (a b : List Int) (ha : Cn p a) (hla : a.length ≤ 4096) (hlb : b.length ≤ 4096) (hlt : a.length < b.length) (w : World) (ra : IRow w ao a) :
    Calls Try.prog 30 #[.int .i64 (p : Int), .slice ao a.length ca, .slice bo b.length cb] w fun e w' => LeftR p a b e w' ∧ Below w.heap.size w w' := by
  obtain ⟨i0, hi, hz0, hz1, hz2⟩ := info_ex
  obtain ⟨na, hna⟩ : ∃ na, na = a.length := ⟨_, rfl⟩
  have HNA : Hid (na = a.length) := hna
  have hD := hid (DivIs.short ha hlt)
  obtain ⟨m, hm⟩ : ∃ m, b.length = m + 1 := ⟨b.length - 1, by omega⟩
  have hTr : Hid (tr a = a) := tr_last_ne a ha.2
  have cT := fun (g cap : Nat) (f : Nat → Int) (w' : World) (h : Own1 w' w.heap.size g na cap f) => refTrimmed_any (some ⟨g, 0, none⟩) cap (mk na f) (by rw [mk_length]; omega) (by rw [mk_length]; exact h.cap_le) w' h.row
  rw [← hna, hm]
  rw [← hna, hm] at hlt
  rw [← hna] at hla
  rw [hm] at hlb
  have hlt' : decide ((m : Int) ≤ (na : Int) - 1) = false := by simp; omega
  have RA := hid (irow_below ra ((Below.refl _ w).alloc (Nat.le_refl _) (.cells #[] 2)) (Nat.le_refl _))
  have own0 := hid (owns_empty w w.heap.size 2 1 (Nat.le_refl _))
  have hB0 : Hid (Below w.heap.size w (w.alloc (.cells #[] 2))) := (Below.refl _ w).alloc (Nat.le_refl _) _
  clear hna hm ha ra
  go_enter Try.func30, Try.ntmps30
  go_wp2_with (at_builtin; refine wpList_copy _ rfl _ _ 22 rfl w.heap.size 2 i0 Try.underlying22 hi hz0 hz1 hz2 w.heap.size rfl own0.out ao na ca a rfl HNA.out RA.out (by omega) (by simp) ?_; intro g cg w1 hown1 hgrow1 hg1; have hB1 : Hid (Below w.heap.size w w1) := hB0.out.trans (below_grown own0.out hgrow1 (Nat.le_refl _) (by simp)); have O1 := hid (own1_of hown1); clear hown1 hgrow1)
  have cT2 := hid (cT g cg _ w1 O1.out)
  have e1 : Hid (tr (mk na (co a)) = a) := by show _ = _; rw [HNA.out, mk_of]; exact hTr.out
  rw [e1.out, mk_length] at cT2
  clear e1 cT
  go_loopw [8] (fun i wr => i = .int .i64 ((na : Int) - 1) ∧ wr = w1) (fun i wr => 0)
  case atStart => exact ⟨rfl, rfl⟩
  case round =>
    obtain ⟨rfl, rfl⟩ := hrel
    go_wp2_with (go_at_call 43; refine cT2.out.mono ?_; rintro e w2 ⟨⟨bo2, cb2, rfl, hcb2, hrow2⟩, hw⟩; subst w2; have H2 := hid hrow2; clear hrow2)
    go_ret
    exact ⟨⟨[], a, hD.out, bo2, cb2, rfl, hcb2, H2.out⟩, hB1.out⟩

set_option maxRecDepth 100000 in
set_option maxHeartbeats 2000000 in
theorem refLeft_long (p : Nat) (hP : Pr p) (hp : p ≤ 251) (ao bo : Option Addr) (ca cb : Nat) (a b : List Int) (ha : Cn p a) (hb : Cn p b) (nb0 : b ≠ []) (hla : a.length ≤ 4096) (hge : b.length ≤ a.length) (w : World) (ra : IRow w ao a) (rb : IRow w bo b) :
    Calls Try.prog 30 #[.int .i64 (p : Int), .slice ao a.length ca, .slice bo b.length cb] w fun e w' => LeftR p a b e w' ∧ Below w.heap.size w w' := by
  obtain ⟨i0, hi, hz0, hz1, hz2⟩ := info_ex
  have hp1 : 1 ≤ p := by have := hP.1; omega
  have na0 : a ≠ [] := fun e => by rw [e] at hge; exact nb0 (List.length_eq_zero_iff.1 (by simpa using hge))
  have lb := pos_of_ne nb0
  obtain ⟨na, hna⟩ : ∃ na, na = a.length := ⟨_, rfl⟩
  obtain ⟨m, hm⟩ : ∃ m, b.length = m + 1 := ⟨b.length - 1, by omega⟩
  have HNA : Hid (na = a.length) := hna
  have HNB : Hid (b.length = m + 1) := hm
  rcases bo with _ | bd
  · exact (irow_none rb (j := m) (by have := HNB.out; omega)).elim
  obtain ⟨bm, hbm1⟩ : ∃ bm, bm = co b m := ⟨_, rfl⟩
  have HBM : Hid (co b m = bm) := hbm1.symm
  obtain ⟨n, hn⟩ : ∃ n, n + b.length = a.length + 1 := ⟨a.length + 1 - b.length, by omega⟩
  have HSt := hid (Dst.start hp1 ha (n := n) (by omega) nb0)
  have HNext : Hid (∀ i g f, i < n → Dst p a b n (i + 1) g f → ∀ c, c = f (i + m) * (iv p (co b m) : Int) % (p : Int) → Dst p a b n i (up1 g i c) (dvf p b c i f (m + 1))) := fun i g f hi' h c hc => by
    have := Dst.next hP ha hb na0 nb0 (by omega) hi' h (c := c) (by rw [hm, show i + (m + 1) - 1 = i + m by omega, Nat.add_sub_cancel]; exact hc)
    rwa [hm] at this
  have HDone := hid (fun g f (h : Dst p a b n 0 g f) => h.done hp1 nb0 (by omega))
  have hbm := hb.bd hp1 m
  have cI := fun w => refInv_any p hP.1 hp (co b m) w
  have HP := hid (iv_lt hp1 (co b m))
  have HB := hid hb
  have hp0 : ¬ (p : Int) = 0 := by omega
  have cT := fun (g cap : Nat) (f : Nat → Int) (w' : World) (h : Own1 w' w.heap.size g na cap f) => refTrimmed_any (some ⟨g, 0, none⟩) cap (mk na f) (by rw [mk_length]; omega) (by rw [mk_length]; exact h.cap_le) w' h.row
  have cAt := fun (g cap : Nat) (f : Nat → Int) (i : Nat) (hi : i < na) (w' : World) (h : Own1 w' w.heap.size g na cap f) => refAt_any (some ⟨g, 0, none⟩) cap (mk na f) i (by rw [mk_length]; omega) (by omega) w' h.row
  have cMod := fun (x : Int) w => refMod_at x p w hp1 (by omega)
  rw [← hna, hm]
  rw [← hna] at hla hn hge
  rw [hm] at hn hge
  have hn1 : 1 ≤ n := by omega
  have hn4 : n ≤ 4096 := by omega
  have hnm : (na : Int) - 1 = (n : Int) + (m : Int) - 1 := by omega
  have RA := hid (irow_below ra ((Below.refl _ w).alloc (Nat.le_refl _) (.cells #[] 2)) (Nat.le_refl _))
  have own0 := hid (owns_empty w w.heap.size 2 1 (Nat.le_refl _))
  have hB0 : Hid (Below w.heap.size w (w.alloc (.cells #[] 2))) := (Below.refl _ w).alloc (Nat.le_refl _) _
  clear hna ha hb ra lb hm na0 nb0
  rw [← hbm1] at hbm HNext HP
  simp only [← hbm1] at cI
  clear hbm1
  obtain ⟨v, hv⟩ : ∃ v, v = iv p bm := ⟨_, rfl⟩
  rw [← hv] at HNext HP
  simp only [← hv] at cI
  clear hv
  have hvp : v < p := HP.out
  go_enter Try.func30, Try.ntmps30
  go_wp2_with (at_builtin; refine wpList_copy _ rfl _ _ 22 rfl w.heap.size 2 i0 Try.underlying22 hi hz0 hz1 hz2 w.heap.size rfl own0.out ao na ca a rfl HNA.out RA.out (by omega) (by simp) ?_; intro g cg w1 hown1 hgrow1 hg1; have hB1 : Hid (Below w.heap.size w w1) := hB0.out.trans (below_grown own0.out hgrow1 (Nat.le_refl _) (by simp)); have O1 := hid (own1_of hown1); clear hown1 hgrow1)
  clear hg1 RA own0 hB0 hi hz0 hz1 hz2
  go_loopw [8] (fun i wr => ∃ (k : Nat) (gf f : Nat → Int), i = .int .i64 ((k : Int) + (m : Int) - 1) ∧ k ≤ n ∧ Hid (Dst p a b n k gf f) ∧ Hid (Own1 wr w.heap.size g na cg f) ∧ Hid (Below w.heap.size w wr)) (fun i wr => (intOf i + 1).toNat)
  case atStart => exact ⟨n, _, _, rfl, Nat.le_refl _, HSt, O1, hB1⟩
  case round =>
    obtain ⟨k, gf, f, rfl, hk, hS, hOr, hBr⟩ := hrel
    match k, hk, hS with
    | 0, hk, hS =>
      have ek : ((0 : Nat) : Int) + (m : Int) - 1 = (m : Int) - 1 := by omega
      rw [ek]
      have hst : decide ((m : Int) ≤ (m : Int) - 1) = false := by simp; omega
      have cT2 := hid (cT g cg _ wr hOr.out)
      rw [mk_length] at cT2
      have hDn := hid (HDone.out _ _ hS.out)
      rw [← HNA.out] at hDn
      clear cT cAt
      go_wp2_with (go_at_call 43; refine cT2.out.mono ?_; rintro e w2 ⟨⟨bo2, cb2, rfl, hcb2, hrow2⟩, hw⟩; subst w2; have H2 := hid hrow2; clear hrow2)
      go_ret
      exact ⟨⟨_, _, hDn.out, bo2, cb2, rfl, hcb2, H2.out⟩, hBr.out⟩
    | k + 1, hk, hS =>
      obtain ⟨t, ht⟩ : ∃ t, t = k + m := ⟨_, rfl⟩
      have ek : (((k + 1 : Nat) : Int) + (m : Int) - 1) = (t : Int) := by omega
      rw [ek]
      have hgo : (m : Int) ≤ (t : Int) := by omega
      have htn : t < na := by omega
      have cA1 := fun w' (h : Own1 w' w.heap.size g na cg f) => cAt g cg f t htn w' h
      simp only [co_mk, if_pos htn, mk_length] at cA1
      have hx := hid (hS.out.1 t)
      obtain ⟨x, hxe⟩ : ∃ x, x = f t := ⟨_, rfl⟩
      rw [← hxe] at hx
      simp only [← hxe] at cA1
      have hxb := hx.out
      have hmb := mul_bd hxb (show 0 ≤ (v : Int) ∧ (v : Int) < (p : Int) by omega) hp
      obtain ⟨c, hce⟩ : ∃ c, c = x * (v : Int) % (p : Int) := ⟨_, rfl⟩
      have hcb := mod_bd hp1 (x * (v : Int))
      rw [← hce] at hcb
      have hNx := hid (HNext.out k gf f (by omega) hS.out c (by rw [hce, hxe, ht]))
      have hfb := hid hS.out.1
      have hce' : x * (v : Int) % (p : Int) = c := hce.symm
      have c1 := (irow_below rb hBr.out (Nat.le_refl _)).2 bd rfl m (by have := HNB.out; omega)
      rw [HBM.out] at c1
      have cA2 := fun n => cA1 (wr.drewN n) (hOr.out.drewN n)
      have hmm : (m : Int) < (m : Int) + 1 := by omega
      have q0 : (t : Int) - ((m : Int) + 1) = (k : Int) - 1 := by omega
      have HT := hid ht
      have HQ := hid q0
      clear hS hxe hce hx cA1 ht ek q0
      go_wp2
      go_quiet (first | (go_at_call 42; exact Calls.quiet_of_same (cA2 _)) | (go_at_call 46; exact Calls.quiet_of_same (cI _)))
      go_wp2
      rw [hce']
      have hOr2 := hid (hOr.out.drewN nq)
      have hB2 := hid (below_drewN hBr.out nq)
      obtain ⟨wo, hwo⟩ : ∃ wo, wo = wr.drewN nq := ⟨_, rfl⟩
      rw [← hwo] at hOr2 hB2 ⊢
      clear hwo hmb hce' cA2 c1 hOr hBr
      go_loopw [10] (fun i wr => ∃ j : Nat, i = .int .i64 (j : Int) ∧ j ≤ m + 1 ∧ Hid (Own1 wr w.heap.size g na cg (dvf p b c k f j)) ∧ Hid (Below w.heap.size w wr)) (fun i wr => ((m : Int) + 1 - intOf i).toNat)
      case atStart => exact ⟨0, rfl, by omega, by rw [dvf_zero]; exact hOr2, hB2⟩
      case round =>
        obtain ⟨j, rfl, hj, hOr3, hB3⟩ := hrel
        by_cases hgj : j < m + 1
        · have hgj' : (j : Int) < (m : Int) + 1 := by omega
          have hgj2 : (k : Int) + (j : Int) < (na : Int) := by omega
          have hjl : Hid (j < b.length) := by have := HNB.out; show j < b.length; omega
          have e1 := (irow_below rb hB3.out (Nat.le_refl _)).2 bd rfl j hjl.out
          have e2 := hOr3.out.cell (show k + j < na by omega)
          rw [dvf_at] at e2
          have e3 := hOr3.out.frozen (k + j)
          have hy := HB.out.bd hp1 j
          have hz := hfb.out (k + j)
          have hsb := sub_bd hz hcb hy hp
          have hOr4 := hid ((hOr3.out.set (k + j) (rs (f (k + j) - c * co b j) p : Int)).congr (dvf_step p b c k f j))
          have hB4 := hid (below_set hB3.out hOr3.out.lt.1 (k + j) (.int .i64 (rs (f (k + j) - c * co b j) p : Int)))
          generalize f (k + j) = z at *
          generalize co b j = y at *
          have cL2 := fun w => cMod (z - c * y) w
          have hmm := mul_bd hcb hy hp
          have q0 : IntKind.i64.wrap ((t : Int) - ((m : Int) + 1)) = (k : Int) - 1 := by rw [HQ.out]; exact wrap_in _ (by omega) (by omega)
          have q01 : IntKind.i64.wrap ((k : Int) - 1 + 1) = (k : Int) := by rw [show (k : Int) - 1 + 1 = (k : Int) by omega]; exact wrap_in _ (by omega) (by omega)
          have q02 : IntKind.i64.wrap (k : Int) = (k : Int) := wrap_in _ (by omega) (by omega)
          have q1 : IntKind.i64.wrap ((k : Int) + (j : Int)) = (k : Int) + (j : Int) := wrap_in _ (by omega) (by omega)
          have q2 : IntKind.i64.wrap (c * y) = c * y := wrap_in _ (by omega) (by omega)
          have q3 : IntKind.i64.wrap (z - c * y) = z - c * y := wrap_in _ (by omega) (by omega)
          have q4 : (0 : Int) ≤ (k : Int) + (j : Int) := by omega
          have q5 : ((k : Int) + (j : Int)).toNat = k + j := by omega
          have q6 : (0 : Int) ≤ (k : Int) := by omega
          clear hgo
          go_wp2
          go_region_with (go_at_call 47; refine (cL2 _).mono ?_; rintro e w' ⟨rfl, rfl⟩)
          all_goals
            go_wp2
            go_roundw
            case rel => exact ⟨j + 1, by simp, by omega, hOr4, hB4.out.drew⟩
            case measure => exact measK1 hgj
        · have hgj' : ¬ (j : Int) < (m : Int) + 1 := by omega
          obtain rfl : j = m + 1 := by omega
          go_wp2
          go_roundw
          case rel => exact ⟨k, _, _, by rw [HT.out]; simp, by omega, hNx, hOr3, hB3⟩
          case measure => show ((t : Int) - 1 + 1).toNat < ((t : Int) + 1).toNat; omega

end Go.Proofs.Ytjpmkcijkcnfiaa.Calls64
