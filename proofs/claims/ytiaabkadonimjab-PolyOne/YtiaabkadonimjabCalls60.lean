/-
  Package poly: quotient and rest.
-/
import Derived.Test.YtiaabkadonimjabCalls59
import Derived.Deep.RegionWith
namespace Go.Proofs.Ytiaabkadonimjab.Calls60
set_option linter.unusedVariables false
open Go.ChangeShapes Go.WideShapes Go.ChangeAt Go.RowKit Go.Deep Go.Proofs.Ytiaabkadonimjab.Base Go.Proofs.Ytiaabkadonimjab.Base2 Go.Proofs.Ytiaabkadonimjab.Num Go.Proofs.Ytiaabkadonimjab.Num13 Go.Proofs.Ytiaabkadonimjab.Num16 Go.Proofs.Ytiaabkadonimjab.Num17 Go.Proofs.Ytiaabkadonimjab.Num34 Go.Proofs.Ytiaabkadonimjab.Base4 Go.Proofs.Ytiaabkadonimjab.Calls56 Go.Proofs.Ytiaabkadonimjab.Calls57 Go.Proofs.Ytiaabkadonimjab.Calls58 Go.Proofs.Ytiaabkadonimjab.Calls59

/-- The call has returned quotient and rest. -/
def RetD (q r : List Int) (e : Ending) (w' : World) : Prop := ∃ bo cb co' cc, e = .returned (.tuple #[.slice bo q.length cb, .slice co' r.length cc]) ∧ q.length ≤ cb ∧ IRow w' bo q ∧ r.length ≤ cc ∧ IRow w' co' r

def DivRet (p : Nat) (a b : List Int) (e : Ending) (w' : World) : Prop := ∃ q r, DivIs p a b q r ∧ RetD q r e w'

theorem wrap_in (x : Int) (h1 : -9223372036854775808 ≤ x) (h2 : x ≤ 9223372036854775807) : IntKind.i64.wrap x = x := by
  rw [IntKind.wrap_i64]; omega

theorem measK1 {j m : Nat} (h : j < m + 1) : ((m : Int) + 1 - ((j : Int) + 1)).toNat < ((m : Int) + 1 - (j : Int)).toNat := by omega

theorem measD (k : Nat) : ((k : Int) - 1 + 1).toNat < ((k : Int) + 1).toNat := by omega

theorem sub_bd {x c y : Int} {p : Nat} (hx : 0 ≤ x ∧ x < (p : Int)) (hc : 0 ≤ c ∧ c < (p : Int)) (hy : 0 ≤ y ∧ y < (p : Int)) (hp : p ≤ 251) : -63001 ≤ x - c * y ∧ x - c * y ≤ 251 := by
  have := mul_bd hc hy hp
  omega

set_option maxRecDepth 100000 in
theorem divide_short (p : Nat) (hp1 : 1 ≤ p) (ao bo : Option Addr) (ca cb : Nat) (a b : List Int) (ha : Cn p a) (hla : a.length ≤ 4096) (hlb : b.length ≤ 4096) (hlt : a.length < b.length) (w : World) (ra : IRow w ao a) :
    Calls Try.prog 38 #[.int .i64 (p : Int), .slice ao a.length ca, .slice bo b.length cb] w fun e w' => DivRet p a b e w' ∧ Below w.heap.size w w' := by
  obtain ⟨i0, hi, hz0, hz1, hz2⟩ := info_ex
  obtain ⟨na, hna⟩ : ∃ na, na = a.length := ⟨_, rfl⟩
  have HNA : Hid (na = a.length) := hna
  have hD := hid (DivIs.short ha hlt)
  obtain ⟨nb, hnb⟩ : ∃ nb, nb = b.length := ⟨_, rfl⟩
  rw [← hna, ← hnb]
  rw [← hna, ← hnb] at hlt
  rw [← hna] at hla
  rw [← hnb] at hlb
  have hlt' : (na : Int) < (nb : Int) := by omega
  have RA := hid (irow_below ra ((Below.refl _ w).alloc (Nat.le_refl _) (.cells #[] 2)) (Nat.le_refl _))
  have own0 := hid (owns_empty w w.heap.size 2 1 (Nat.le_refl _))
  have hB0 : Hid (Below w.heap.size w (w.alloc (.cells #[] 2))) := (Below.refl _ w).alloc (Nat.le_refl _) _
  clear hna hnb ha ra
  go_enter Try.func38, Try.ntmps38
  go_wp2_with (at_builtin; refine wpList_copy _ rfl _ _ 23 rfl w.heap.size 2 i0 Try.underlying23 hi hz0 hz1 hz2 w.heap.size rfl own0.out ao na ca a rfl HNA.out RA.out (by omega) (by simp) ?_; intro g cg w1 hown1 hgrow1 hg1; have hB1 : Hid (Below w.heap.size w w1) := hB0.out.trans (below_grown own0.out hgrow1 (Nat.le_refl _) (by simp)); have O1 := hid (own1_of hown1); clear hown1 hgrow1)
  go_ret2
  refine ⟨⟨[], a, hD.out, none, 0, some ⟨g, 0, none⟩, cg, ?_, by simp, irow_nil _ _, by rw [← HNA.out]; exact O1.out.cap_le, ?_⟩, hB1.out⟩
  · rw [← HNA.out]; rfl
  · have := O1.out.row
    rw [HNA.out, mk_of] at this
    exact this

set_option maxRecDepth 100000 in
set_option maxHeartbeats 2000000 in
theorem divide_long (p : Nat) (hP : Pr p) (hp : p ≤ 251) (ao bo : Option Addr) (ca cb : Nat) (a b : List Int) (ha : Cn p a) (hb : Cn p b) (nb0 : b ≠ []) (hla : a.length ≤ 4096) (hge : b.length ≤ a.length) (w : World) (ra : IRow w ao a) (rb : IRow w bo b) :
    Calls Try.prog 38 #[.int .i64 (p : Int), .slice ao a.length ca, .slice bo b.length cb] w fun e w' => DivRet p a b e w' ∧ Below w.heap.size w w' := by
  obtain ⟨i0, hi, hz0, hz1, hz2⟩ := info_ex
  have hp1 : 1 ≤ p := by have := hP.1; omega
  have na0 : a ≠ [] := fun e => by rw [e] at hge; exact nb0 (List.length_eq_zero_iff.1 (by simpa using hge))
  have lb := pos_of_ne nb0
  obtain ⟨na, hna⟩ : ∃ na, na = a.length := ⟨_, rfl⟩
  obtain ⟨m, hm⟩ : ∃ m, b.length = m + 1 := ⟨b.length - 1, by omega⟩
  have HNA : Hid (na = a.length) := hna
  have HNB : Hid (b.length = m + 1) := hm
  obtain ⟨n, hn⟩ : ∃ n, n + b.length = a.length + 1 := ⟨a.length + 1 - b.length, by omega⟩
  have HSt := hid (Dst.start hp1 ha (n := n) (by omega) nb0)
  have HNext : Hid (∀ i g f, i < n → Dst p a b n (i + 1) g f → ∀ c, c = f (i + m) * (iv p (co b m) : Int) % (p : Int) → Dst p a b n i (up1 g i c) (dvf p b c i f (m + 1))) := fun i g f hi' h c hc => by
    have := Dst.next hP ha hb na0 nb0 (by omega) hi' h (c := c) (by rw [hm, show i + (m + 1) - 1 = i + m by omega, Nat.add_sub_cancel]; exact hc)
    rwa [hm] at this
  have HDone := hid (fun g f (h : Dst p a b n 0 g f) => h.done hp1 nb0 (by omega))
  have hbm := hb.bd hp1 m
  have hbm0 : co b m ≠ 0 := by have := hb.2 nb0; rwa [hm, Nat.add_sub_cancel] at this
  have cL := fun w' (hB : Below w.heap.size w w') => last_row bo cb m b (by omega) (by omega) w' (irow_below rb hB (Nat.le_refl _))
  have cI := fun w => inverse_any p hP (by omega) (co b m) hbm hbm0 w
  have HP := hid (iv_lt hp1 (co b m))
  have HB := hid hb
  have hp0 : ¬ (p : Int) = 0 := by omega
  have cT := fun (g cap : Nat) (f : Nat → Int) (w' : World) (h : Own1 w' w.heap.size g na cap f) => trim_any (some ⟨g, 0, none⟩) cap (mk na f) (by rw [mk_length]; omega) (by rw [mk_length]; exact h.cap_le) w' h.row
  have cLeft := fun (x : Int) w => left_any x p hp1 (by omega) w
  rw [← hna, hm]
  rw [← hna] at hla hn hge
  rw [hm] at hn hge
  have hn' : (na : Int) - ((m : Int) + 1) + 1 = (n : Int) := by omega
  have hn1 : 1 ≤ n := by omega
  have hn4 : n ≤ 4096 := by omega
  have hge' : decide ((na : Int) < (m : Int) + 1) = false := by simp; omega
  have RA := hid (irow_below ra ((Below.refl _ w).alloc (Nat.le_refl _) (.cells #[] 2)) (Nat.le_refl _))
  have own0 := hid (owns_empty w w.heap.size 2 1 (Nat.le_refl _))
  have hB0 : Hid (Below w.heap.size w (w.alloc (.cells #[] 2))) := (Below.refl _ w).alloc (Nat.le_refl _) _
  clear hna ha hb ra lb hm na0 nb0
  generalize co b m = bm at *
  obtain ⟨v, hv⟩ : ∃ v, v = iv p bm := ⟨_, rfl⟩
  rw [← hv] at HNext cI HP
  clear hv hbm hbm0
  have hvp : v < p := HP.out
  go_enter Try.func38, Try.ntmps38
  go_wp2_with (first
    | (at_builtin; refine wpList_copy _ rfl _ _ 23 rfl w.heap.size 2 i0 Try.underlying23 hi hz0 hz1 hz2 w.heap.size rfl own0.out ao na ca a rfl HNA.out RA.out (by omega) (by simp) ?_; intro g cg w1 hown1 hgrow1 hg1; have hB1 : Hid (Below w.heap.size w w1) := hB0.out.trans (below_grown own0.out hgrow1 (Nat.le_refl _) (by simp)); have O1 := hid (own1_of hown1); clear hown1 hgrow1)
    | (at_make; refine wpList_make_full _ rfl _ _ 23 rfl w.heap.size 2 i0 (.int .i64 0) 1 Try.underlying23 hi hz0 hz1 .i64 .i64 (n : Int) (n : Int) n rfl rfl rfl rfl (by rw [hz2]; omega) (by unfold maxLen; omega) hB1.out.size ?_; intro w2 hown2 hgrow2; have hB2 : Hid (Below w1.heap.size w1 w2) := (Below.refl _ w1).grown hgrow2 (Nat.le_refl _) (fun j e => by cases e); have O2 := hid (own1_made hown2); have hB12 := hid (below_trans hB1.out hB2.out); clear hown2 hgrow2)
    | (go_at_call 39; refine (cL _ hB12.out).mono ?_; rintro e w' ⟨rfl, hw⟩; subst w')
    | (go_at_call 29; refine (cI _).mono ?_; rintro e w3 ⟨rfl, hB3⟩))
  have O3 := hid ((O1.out.below hB2.out).below hB3)
  have O4 := hid (O2.out.below hB3)
  have hB13 := hid (below_trans hB12.out hB3)
  obtain ⟨gq, hgq⟩ : ∃ gq, gq = w1.heap.size := ⟨_, rfl⟩
  rw [← hgq] at O4 ⊢
  have hne : gq ≠ g := by omega
  clear hgq hg1 O1 O2 hB1 hB2 hB12 hB3 RA own0 hB0 hi hz0 hz1 hz2 cL cI
  go_loopw [11] (fun i wr => ∃ (k : Nat) (gf f : Nat → Int), i = .int .i64 ((k : Int) - 1) ∧ k ≤ n ∧ Hid (Dst p a b n k gf f) ∧ Hid (Own1 wr w.heap.size gq n n gf) ∧ Hid (Own1 wr w.heap.size g na cg f) ∧ Hid (Below w.heap.size w wr)) (fun i wr => (intOf i + 1).toNat)
  case atStart => exact ⟨n, _, _, by simp, Nat.le_refl _, HSt, O4, O3, hB13⟩
  case round =>
    obtain ⟨k, gf, f, rfl, hk, hS, hOq, hOr, hBr⟩ := hrel
    match k, hk, hS with
    | 0, hk, hS =>
      have cT2 := hid (cT g cg _ wr hOr.out)
      rw [mk_length] at cT2
      have hDn := hid (HDone.out _ _ hS.out)
      rw [← HNA.out] at hDn
      clear cT
      go_wp2_with (go_at_call 49; refine cT2.out.mono ?_; rintro e w2 ⟨⟨bo2, cb2, rfl, hcb2, hrow2⟩, hw⟩; subst w2; have H2 := hid hrow2; clear hrow2)
      go_ret2
      exact ⟨⟨_, _, hDn.out, some ⟨gq, 0, none⟩, n, bo2, cb2, by rw [mk_length]; rfl, by rw [mk_length]; exact Nat.le_refl _, hOq.out.row, hcb2, H2.out⟩, hBr.out⟩
    | k + 1, hk, hS =>
      have ek : (((k + 1 : Nat) : Int) - 1) = (k : Int) := by omega
      rw [ek]
      have hk' : (k : Int) < (n : Int) := by omega
      obtain ⟨t, ht⟩ : ∃ t, t = k + m := ⟨_, rfl⟩
      have hkm : (k : Int) + ((m : Int) + 1) - 1 = (t : Int) := by omega
      have hkm2 : (t : Int) < (na : Int) := by omega
      have d1 := hOr.out.cell (show t < na by omega)
      have d2 := hOq.out.cell (show k < n by omega)
      have d3 := hOq.out.frozen k
      have hx := hid (hS.out.1 t)
      obtain ⟨x, hxe⟩ : ∃ x, x = f t := ⟨_, rfl⟩
      rw [← hxe] at d1 hx
      have hxb := hx.out
      have hmb := mul_bd hxb (show 0 ≤ (v : Int) ∧ (v : Int) < (p : Int) by omega) hp
      obtain ⟨c, hce⟩ : ∃ c, c = x * (v : Int) % (p : Int) := ⟨_, rfl⟩
      have hcb := mod_bd hp1 (x * (v : Int))
      rw [← hce] at hcb
      have hNx := hid (HNext.out k gf f (by omega) hS.out c (by rw [hce, hxe, ht]))
      have hfb := hid hS.out.1
      have hOq2 := hid (hOq.out.set k c)
      have hOr2 := hid (hOr.out.other hne.symm k (.int .i64 c))
      have hB2 := hid (below_set hBr.out hOq.out.lt.1 k (.int .i64 c))
      have hce' : x * (v : Int) % (p : Int) = c := hce.symm
      clear hS hOq hOr hxe hce hx ht
      go_wp2
      obtain ⟨wo, hwo⟩ : ∃ wo, wo = wr.setCell ⟨gq, k, none⟩ (.int .i64 c) := ⟨_, rfl⟩
      rw [← hwo] at hOq2 hOr2 hB2 ⊢
      clear hwo hmb hce'
      go_loopw [58] (fun i wr => ∃ j : Nat, i = .int .i64 (j : Int) ∧ j ≤ m + 1 ∧ Hid (Own1 wr w.heap.size gq n n (up1 gf k c)) ∧ Hid (Own1 wr w.heap.size g na cg (dvf p b c k f j)) ∧ Hid (Below w.heap.size w wr)) (fun i wr => ((m : Int) + 1 - intOf i).toNat)
      case atStart => exact ⟨0, rfl, by omega, hOq2, by rw [dvf_zero]; exact hOr2, hB2⟩
      case round =>
        obtain ⟨j, rfl, hj, hOq3, hOr3, hB3⟩ := hrel
        by_cases hgj : j < m + 1
        · have hgj' : (j : Int) < (m : Int) + 1 := by omega
          have hgj2 : (k : Int) + (j : Int) < (na : Int) := by omega
          have hjl : Hid (j < b.length) := by have := HNB.out; show j < b.length; omega
          rcases bo with _ | bd
          · exact (irow_none rb hjl.out).elim
          · have e1 := (irow_below rb hB3.out (Nat.le_refl _)).2 bd rfl j hjl.out
            have e2 := hOr3.out.cell (show k + j < na by omega)
            rw [dvf_at] at e2
            have e3 := hOr3.out.frozen (k + j)
            have e4 := hOq3.out.cell (show k < n by omega)
            rw [up1_self] at e4
            have hy := HB.out.bd hp1 j
            have hz := hfb.out (k + j)
            have hsb := sub_bd hz hcb hy hp
            have hOr4 := hid ((hOr3.out.set (k + j) (rs (f (k + j) - c * co b j) p : Int)).congr (dvf_step p b c k f j))
            have hOq4 := hid (hOq3.out.other hne (k + j) (.int .i64 (rs (f (k + j) - c * co b j) p : Int)))
            have hB4 := hid (below_set hB3.out hOr3.out.lt.1 (k + j) (.int .i64 (rs (f (k + j) - c * co b j) p : Int)))
            generalize f (k + j) = z at *
            generalize co b j = y at *
            have cL2 := fun w => cLeft (z - c * y) w
            have hmm := mul_bd hcb hy hp
            have q1 : IntKind.i64.wrap ((k : Int) + (j : Int)) = (k : Int) + (j : Int) := wrap_in _ (by omega) (by omega)
            have q2 : IntKind.i64.wrap (c * y) = c * y := wrap_in _ (by omega) (by omega)
            have q3 : IntKind.i64.wrap (z - c * y) = z - c * y := wrap_in _ (by omega) (by omega)
            have q4 : (0 : Int) ≤ (k : Int) + (j : Int) := by omega
            have q5 : ((k : Int) + (j : Int)).toNat = k + j := by omega
            have q6 : (0 : Int) ≤ (k : Int) := by omega
            go_wp2
            go_region_with (go_at_call 25; refine (cL2 _).mono ?_; rintro e w' ⟨rfl, rfl⟩)
            · go_wp2
              go_roundw
              case rel => exact ⟨j + 1, by simp, by omega, hOq4, hOr4, hB4.out.drew⟩
              case measure => exact measK1 hgj
            · go_wp2
              go_roundw
              case rel => exact ⟨j + 1, by simp, by omega, hOq4, hOr4, hB4.out.drew⟩
              case measure => exact measK1 hgj
        · have hgj' : ¬ (j : Int) < (m : Int) + 1 := by omega
          obtain rfl : j = m + 1 := by omega
          go_wp2
          go_roundw
          case rel => exact ⟨k, _, _, by simp, by omega, hNx, hOq3, hOr3, hB3⟩
          case measure => exact measD k

theorem divide_any (p : Nat) (hP : Pr p) (hp : p ≤ 251) (ao bo : Option Addr) (ca cb : Nat) (a b : List Int) (ha : Cn p a) (hb : Cn p b) (nb0 : b ≠ []) (hla : a.length ≤ 4096) (hlb : b.length ≤ 4096) (w : World) (ra : IRow w ao a) (rb : IRow w bo b) :
    Calls Try.prog 38 #[.int .i64 (p : Int), .slice ao a.length ca, .slice bo b.length cb] w fun e w' => DivRet p a b e w' ∧ Below w.heap.size w w' := by
  by_cases h : a.length < b.length
  · exact divide_short p (by have := hP.1; omega) ao bo ca cb a b ha hla hlb h w ra
  · exact divide_long p hP hp ao bo ca cb a b ha hb nb0 hla (by omega) w ra rb

end Go.Proofs.Ytiaabkadonimjab.Calls60
