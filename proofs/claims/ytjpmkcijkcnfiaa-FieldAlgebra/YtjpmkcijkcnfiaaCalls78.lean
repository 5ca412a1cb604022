/-
  Package field: what is left, by a polynomial that ends with 1.
-/
import Derived.Test.YtjpmkcijkcnfiaaCalls77
import Derived.Test.YtjpmkcijkcnfiaaCalls60
import Derived.Deep.RegionHeld3
import Derived.Deep.RegionWith
namespace Go.Proofs.Ytjpmkcijkcnfiaa.Calls78
set_option linter.unusedVariables false
open Go.ChangeShapes Go.WideShapes Go.ChangeAt Go.RowKit Go.Deep Go.Proofs.Ytjpmkcijkcnfiaa.Base Go.Proofs.Ytjpmkcijkcnfiaa.Base2 Go.Proofs.Ytjpmkcijkcnfiaa.Num Go.Proofs.Ytjpmkcijkcnfiaa.Num16 Go.Proofs.Ytjpmkcijkcnfiaa.Num17 Go.Proofs.Ytjpmkcijkcnfiaa.Num21 Go.Proofs.Ytjpmkcijkcnfiaa.Num23 Go.Proofs.Ytjpmkcijkcnfiaa.Num34 Go.Proofs.Ytjpmkcijkcnfiaa.Num35 Go.Proofs.Ytjpmkcijkcnfiaa.Num36 Go.Proofs.Ytjpmkcijkcnfiaa.Num37 Go.Proofs.Ytjpmkcijkcnfiaa.Num38 Go.Proofs.Ytjpmkcijkcnfiaa.Base4 Go.Proofs.Ytjpmkcijkcnfiaa.Calls56 Go.Proofs.Ytjpmkcijkcnfiaa.Calls57 Go.Proofs.Ytjpmkcijkcnfiaa.Calls58 Go.Proofs.Ytjpmkcijkcnfiaa.Calls61 Go.Proofs.Ytjpmkcijkcnfiaa.Calls75 Go.Proofs.Ytjpmkcijkcnfiaa.Calls77
open Go.Proofs.Ytjpmkcijkcnfiaa.Num13 (rs rs_cast)
open Go.Proofs.Ytjpmkcijkcnfiaa.Calls60 (wrap_in measK1)

/-- The call has returned what is left, with zeros at its end, if there are some. -/
def RestR (p : Nat) (a b : List Int) (e : Ending) (w' : World) : Prop := ∃ q l, DivIs p a b q (tr l) ∧ Bd p l ∧ l.length < b.length ∧ RetL l e w'

theorem sub_bd2 {z c y : Int} {p : Nat} (hz : 0 ≤ z ∧ z < (p : Int)) (hc : 0 ≤ c ∧ c < (p : Int)) (hy : 0 ≤ y ∧ y < (p : Int)) (hp : p ≤ 251) : 0 ≤ ((p : Int) - c) * y ∧ ((p : Int) - c) * y ≤ 63001 := by
  refine ⟨Int.mul_nonneg (by omega) hy.1, ?_⟩
  have := Int.mul_le_mul (a := (p : Int) - c) (b := y) (c := 251) (d := 251) (by omega) (by omega) hy.1 (by omega)
  omega

set_option maxRecDepth 100000 in
theorem rest_short (p : Nat) (fo : Option Addr) (n0 cf S : Nat) (ao bo : Option Addr) (ca cb : Nat) (a b : List Int) (ha : Cn p a) (hla : a.length ≤ 4096) (hlb : b.length ≤ 4096) (hlt : a.length < b.length) (w : World) (ra : IRow w ao a) :
    Calls Try.prog 45 #[.agg #[.int .i64 (p : Int), .slice fo n0 cf, .int .i64 (S : Int)], .slice ao a.length ca, .slice bo b.length cb] w fun e w' => RestR p a b e w' ∧ Below w.heap.size w w' := by
  have hBw : Hid (Below w.heap.size w (w.alloc (fx p fo n0 cf S))) := (Below.refl _ w).alloc (Nat.le_refl _) _
  have cC := Clone_any ao ca a hla _ (irow_below ra hBw.out (Nat.le_refl _))
  have hD : Hid (DivIs p a b [] (tr a) ∧ Bd p a ∧ a.length < b.length) := ⟨by rw [tr_last_ne a ha.2]; exact DivIs.short ha hlt, ha.1, hlt⟩
  unfold RestR RetL
  unfold RetL at cC
  have hlt' : decide ((b.length : Int) ≤ (a.length : Int)) = false := by simp; omega
  obtain ⟨na, hna⟩ : ∃ na, na = a.length := ⟨_, rfl⟩
  obtain ⟨nb, hnb⟩ : ∃ nb, nb = b.length := ⟨_, rfl⟩
  rw [← hna, ← hnb] at hlt hlt'
  rw [← hna] at cC
  have HNA : Hid (na = a.length) := hna
  have HNB : Hid (nb = b.length) := hnb
  rw [← hna, ← hnb]
  clear hna hnb ha ra hla hlb
  go_enter Try.func45, Try.ntmps45
  go_wp2_with (go_at_call 60; refine cC.mono ?_; rintro e w1 ⟨⟨o1, c1, rfl, hc1, hr1⟩, hB1⟩; have H1 := hid hr1; have HB1 := hid hB1; clear hr1 hB1)
  go_loopw [7] (fun v wr => v = .slice o1 na c1 ∧ wr = w1) (fun v wr => 0)
  case atStart => exact ⟨rfl, rfl⟩
  case round =>
    obtain ⟨rfl, rfl⟩ := hrel
    go_wp2
    go_ret
    exact ⟨⟨[], a, hD.out.1, hD.out.2.1, by rw [HNB.out]; exact hD.out.2.2, o1, c1, by rw [← HNA.out]; rfl, by rw [← HNA.out]; exact hc1, H1.out⟩, below_trans hBw.out HB1.out⟩

set_option maxRecDepth 100000 in
set_option maxHeartbeats 2000000 in
theorem rest_long (p : Nat) (hP : Pr p) (hp : p ≤ 251) (fo : Option Addr) (n0 cf S : Nat) (ao bo : Option Addr) (ca cb : Nat) (a b : List Int) (ha : Cn p a) (hb : Cn p b) (hb1 : co b (b.length - 1) = 1) (nb0 : b ≠ []) (hla : a.length ≤ 4096) (hge : b.length ≤ a.length) (w : World) (ra : IRow w ao a) (rb : IRow w bo b) :
    Calls Try.prog 45 #[.agg #[.int .i64 (p : Int), .slice fo n0 cf, .int .i64 (S : Int)], .slice ao a.length ca, .slice bo b.length cb] w fun e w' => RestR p a b e w' ∧ Below w.heap.size w w' := by
  have hp1 : 1 ≤ p := by have := hP.1; omega
  have na0 : a ≠ [] := fun e => by rw [e] at hge; exact nb0 (List.length_eq_zero_iff.1 (by simpa using hge))
  have lb := pos_of_ne nb0
  have hBw : Hid (Below w.heap.size w (w.alloc (fx p fo n0 cf S))) := (Below.refl _ w).alloc (Nat.le_refl _) _
  have hX0 := hid (Bf.new w p fo n0 cf S)
  rcases ao with _ | ad
  · exact absurd (ra.1 rfl) na0
  have cC := Clone_some ad ca a hla _ (irow_below ra hBw.out (Nat.le_refl _))
  unfold CopyR at cC
  obtain ⟨na, hna⟩ : ∃ na, na = a.length := ⟨_, rfl⟩
  obtain ⟨m, hm⟩ : ∃ m, b.length = m + 1 := ⟨b.length - 1, by omega⟩
  have HNA : Hid (na = a.length) := hna
  have HNB : Hid (b.length = m + 1) := hm
  rcases bo with _ | bd
  · exact (irow_none rb (j := m) (by omega)).elim
  have RB := hid (irow_below rb hBw.out (Nat.le_refl _))
  obtain ⟨n, hn⟩ : ∃ n, n + b.length = a.length + 1 := ⟨a.length + 1 - b.length, by omega⟩
  rw [hm, Nat.add_sub_cancel] at hb1
  have HSt := hid (Dst.start hp1 ha (n := n) (by omega) nb0)
  have HNext : Hid (∀ i g f, i < n → Dst p a b n (i + 1) g f → Dst p a b n i (up1 g i (f (i + m))) (dvf p b (f (i + m)) i f (m + 1))) := fun i g f hi' h => by
    have := Dst.next hP ha hb na0 nb0 (by omega) hi' h (c := f (i + m)) (by rw [hm, show i + (m + 1) - 1 = i + m by omega, Nat.add_sub_cancel, hb1, iv_one hP]; exact mul_one_mod (h.1 _))
    rwa [hm] at this
  have HDone : Hid (∀ g f, Dst p a b n 0 g f → DivIs p a b (mk n g) (tr (mk m f)) ∧ Bd p (mk m f)) := fun g f h => by
    have h1 := h.done hp1 nb0 (by omega)
    rw [tr_cut (m := m) (n := a.length) (by omega) (fun i h1 h2 => h.2.2.2.1 i (by omega))] at h1
    exact ⟨h1, Bd.mk fun i _ => h.1 i⟩
  have HB := hid hb
  have hp0 : ¬ (p : Int) = 0 := by omega
  unfold RestR RetL
  rw [← hna, hm]
  rw [← hna] at hla hn hge cC
  rw [hm] at hn hge
  have hn1 : 1 ≤ n := by omega
  have hn4 : n ≤ 4096 := by omega
  have hnm : na = n + m := by omega
  clear hna ha hb ra rb lb hm na0 nb0 hb1
  subst hnm
  go_enter Try.func45, Try.ntmps45
  go_wp2_with (go_at_call 60; refine cC.mono ?_; rintro e w1 ⟨⟨g, cg, rfl, hO1⟩, hB1⟩; have O1 := hid hO1; have HB1 := hid hB1; clear hO1 hB1)
  obtain ⟨W0, hW0⟩ : ∃ W0, w.alloc (fx p fo n0 cf S) = W0 := ⟨_, rfl⟩
  rw [hW0] at hX0 hBw O1 HB1 RB
  clear hW0 cC
  have hlt : w.heap.size < W0.heap.size := BoxC.lt hX0.out
  have hcg := O1.out.cap_le
  go_loopw [7] (fun v wr => ∃ (k : Nat) (gf f : Nat → Int), v = .slice (some ⟨g, 0, none⟩) (k + m) cg ∧ k ≤ n ∧ Hid (Dst p a b n k gf f) ∧ Hid (Own1 wr W0.heap.size g (n + m) cg f) ∧ Hid (Below W0.heap.size W0 wr)) (fun v wr => slen v)
  case atStart => exact ⟨n, _, _, rfl, Nat.le_refl _, HSt, O1, HB1⟩
  case round =>
    obtain ⟨k, gf, f, rfl, hk, hS, hOr, hBr⟩ := hrel
    match k, hk, hS with
    | 0, hk, hS =>
      rw [Nat.zero_add]
      have hst : decide ((m : Int) + 1 ≤ (m : Int)) = false := by simp; omega
      have hDn := hid (HDone.out _ _ hS.out)
      have hRow : Hid (IRow wr (some ⟨g, 0, none⟩) (mk m f)) := by
        have h1 := irow_take hOr.out.row m
        have e : (mk (n + m) f).take m = mk m f := by
          unfold mk
          rw [← List.map_take, List.take_range, Nat.min_eq_left (by omega)]
        rw [e] at h1
        exact h1
      go_wp2
      go_ret
      exact ⟨⟨mk n gf, mk m f, hDn.out.1, hDn.out.2, by rw [mk_length]; omega, _, cg, by rw [mk_length]; rfl, by rw [mk_length]; omega, hRow.out⟩, below_trans hBw.out hBr.out⟩
    | k + 1, hk, hS =>
      obtain ⟨t, ht⟩ : ∃ t, t = k + 1 + m := ⟨_, rfl⟩
      rw [← ht]
      have hgo : (m : Int) + 1 ≤ (t : Int) := by omega
      have q0 : (t : Int) - ((m : Int) + 1) = (k : Int) := by omega
      have q1 : t - k = m + 1 := by omega
      have q2 : ¬ cg = k := by omega
      have q3 : k ≤ t := by omega
      have q4 : t ≤ cg := by omega
      have q5 : (k : Int) ≤ (t : Int) := by omega
      have q6 : (t : Int) ≤ (cg : Int) := by omega
      have q7 : t ≤ 9223372036854775807 := by omega
      have q8 : t - (m + 1) = k := by omega
      have q9 : (m : Int) < (m : Int) + 1 := by omega
      have htn : Hid (k + m < n + m) := by show _ < _; omega
      have HT := hid ht
      have x1 := hOr.out.cell htn.out
      have hxb := hS.out.1 (k + m)
      have hNx := hid (HNext.out k gf f (by omega) hS.out)
      have hfb := hid hS.out.1
      obtain ⟨c, hce⟩ : ∃ c, c = f (k + m) := ⟨_, rfl⟩
      rw [← hce] at x1 hxb hNx
      clear hS ht hce
      go_wp2
      clear x1
      go_loopw [34] (fun i wr => ∃ j : Nat, i = .int .i64 (j : Int) ∧ j ≤ m + 1 ∧ Hid (Own1 wr W0.heap.size g (n + m) cg (dvf p b c k f j)) ∧ Hid (Below W0.heap.size W0 wr)) (fun i wr => ((m : Int) + 1 - intOf i).toNat)
      case atStart => exact ⟨0, rfl, by omega, by rw [dvf_zero]; exact hOr, hBr⟩
      case round =>
        obtain ⟨j, rfl, hj, hOr3, hB3⟩ := hrel
        by_cases hgj : j < m + 1
        · have hgj' : (j : Int) < (m : Int) + 1 := by omega
          have hkj : Hid (k + j < n + m) := by show _ < _; have := htn.out; omega
          have hjl : Hid (j < b.length) := by have := HNB.out; show j < b.length; omega
          have e1 := (irow_below RB.out hB3.out (Nat.le_refl _)).2 bd rfl j hjl.out
          have e2 := hOr3.out.cell hkj.out
          rw [dvf_at] at e2
          have e3 := hOr3.out.frozen (k + j)
          have e4 := (hX0.out.below hB3.out hlt).c0
          have hy := HB.out.bd hp1 j
          have hz := hfb.out (k + j)
          have hOr4 := hid ((hOr3.out.set (k + j) (rs (f (k + j) - c * co b j) p : Int)).congr (dvf_step p b c k f j))
          have hB4 := hid (below_set hB3.out hOr3.out.lt.1 (k + j) (.int .i64 (rs (f (k + j) - c * co b j) p : Int)))
          have hSA := sub_as_add (p := p) hp1 (f (k + j)) c (co b j)
          rw [← hSA] at hOr4 hB4
          clear hSA
          generalize f (k + j) = z at *
          generalize co b j = y at *
          have hmm := sub_bd2 hz hxb hy hp
          have r1 : IntKind.i64.wrap ((p : Int) - c) = (p : Int) - c := wrap_in _ (by omega) (by omega)
          have r2 : IntKind.i64.wrap (((p : Int) - c) * y) = ((p : Int) - c) * y := wrap_in _ (by omega) (by omega)
          have r3 : IntKind.i64.wrap (z + ((p : Int) - c) * y) = z + ((p : Int) - c) * y := wrap_in _ (by omega) (by omega)
          have r4 : (0 : Int) ≤ z + ((p : Int) - c) * y := by omega
          have r5 : (0 : Int) ≤ (k : Int) + (j : Int) := by omega
          go_wp2
          go_region
          all_goals
            go_wp2
            go_roundw
            case rel => exact ⟨j + 1, by simp, by omega, hOr4, hB4.out.drew⟩
            case measure => exact measK1 hgj
        · have hgj' : ¬ (j : Int) < (m : Int) + 1 := by omega
          obtain rfl : j = m + 1 := by omega
          have q10 : t - 1 = k + m := by have := HT.out; omega
          have q11 : (t : Int) - 1 ≤ (cg : Int) := by omega
          have q12 : (0 : Int) ≤ (t : Int) - 1 := by omega
          go_wp2
          go_roundw
          case rel => exact ⟨k, _, _, by rw [← q10], by omega, hNx, hOr3, hB3⟩
          case measure => show k + m < t; omega

theorem rest_any (p : Nat) (hP : Pr p) (hp : p ≤ 251) (fo : Option Addr) (n0 cf S : Nat) (ao bo : Option Addr) (ca cb : Nat) (a b : List Int) (ha : Cn p a) (hb : Cn p b) (hb1 : co b (b.length - 1) = 1) (nb0 : b ≠ []) (hla : a.length ≤ 4096) (hlb : b.length ≤ 4096) (w : World) (ra : IRow w ao a) (rb : IRow w bo b) :
    Calls Try.prog 45 #[.agg #[.int .i64 (p : Int), .slice fo n0 cf, .int .i64 (S : Int)], .slice ao a.length ca, .slice bo b.length cb] w fun e w' => RestR p a b e w' ∧ Below w.heap.size w w' := by
  by_cases h : a.length < b.length
  · exact rest_short p fo n0 cf S ao bo ca cb a b ha hla hlb h w ra
  · exact rest_long p hP hp fo n0 cf S ao bo ca cb a b ha hb hb1 nb0 hla (by omega) w ra rb

end Go.Proofs.Ytjpmkcijkcnfiaa.Calls78
