/-
  Package parts: product, walked.
-/
import Derived.Test.YtpnmepobdnclkaaCalls187
namespace Go.Proofs.Ytpnmepobdnclkaa.Calls188
set_option linter.unusedVariables false
open Go.ChangeShapes Go.WideShapes Go.ChangeAt Go.RowKit Go.Deep Go.Proofs.Ytpnmepobdnclkaa.Base Go.Proofs.Ytpnmepobdnclkaa.Base2 Go.Proofs.Ytpnmepobdnclkaa.Num Go.Proofs.Ytpnmepobdnclkaa.Num13 Go.Proofs.Ytpnmepobdnclkaa.Num16 Go.Proofs.Ytpnmepobdnclkaa.Num17 Go.Proofs.Ytpnmepobdnclkaa.Num34 Go.Proofs.Ytpnmepobdnclkaa.Num35 Go.Proofs.Ytpnmepobdnclkaa.Num39 Go.Proofs.Ytpnmepobdnclkaa.Num61 Go.Proofs.Ytpnmepobdnclkaa.Num69 Go.Proofs.Ytpnmepobdnclkaa.Num70 Go.Proofs.Ytpnmepobdnclkaa.Base4 Go.Proofs.Ytpnmepobdnclkaa.Calls182 Go.Proofs.Ytpnmepobdnclkaa.Calls183 Go.Proofs.Ytpnmepobdnclkaa.Calls184 Go.Proofs.Ytpnmepobdnclkaa.Calls185 Go.Proofs.Ytpnmepobdnclkaa.Calls186 Go.Proofs.Ytpnmepobdnclkaa.Calls187
open Go.Proofs.Ytpnmepobdnclkaa.Calls71 (al)
open Go.Proofs.Ytpnmepobdnclkaa.Calls87 (ib)
open Go.Proofs.Ytpnmepobdnclkaa.Calls90 (InM)
open Go.Proofs.Ytpnmepobdnclkaa.Calls58 (mul_bd below_set)
open Go.Proofs.Ytpnmepobdnclkaa.Calls59 (own1_made)
open Go.Proofs.Ytpnmepobdnclkaa.Calls180 (infoLS_ex)
open Go.Proofs.Ytpnmepobdnclkaa.Calls181 (g_trans g_set g_drewN g_below)

/-- How many numbers a row holds: the first to rows one more. -/
def ct (i to j : Nat) : Nat := if j < to then i + 1 else i

theorem ct_zero (i : Nat) : ct i 0 = fun _ => i := by funext j; unfold ct; rw [if_neg (by omega)]
theorem ct_self (i j : Nat) : ct i j j = i := by unfold ct; rw [if_neg (by omega)]
theorem ct_next (i to : Nat) : (fun j => if j = to then ct i to j + 1 else ct i to j) = ct i (to + 1) := by
  funext j
  unfold ct
  by_cases e : j = to
  · subst e; rw [if_pos rfl, if_neg (by omega), if_pos (by omega)]
  · rw [if_neg e]
    by_cases h : j < to
    · rw [if_pos h, if_pos (by omega)]
    · rw [if_neg h, if_neg (by omega)]

set_option maxRecDepth 100000 in
set_option maxHeartbeats 2000000 in
theorem product_any (P : Nat) (hP : Pr P) (hP2 : P ≤ 251) (t : Nat) (ht : t ≤ 4) (V : Nat) (hV : V = 2 * t + 1) (hn : V < P) (R : List Int) (hR : R.length ≤ 9223372036854775807) (hRI : InM (P : Int) R R.length) (r : Nat → Int) (hr : ∀ i, i < V → JoinIs P XP (dl i) V (r i)) (b u : Nat)
    (ao bo : Option Addr) (ca cb : Nat) (l m : List Int) (hl : l.length = V) (hm : m.length = V) (hlI : InM (P : Int) l V) (hmI : InM (P : Int) m V) (w : World) (hS : Spl w b P t R u)
    (ra : IRow w ao l) (rb : IRow w bo m) (na : ∀ ad, ao = some ad → ad.block ≠ b + 2) (nb : ∀ ad, bo = some ad → ad.block ≠ b + 2) :
    Calls Try.prog 31 #[.int .i64 (P : Int), .slice ao V ca, .slice bo V cb, .func (.func 40) #[] #[.pointer (some ⟨b + 1, 0, none⟩), .pointer (some ⟨b + 2, 0, none⟩), .pointer (some ⟨b, 0, none⟩)]] w fun e w' =>
      RetO w.heap.size V (mrow P R t r l m u V) e w' ∧ Spl w' b P t R (u + V * t) ∧ w.grownBy w' (some (b + 2)) := by
  obtain ⟨i0, hi, hz0, hz1, hz2⟩ := info_ex
  obtain ⟨i2, hi', hy0, hy1, hy2⟩ := infoLS_ex
  have hbw := hS.lt
  have hP1 := hP.1
  have hp0 : ¬ (P : Int) = 0 := by omega
  have hV9 : 1 ≤ V ∧ V ≤ 9 := by omega
  have HS0 := hid hS
  have RA := hid (fun W (hg : w.grownBy W (some (b + 2))) => irow_kept ra hg (fun ad e _ e' => na ad e (Option.some.inj e')))
  have RB := hid (fun W (hg : w.grownBy W (some (b + 2))) => irow_kept rb hg (fun ad e _ e' => nb ad e (Option.some.inj e')))
  have HLl := hid hl
  have HLm := hid hm
  have HAI := hid hlI
  have HBI := hid hmI
  obtain ⟨T, hT⟩ : ∃ T : Nat → Nat → Int, T = fun j i => shr P R t (co l i * co m i % (P : Int)) (u + i * t) j := ⟨_, rfl⟩
  have HT : Hid (∀ i j, shr P R t (co l i * co m i % (P : Int)) (u + i * t) j = T j i) := fun i j => by rw [hT]
  have cS := hid (fun (i : Nat) (W : World) (h : Spl W b P t R (u + i * t)) => split1_any P hP hP2 t ht (by omega) R hR hRI b (u + i * t) (co l i * co m i % (P : Int)) (mod_bd (by omega) _) W h)
  have cJ : Hid (∀ (to : Nat) (so : Option Addr) (cs : Nat) (W : World), to < V → IRow W so (mk V (T to)) → Calls Try.prog 21 #[.int .i64 (P : Int), .slice so V cs] W fun e w' => e = .returned (.int .i64 (mrow P R t r l m u V to)) ∧ Below W.heap.size W w') := fun to so cs W hto hrow => by
    refine (join_any P hP hP2 so cs V hn (by omega) (mk V (T to)) (mk_length _ _) (fun j hj => ?_) W hrow).mono ?_
    · rw [co_mk, if_pos hj, ← HT.out]; exact shr_bd (by omega) _ _ _ _ _
    · rintro e w' ⟨⟨v, rfl, hv⟩, hB⟩
      have e : v = mrow P R t r l m u V to := mrow_join hP hn hr (JoinIs.congr hv (fun _ _ => rfl) (fun j hj => by rw [co_mk, if_pos hj, ← HT.out]))
      rw [e]
      exact ⟨rfl, hB⟩
  have hadv : Hid (∀ i : Nat, u + i * t + t = u + (i + 1) * t) := fun i => by rw [Nat.add_mul, Nat.one_mul, Nat.add_assoc]
  rw [← hV] at cS
  have HV := hid hV
  clear hV
  generalize mrow P R t r l m u V = M at *
  clear hS ra rb na nb hl hm hlI hmI hT hr hR hRI
  go_enter Try.func31, Try.ntmps31
  go_wp2_with (at_make; refine wpList_make_full _ rfl _ _ 40 rfl w.heap.size 22 i2 (.slice none 0 0) 1 Try.underlying40 hi' hy0 hy1 .i64 .i64 (V : Int) (V : Int) V rfl rfl rfl rfl (by rw [hy2]; omega) (by unfold maxLen; omega) (Nat.le_refl _) ?_; intro w1 hown1 hgrow1; have hB1 : Hid (Below w.heap.size w w1) := (Below.refl _ w).grown hgrow1 (Nat.le_refl _) (fun j e => by cases e); have O1 := hid (gt_made (T := T) hown1); clear hown1 hgrow1)
  obtain ⟨G, hG⟩ : ∃ G, G = w.heap.size := ⟨_, rfl⟩
  have O2 : Hid (GT w1 w.heap.size G G V (fun _ => 0) T) := by rw [hG]; exact O1.out
  have HS1 : Hid (Spl w1 b P t R (u + 0 * t)) := by rw [Nat.zero_mul, Nat.add_zero]; exact HS0.out.below hB1.out hbw
  have HG1 : Hid (w.grownBy w1 (some (b + 2))) := g_below hB1.out
  rw [← hG]
  clear O1 hB1 HS0
  have HGG := hid hG
  clear hG
  go_wp2
  go_loopw [21] (fun i wr => ∃ k : Nat, i = .int .i64 (k : Int) ∧ k ≤ V ∧ Hid (GT wr w.heap.size G G V (fun _ => k) T) ∧ Hid (Spl wr b P t R (u + k * t)) ∧ Hid (w.grownBy wr (some (b + 2)))) (fun i wr => ((V : Int) - intOf i).toNat)
  case atStart => exact ⟨0, rfl, by omega, O2, HS1, HG1⟩
  case round =>
    clear O2 HS1 HG1
    obtain ⟨k, rfl, hk, hT, hSr, hGr⟩ := hrel
    by_cases hgo : k < V
    · have hgo' : (k : Int) < (V : Int) := by omega
      rcases ao with _ | ad
      · exact (irow_none (RA.out wr hGr.out) (j := k) (by rw [HLl.out]; exact hgo)).elim
      rcases bo with _ | bd
      · exact (irow_none (RB.out wr hGr.out) (j := k) (by rw [HLm.out]; exact hgo)).elim
      have d1 := (RA.out wr hGr.out).2 ad rfl k (by rw [HLl.out]; exact hgo)
      have d2 := (RB.out wr hGr.out).2 bd rfl k (by rw [HLm.out]; exact hgo)
      have hm2 := mul_bd (HAI.out k hgo) (HBI.out k hgo) hP2
      have cK := hid (fun W h => cS.out k W h)
      have HTk := hid (fun j => HT.out k j)
      have HE : Hid (∀ W, w.grownBy W (some (b + 2)) → W.cell? (ad.add k) = some (.int .i64 (co l k)) ∧ W.cell? (bd.add k) = some (.int .i64 (co m k))) := fun W hg => ⟨(RA.out W hg).2 ad rfl k (by rw [HLl.out]; exact hgo), (RB.out W hg).2 bd rfl k (by rw [HLm.out]; exact hgo)⟩
      generalize co l k = x at *
      generalize co m k = y at *
      have r1 : IntKind.i64.wrap (x * y) = x * y := wrap_in _ (by omega) (by omega)
      have r2 : (0 : Int) ≤ x * y := hm2.1
      have r3 : (x * y).tmod (P : Int) = x * y % (P : Int) := Int.tmod_eq_emod_of_nonneg r2
      have r4 : ¬ P = 0 := by omega
      clear hm2
      go_wp2
      go_region_held3 (fun w' => w'.cell? (ad.add k) = some (.int .i64 x) ∧ w'.cell? (bd.add k) = some (.int .i64 y)) (first | exact ⟨d1, d2⟩ | exact ⟨f1, f2⟩)
        (first
          | (go_at_call 40; refine (cK.out _ (by first | exact hSr.out | exact hSr.out.below (below_drewN (Below.refl _ wr) _) hSr.out.lt | exact hSr.out.below (Below.refl _ wr).drew hSr.out.lt)).mono ?_; rintro e w5 ⟨⟨g, rfl, hO⟩, hS5, hG5⟩; have HG5 : Hid (wr.grownBy w5 (some (b + 2))) := (by first | exact hG5 | exact g_trans (g_below (Below.refl _ wr).drew) hG5 | exact g_trans (g_drewN wr _ _) hG5); have HO5 : Hid (Own1 w5 wr.heap.size g V V (shr P R t (x * y % (P : Int)) (u + k * t))) := hO; have HS5 := hid hS5; clear hO hS5 hG5; obtain ⟨f1, f2⟩ := HE.out w5 (g_trans hGr.out HG5.out)))
      clear d1 d2 f1 f2 HE cK
      have hgG : Hid (G < g ∧ b + 2 < G) := by have h1 := hT.out.lt.2; have h2 := HO5.out.lt.1; have h3 := HGG.out; show G < g ∧ _; omega
      have HT5 : Hid (GT w5 w.heap.size g G V (ct k 0) T) := by rw [ct_zero]; exact (hT.out.away HO5.out.lt.1).kept HG5.out (by omega)
      have HR5 : Hid (IRow w5 (some ⟨g, 0, none⟩) (mk V (fun j => T j k))) := by
        have h := HO5.out.row
        rwa [show mk V (shr P R t (x * y % (P : Int)) (u + k * t)) = mk V (fun j => T j k) from mk_congr fun j _ => HTk.out j] at h
      have HL5 : Hid (g < w5.heap.size) := HO5.out.lt.2
      have HG6 : Hid (w.grownBy w5 (some (b + 2))) := g_trans hGr.out HG5.out
      have HS6 : Hid (Spl w5 b P t R (u + (k + 1) * t)) := by rw [← hadv.out k]; exact HS5.out
      clear HO5 HG5 HS5 HTk hT hSr hGr r1 r2 r3
      generalize x * y % (P : Int) = xy at *
      generalize x * y = xy2 at *
      go_wp2
      go_loopw [38] (fun i wr => ∃ j : Nat, i = .int .i64 (j : Int) ∧ j ≤ V ∧ Hid (GT wr w.heap.size g G V (ct k j) T) ∧ Hid (IRow wr (some ⟨g, 0, none⟩) (mk V (fun j => T j k))) ∧ Hid (g < wr.heap.size) ∧ Hid (w.grownBy wr (some (b + 2))) ∧ Hid (Spl wr b P t R (u + (k + 1) * t))) (fun i wr => ((V : Int) - intOf i).toNat)
      case atStart => exact ⟨0, rfl, by omega, HT5, HR5, HL5, HG6, HS6⟩
      case round =>
        clear HT5 HR5 HL5 HG6 HS6
        obtain ⟨j, rfl, hj, hT2, hR2, hL2, hG2, hS2⟩ := hrel
        by_cases hgj : j < V
        · have hgj' : (j : Int) < (V : Int) := by omega
          have c1 := hR2.out.2 _ rfl j (by rw [mk_length]; exact hgj)
          rw [zero_add_addr, co_mk, if_pos hgj] at c1
          obtain ⟨vs, hvG, hvR, hvD⟩ := hT2.out
          have c2 := tab_cell hvG hgj
          have hsz := hG2.out.size
          have hvj := hvR j hgj
          rw [ct_self] at hvj
          have HvO := hid hvj.1
          have HvG : Hid ((vs j).ownBlock ≠ some G ∧ (vs j).ownBlock ≠ some g) := hvj.2
          have HStep : Hid (∀ (W2 : World) (tmp : Obj) (g' cap : Nat), W2.ownsRow w.heap.size 2 1 (.slice (some ⟨g', 0, none⟩) (k + 1) cap) (k + 1) (ivals (mk k (T j)) ++ [.int .i64 (T j k)]) → (wr.alloc tmp).grownBy W2 (vs j).ownBlock → ((vs j).ownBlock = some g' ∨ g' = (wr.alloc tmp).heap.size) →
              (W2.cell? ⟨G, j, none⟩ = some (vs j) ∧ W2.frozen? ⟨G, j, none⟩ = false) ∧ GT (W2.setCell ⟨G, j, none⟩ (.slice (some ⟨g', 0, none⟩) (k + 1) cap)) w.heap.size g G V (ct k (j + 1)) T ∧ Below w.heap.size wr (W2.setCell ⟨G, j, none⟩ (.slice (some ⟨g', 0, none⟩) (k + 1) cap)) ∧ IRow (W2.setCell ⟨G, j, none⟩ (.slice (some ⟨g', 0, none⟩) (k + 1) cap)) (some ⟨g, 0, none⟩) (mk V (fun j => T j k)) ∧ g < W2.heap.size) := fun W2 tmp g' cap h1 h2 h3 => by
            obtain ⟨e1, e2⟩ := gt_step (cnt := ct k j) hvG hvR hvD hL2.out hgj (tmp := tmp) (by rw [ct_self]; exact h1) h2 h3
            rw [ct_self, ct_next] at e2
            have hBa : Below w.heap.size wr (wr.alloc tmp) := (Below.refl _ wr).alloc hsz tmp
            have hBb : Below w.heap.size (wr.alloc tmp) W2 := below_grown (HvO.out.alloc tmp) h2 (Nat.le_refl _) (Nat.le_trans hsz hBa.size)
            refine ⟨⟨tab_cell e1 hgj, World.ownsRow.frozenAt e1 j⟩, e2, below_set (hBa.trans hBb) (by rw [HGG.out]; exact Nat.le_refl _) j _, ?_, ?_⟩
            · refine irow_kept (irow_kept (irow_kept hR2.out (World.grownBy_alloc wr tmp none) (fun ad e _ e' => by cases e')) h2 (fun ad e _ e' => ?_)) (g_set W2 G j _) (fun ad e _ e' => ?_)
              · have e3 : g = ad.block := by rw [← Option.some.inj e]
                exact HvG.out.2 (by rw [← e', e3])
              · have e3 : g = ad.block := by rw [← Option.some.inj e]
                have := Option.some.inj e'
                have := hgG.out
                omega
            · have := h2.size
              have h5 := hL2.out
              rw [World.size_alloc] at this
              omega
          clear hvG hvR hvD hvj
          generalize vs j = v at *
          have HTj : Hid (T j k = T j k) := rfl
          generalize T j k = z at *
          go_wp2_with (at_builtin; refine wpList_append_own0 _ rfl _ _ 22 rfl w.heap.size 2 i0 (.int .i64 0) 1 8 Try.underlying22 hi hz0 hz1 hz2 rfl (by decide) v k (ivals (mk k (T j))) rfl (HvO.out.alloc _) ⟨wr.heap.size, 0, none⟩ 1 1 [.int .i64 z] rfl rfl one_cell (by simp [Value.oneCell']) (by omega) (by unfold maxLen; omega) (by omega) (by simp; omega) ?_; intro g' cp w6 hown6 hgrow6 hat6 hlt6; obtain ⟨⟨e1, e2⟩, e3, e4, e5, e6⟩ := HStep.out w6 _ g' cp hown6 hgrow6 hat6; have HT6 := hid e3; have HB6 := hid e4; have HR6 := hid e5; have HL6 := hid e6; clear hown6 hgrow6 hat6 hlt6 e3 e4 e5 e6)
          go_roundw
          case rel => exact ⟨j + 1, by simp, by omega, HT6, HR6, by show g < (World.setCell _ _ _).heap.size; have := HL6.out; simpa [World.setCell] using this, g_more hG2.out HB6.out, hS2.out.below HB6.out (by omega)⟩
          case measure => exact measK hgj
        · have hgj' : ¬ (j : Int) < (V : Int) := by omega
          obtain rfl : j = V := by omega
          have HT7 : Hid (GT wr w.heap.size G G j (fun _ => k + 1) T) := (hT2.out.congr (fun i hi => by unfold ct; rw [if_pos hi])).home
          go_wp2
          go_roundw
          case rel => exact ⟨k + 1, by simp, by omega, HT7, hS2, hG2⟩
          case measure => exact measK hgo
    · have hgo' : ¬ (k : Int) < (V : Int) := by omega
      obtain rfl : k = V := by omega
      have hsz := hGr.out.size
      go_wp2_with (at_make; refine wpList_make_full _ rfl _ _ 22 rfl w.heap.size 2 i0 (.int .i64 0) 1 Try.underlying22 hi hz0 hz1 .i64 .i64 (k : Int) (k : Int) k rfl rfl rfl rfl (by rw [hz2]; omega) (by unfold maxLen; omega) hsz ?_; intro w7 hown7 hgrow7; have hB7 : Hid (Below wr.heap.size wr w7) := (Below.refl _ wr).grown hgrow7 (Nat.le_refl _) (fun j e => by cases e); have O7 := hid (own1_made hown7); clear hown7 hgrow7)
      obtain ⟨g, hg⟩ : ∃ g, g = wr.heap.size := ⟨_, rfl⟩
      have HGg := hid hg
      have O8 : Hid (Own1 w7 w.heap.size g k k (fz M 0)) := by rw [hg, fz_zero]; exact O7.out
      rw [← hg]
      clear O7 hg
      go_wp2
      obtain ⟨W0, hW0⟩ : ∃ W0, W0 = wr := ⟨_, rfl⟩
      subst hW0
      go_loopw [60] (fun i wr => ∃ j : Nat, i = .int .i64 (j : Int) ∧ j ≤ k ∧ Hid (Own1 wr w.heap.size g k k (fz M j)) ∧ Hid (Below W0.heap.size W0 wr)) (fun i wr => ((k : Int) - intOf i).toNat)
      case atStart => exact ⟨0, rfl, by omega, O8, hB7⟩
      case round =>
        obtain ⟨j, rfl, hj, hO, hB⟩ := hrel
        by_cases hgj : j < k
        · have hgj' : (j : Int) < (k : Int) := by omega
          obtain ⟨vo, vc, c1, hvc, hvr⟩ := (hT.out.below hB.out).at hgj rfl
          have cK := cJ.out j vo vc wr hgj hvr
          clear hvr
          go_wp2_with (go_at_call 21; refine cK.mono ?_; rintro e w8 ⟨rfl, hB8⟩; have HO8 := hid (hO.out.below hB8); have HB8 := hid (below_trans hB.out hB8); have x1 := HO8.out.cell hgj; have x2 := HO8.out.frozen j; have HO9 : Hid (Own1 (w8.setCell ⟨g, j, none⟩ (.int .i64 (M j))) w.heap.size g k k (fz M (j + 1))) := (HO8.out.set j _).congr (fz_next M j); have HB9 : Hid (Below W0.heap.size W0 (w8.setCell ⟨g, j, none⟩ (.int .i64 (M j)))) := below_set HB8.out (by rw [HGg.out]; exact Nat.le_refl _) j _; clear hB8 HO8 HB8)
          go_roundw
          case rel => exact ⟨j + 1, by simp, by omega, HO9, HB9⟩
          case measure => exact measK hgj
        · have hgj' : ¬ (j : Int) < (k : Int) := by omega
          obtain rfl : j = k := by omega
          have hO8 : Hid (Own1 wr w.heap.size g j j M) := by
            have h := hO.out
            unfold Own1 at h ⊢
            rwa [fz_done] at h
          go_wp2
          go_ret
          exact ⟨⟨g, rfl, hO8.out⟩, hSr.out.below hB.out hSr.out.lt, g_trans hGr.out (g_below hB.out)⟩

end Go.Proofs.Ytpnmepobdnclkaa.Calls188
