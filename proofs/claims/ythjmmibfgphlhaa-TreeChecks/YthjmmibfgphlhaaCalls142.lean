/-
  The way from a leaf to the root, walked: package tree's wayUp.
-/
import Derived.Test.YthjmmibfgphlhaaCalls141
import Derived.Deep.RegionHeld3
namespace Go.Proofs.Ythjmmibfgphlhaa.Calls142
set_option linter.unusedVariables false
open Go.ChangeShapes Go.WideShapes Go.ChangeAt Go.RowKit Go.Deep Go.Proofs.Ythjmmibfgphlhaa.Base Go.Proofs.Ythjmmibfgphlhaa.Base2 Go.Proofs.Ythjmmibfgphlhaa.Base7 Go.Proofs.Ythjmmibfgphlhaa.Base8 Go.Proofs.Ythjmmibfgphlhaa.Base9 Go.Proofs.Ythjmmibfgphlhaa.Num55 Go.Proofs.Ythjmmibfgphlhaa.Num60 Go.Proofs.Ythjmmibfgphlhaa.Calls126 Go.Proofs.Ythjmmibfgphlhaa.Calls128 Go.Proofs.Ythjmmibfgphlhaa.Calls133 Go.Proofs.Ythjmmibfgphlhaa.Calls134 Go.Proofs.Ythjmmibfgphlhaa.Calls135 Go.Proofs.Ythjmmibfgphlhaa.Calls141

/-- One text more. -/
theorem wtab_snoc {W W' : World} {base k g c g' cap b : Nat} {v : Value} {A : List (List Nat)} {us : List Value} {t : List Nat} {tmp : Obj} (hown : W.ownsRow base 37 1 v k us) (hrows : ∀ j, j < k → VAt W v.ownBlock us[j]? (yv (yr A j)))
    (hr : YRow W (some ⟨g, 0, none⟩) t) (hg2 : g < W.heap.size) (hgb : b ≤ g) (hc : t.length ≤ c) (hlow : ∀ j, v.ownBlock = some j → j < b) (ht : yr A k = t)
    (h1 : W'.ownsRow base 37 1 (.slice (some ⟨g', 0, none⟩) (k + 1) cap) (k + 1) (us ++ [.slice (some ⟨g, 0, none⟩) t.length c])) (hgr : (W.alloc tmp).grownBy W' v.ownBlock) (hor : v.ownBlock = some g' ∨ g' = (W.alloc tmp).heap.size) :
    WTab W' base (.slice (some ⟨g', 0, none⟩) (k + 1) cap) (k + 1) A :=
  VTab.snoc (f := fun j => yv (yr A j)) hown hrows (by show VAt _ _ _ (yv (yr A k)); rw [ht]; exact vat_new hr hgb hg2 hc hlow) h1 hgr hor

/-- What wayUp answers. -/
def WayR (n i : Nat) (p a : List Nat) (h B : Nat) (g : Bool) (e : Ending) (w' : World) : Prop :=
  ∃ (v : Value) (ao : Option Addr) (m c : Nat), v = .slice ao m c ∧ e = .returned (.tuple #[v, .bool g]) ∧ (g = true → WTab w' B v (us n i h + 1) (wl n i p a h))

/-- On the way. -/
def WyR (n0 i0 : Nat) (p a : List Nat) (h : Nat) (w : World) (nv iv pv wv : Value) (wr : World) : Prop :=
  ∃ (k m M q u c : Nat) (po : Option Addr) (vn : Value), nv = .int .i64 (m : Int) ∧ iv = .int .i64 (q : Int) ∧ pv = .slice po M c ∧ vn = wv ∧ k ≤ h ∧ m ≤ 64 ∧ 1 ≤ m ∧ q < m ∧ u ≤ k ∧ M ≤ c ∧ Hid (u + M = p.length) ∧ Hid (m = mn n0 k) ∧ Hid (q = ix i0 k) ∧ Hid (u = us n0 i0 k) ∧ Hid (URow w po (p.drop u)) ∧ Hid (WTab wr w.heap.size vn (u + 1) (wl n0 i0 p a h)) ∧ Hid (Below w.heap.size w wr)

theorem cut_row {w : World} {ad : Addr} {p : List Nat} {u M c : Nat} (h : URow w (some ad) (p.drop u)) (hM : u + M = p.length) (hc : M ≤ c) : URow w (if c = 1 then some ad else some { block := ad.block, off := ad.off + 1 }) (p.drop (u + 1)) := by
  by_cases hc1 : c = 1
  · rw [if_pos hc1, List.drop_of_length_le (by omega)]
    exact vrow_nil _ _
  · rw [if_neg hc1]
    have := urow_drop h 1
    rw [List.drop_drop, one_addr] at this
    exact this

set_option maxRecDepth 100000 in
set_option maxHeartbeats 4000000 in
theorem wayUp_any (n0 i0 : Nat) (h1 : 1 ≤ n0) (h64 : n0 ≤ 64) (hi : i0 < n0) (h : Nat) (h6 : h ≤ 6) (ht : Top n0 h) (lo po : Option Addr) (lc pc : Nat) (a p : List Nat) (ha : a.length ≤ 4095) (hb : Byt a) (hp64 : p.length ≤ 64) (hpc : p.length ≤ pc) (g : Bool) (hg : g = true ↔ ¬ FarP p ∧ p.length = us n0 i0 h) (w : World) (ra : YRow w lo a) (rp : URow w po p) :
    Calls Try.prog 33 #[.int .i64 (n0 : Int), .int .i64 (i0 : Int), .slice lo a.length lc, .slice po p.length pc] w fun e w' => WayR n0 i0 p a h w.heap.size g e w' ∧ Below w.heap.size w w' := by
  rcases Classical.em (FarP p) with hf | hf
  · have cC := conOut_any po pc p (by omega) true ⟨fun _ => hf, fun _ => rfl⟩ w rp
    have hgf : g = false := by
      cases g with
      | false => rfl
      | true => exact absurd hf (hg.1 rfl).1
    subst hgf
    generalize p.length = np at *
    generalize a.length = na at *
    have hfin : Hid (WayR n0 i0 p a h w.heap.size false (.returned (.tuple #[.slice none 0 0, .bool false])) w) := ⟨_, none, 0, 0, rfl, rfl, fun e => (by cases e)⟩
    clear hg hf ra rp ht
    go_enter Try.func33, Try.ntmps33
    go_wp2_with (go_at_call 46; refine cC.mono ?_; rintro e w1 ⟨rfl, hw⟩; subst w1)
    go_ret2
    exact ⟨hfin.out, Below.refl _ _⟩
  · have cC := conOut_any po pc p (by omega) false ⟨fun e => (by cases e), fun e => absurd e hf⟩ w rp
    have HG : Hid (g = true ↔ p.length = us n0 i0 h) := hg.trans ⟨fun e => e.2, fun e => ⟨hf, e⟩⟩
    have HPb : Hid (∀ x ∈ p, x < 65536) := fun x hx => by
      rcases Nat.lt_or_ge 65535 x with e | e
      · exact absurd ⟨x, hx, e⟩ hf
      · omega
    obtain ⟨i1, hi1, hz0, hz1, hz2⟩ := infoBs
    have HT := hid ht
    have HI := hid hi
    have HA := hid ha
    have HBy := hid hb
    have cL := leafText_o lo lc a ha w ra
    have hz := hid (wl_zero n0 i0 p a h)
    have h0 : Hid (∀ (W : World) (gg cc : Nat) (hB : Below w.heap.size w W) (hr : YRow W (some ⟨gg, 0, none⟩) (lft a)) (hg2 : gg < W.heap.size) (hc : (lft a).length ≤ cc),
        WyR n0 i0 p a h w (.int .i64 (n0 : Int)) (.int .i64 (i0 : Int)) (.slice po p.length pc) (.slice (some ⟨W.heap.size, 0, none⟩) 1 1) (W.alloc (.cells #[.slice (some ⟨gg, 0, none⟩) (lft a).length cc] 37))) := fun W gg cc hB hr hg2 hc =>
      ⟨0, n0, p.length, i0, 0, pc, po, _, rfl, rfl, rfl, rfl, by omega, h64, h1, hi, by omega, hpc, by show 0 + p.length = _; omega, rfl, rfl, rfl, by simpa using hid rp, wtab_one hB.size hr hg2 hc hz.out, hB.alloc hB.size _⟩
    obtain ⟨t, htx⟩ : ∃ t, t = lft a := ⟨_, rfl⟩
    rw [← htx] at h0 cL
    generalize p.length = np at cC hp64 hpc h0 ⊢
    generalize a.length = na at cL ⊢
    clear hg hf ra rp ht hi ha hb htx
    go_enter Try.func33, Try.ntmps33
    go_wp2_with (first
      | (go_at_call 46; refine cC.mono ?_; rintro e w1 ⟨rfl, hw⟩; subst w1)
      | (go_at_call 43; refine cL.mono ?_; rintro e w1 ⟨⟨gg, cc, rfl, _, hg2, hcb, hr⟩, hB⟩; have H0 := h0.out _ gg cc hB hr hg2 hcb; clear hr hB hcb hg2))
    clear cC cL h0
    obtain ⟨W0, hW0⟩ : ∃ W0, W0 = w1.alloc (.cells #[.slice (some ⟨gg, 0, none⟩) t.length cc] 37) := ⟨_, rfl⟩
    rw [← hW0] at H0 ⊢
    clear hW0
    go_loopw [0, 1, 3, 10] (fun nv iv pv wv wr => WyR n0 i0 p a h w nv iv pv wv wr) (fun nv iv pv wv wr => (intOf nv).toNat)
    case atStart => exact H0
    case round =>
      obtain ⟨k, m, M, q, u, c, po2, vn, rfl, rfl, rfl, hvn, hk, hm64, hm1, hqm, hu, hMc, HP, HM, HQ, HU, HR, HW, HB⟩ := hrel
      subst hvn
      by_cases hgo : 1 < m
      · have hgo' : (1 : Int) < (m : Int) := by omega
        have hkh : k < h := by
          rcases Nat.lt_or_ge k h with e | e
          · exact e
          · obtain rfl : k = h := by omega
            have h2 := HM.out
            rw [HT.out.1] at h2
            omega
        have cB := hid (fun w' => beside_any q (by omega) w')
        have hot : Need n0 i0 k ↔ bsd q < m := by rw [HQ.out, HM.out]; exact need_iff HI.out
        have hm2 : Hid ((m + 1) / 2 = mn n0 (k + 1)) := by show _ = (mn n0 k + 1) / 2; rw [← HM.out]
        have hq2 : Hid (q / 2 = ix i0 (k + 1)) := by show _ = ix i0 k / 2; rw [← HQ.out]
        have hmm : (m + 1) / 2 < m := by omega
        have hqq : q / 2 < (m + 1) / 2 := by omega
        by_cases hN : bsd q < m
        · have hNd := hot.2 hN
          have hN' : ((bsd q : Nat) : Int) < (m : Int) := by omega
          by_cases hM0 : M = 0
          · subst hM0
            have hgf : g = false := by
              cases g with
              | false => rfl
              | true =>
                have e1 := HG.out.1 rfl
                have e2 := us_need hNd
                have e3 := us_mono (n := n0) (i := i0) (k := k + 1) (h - (k + 1))
                rw [show k + 1 + (h - (k + 1)) = h by omega] at e3
                have e4 := HU.out
                have e5 := HP.out
                omega
            subst hgf
            have hfin : Hid (WayR n0 i0 p a h w.heap.size false (.returned (.tuple #[.slice none 0 0, .bool false])) wr) := ⟨_, none, 0, 0, rfl, rfl, fun e => (by cases e)⟩
            generalize bsd q = b at *
            clear hot HU HM HQ HG
            go_wp2_with (go_at_call 31; refine (cB.out _).mono ?_; rintro e w2 ⟨rfl, hw⟩; subst w2)
            go_ret2
            exact ⟨hfin.out, HB.out⟩
          have hM1 : ¬ (M : Int) = 0 := by omega
          have hM2 : ((M : Int) == 0) = false := by simpa using hM0
          have hM3 : 0 < M := by omega
          have hM4 : (0 : Int) < (M : Int) := by omega
          rcases po2 with _ | ad
          · exact (urow_none HR.out (j := 0) (by rw [List.length_drop]; have := HP.out; omega)).elim
          have hpu : u < p.length := by have := HP.out; omega
          have d0 := urow_cell (ub HR.out HB.out) (j := 0) (by rw [List.length_drop]; omega)
          rw [show yb (p.drop u) 0 = yb p u by simp [yb, List.getD], zero_addr] at d0
          have hyl := HPb.out _ (yb_mem hpu)
          have hU2 := HU.out
          have hta := wl_at (p := p) (a := a) hkh hNd
          have hxe : sum (yr (wl n0 i0 p a h) u) = kn n0 i0 p a k := by
            have e1 := wl_end n0 i0 p a k
            have e2 := wl_pre (n := n0) (i := i0) (k := k) (p := p) (a := a) (j := us n0 i0 k) (by omega) (h - k)
            rw [show k + (h - k) = h by omega] at e2
            rw [hU2, e2, e1]
          have hkt : kt n0 i0 p a k = if ix i0 k % 2 = 1 then prt (yb p u) (kn n0 i0 p a k) else prt (kn n0 i0 p a k) (yb p u) := by rw [hU2]; rfl
          have hfit := wl_at_fit (n := n0) (i := i0) (p := p) HA.out HBy.out (k := h) (j := u) (by have := us_mono (n := n0) (i := i0) (k := k) (h - k); rw [show k + (h - k) = h by omega] at this; omega)
          have HWd : Hid (WTab wr.drew w.heap.size vn (u + 1) (wl n0 i0 p a h)) := HW
          have HBd := hid HB.out.drew
          have cE := end_any w.heap.size vn u (wl n0 i0 p a h) (by omega) wr.drew HWd.out hfit.1 hfit.2.1
          rw [hxe] at cE
          have hxl := kn_lt n0 i0 p a k
          rw [← hU2] at hta
          have hu2 : Hid (u + 1 = us n0 i0 (k + 1)) := by show _ = _; rw [us_need hNd, ← HU.out]
          have hR2 := hid (cut_row HR.out HP.out hMc)
          have hP2 : Hid (u + 1 + (M - 1) = p.length) := by show _ = _; have := HP.out; omega
          generalize kn n0 i0 p a k = x at *
          generalize yb p u = y at *
          have f9 : wr.drew.cell? ad = some (.int .u32 (y : Int)) := d0
          clear d0
          have d0 := f9
          clear f9 hxe hfit hU2 hpu HR
          by_cases hp : q % 2 = 1
          · have e : bsd q = q - 1 := if_pos hp
            have hlt : ((bsd q : Nat) : Int) < (q : Int) := by omega
            have cP := hid (fun w' => pairText_o y x (by omega) (by omega) w')
            rw [show kt n0 i0 p a k = prt y x from by rw [hkt]; exact if_pos (by rw [← HQ.out]; exact hp)] at hta
            have hlit : Hid (yr (wl n0 i0 p a h) (u + 1) = prt y x) := hta
            clear hta hkt hot HU HM HQ HG hp e hNd
            generalize bsd q = b at *
            generalize prt y x = t2 at *
            go_wp2_with (go_at_call 31; refine (cB.out _).mono ?_; rintro e w2 ⟨rfl, hw⟩; subst w2)
            go_region_held3 (fun w' => w'.cell? ad = some (.int .u32 (y : Int))) (first | exact d0 | exact f0)
              (first
                | (go_at_call 34; refine cE.mono ?_; rintro e w3 ⟨rfl, hB3⟩; have HB3 := hid (below_trans HBd.out hB3); have HW3 := hid (HWd.out.below hB3); have f0 := (hB3.cell (p := ad) (cell_lt d0)).trans d0; clear hB3))
            go_wp2_with (first
              | (go_at_call 31; refine (cB.out _).mono ?_; rintro e w2 ⟨rfl, hw⟩; subst w2)
              | (go_at_call 48; refine (cP.out _).mono ?_; rintro e w4 ⟨⟨g4, c4, rfl, hg4, hg5, hc4, hr4⟩, hB4⟩; have HR4 := hid hr4; have HG4 := hid hg4; have HG5 := hid hg5; have HC4 := hid hc4; obtain ⟨us4, hown4, hrows4⟩ := HW3.out; have hlow := hid (fun j e => (World.ownsRow.lt hown4 j e).2); have HO4 := hid (v_below hown4 hB4); have HRW4 := hid (fun j hj => (hrows4 j hj).below hB4); have HB4 := hid (below_trans HB3.out hB4); have hsz4 := HB4.out.size; clear hr4 hg4 hg5 hc4 hown4 hrows4 hB4)
              | (at_builtin; refine wpList_append_own0 _ rfl _ _ 22 rfl w.heap.size 37 i1 (.slice none 0 0) 1 24 Try.underlying22 hi1 hz0 hz1 hz2 rfl (by decide) vn (u + 1) us4 rfl (HO4.out.alloc _) ⟨w4.heap.size, 0, none⟩ 1 1 [.slice (some ⟨g4, 0, none⟩) t2.length c4] rfl rfl v_one (by simp [Value.oneCell']) (by omega) (by unfold maxLen; omega) (by omega) (by simp; omega) ?_; intro g5 c5 w5 hO5 hG5 hor5 hlt5; have HW5 := hid (wtab_snoc HO4.out HRW4.out HR4.out HG5.out HG4.out HC4.out hlow.out hlit.out hO5 hG5 hor5); have HB5 := hid (v_snoc HB4.out (Nat.le_refl _) HO4.out hG5); clear hO5 hG5 hor5 hlt5))
            go_roundw
            case rel => exact ⟨k + 1, (m + 1) / 2, M - 1, q / 2, u + 1, c - 1, _, _, by simp, by simp, rfl, rfl, by omega, by omega, by omega, hqq, by omega, by omega, hP2, hm2, hq2, hu2, hR2, HW5, HB5⟩
            case measure => simp [intOf]; omega
          · have e : bsd q = q + 1 := if_neg hp
            have hlt : ¬ ((bsd q : Nat) : Int) < (q : Int) := by omega
            have cP := hid (fun w' => pairText_o x y (by omega) (by omega) w')
            rw [show kt n0 i0 p a k = prt x y from by rw [hkt]; exact if_neg (by rw [← HQ.out]; exact hp)] at hta
            have hlit : Hid (yr (wl n0 i0 p a h) (u + 1) = prt x y) := hta
            clear hta hkt hot HU HM HQ HG hp e hNd
            generalize bsd q = b at *
            generalize prt x y = t2 at *
            go_wp2_with (go_at_call 31; refine (cB.out _).mono ?_; rintro e w2 ⟨rfl, hw⟩; subst w2)
            go_region_held3 (fun w' => w'.cell? ad = some (.int .u32 (y : Int))) (first | exact d0 | exact f0)
              (first
                | (go_at_call 34; refine cE.mono ?_; rintro e w3 ⟨rfl, hB3⟩; have HB3 := hid (below_trans HBd.out hB3); have HW3 := hid (HWd.out.below hB3); have f0 := (hB3.cell (p := ad) (cell_lt d0)).trans d0; clear hB3))
            go_wp2_with (first
              | (go_at_call 31; refine (cB.out _).mono ?_; rintro e w2 ⟨rfl, hw⟩; subst w2)
              | (go_at_call 48; refine (cP.out _).mono ?_; rintro e w4 ⟨⟨g4, c4, rfl, hg4, hg5, hc4, hr4⟩, hB4⟩; have HR4 := hid hr4; have HG4 := hid hg4; have HG5 := hid hg5; have HC4 := hid hc4; obtain ⟨us4, hown4, hrows4⟩ := HW3.out; have hlow := hid (fun j e => (World.ownsRow.lt hown4 j e).2); have HO4 := hid (v_below hown4 hB4); have HRW4 := hid (fun j hj => (hrows4 j hj).below hB4); have HB4 := hid (below_trans HB3.out hB4); have hsz4 := HB4.out.size; clear hr4 hg4 hg5 hc4 hown4 hrows4 hB4)
              | (at_builtin; refine wpList_append_own0 _ rfl _ _ 22 rfl w.heap.size 37 i1 (.slice none 0 0) 1 24 Try.underlying22 hi1 hz0 hz1 hz2 rfl (by decide) vn (u + 1) us4 rfl (HO4.out.alloc _) ⟨w4.heap.size, 0, none⟩ 1 1 [.slice (some ⟨g4, 0, none⟩) t2.length c4] rfl rfl v_one (by simp [Value.oneCell']) (by omega) (by unfold maxLen; omega) (by omega) (by simp; omega) ?_; intro g5 c5 w5 hO5 hG5 hor5 hlt5; have HW5 := hid (wtab_snoc HO4.out HRW4.out HR4.out HG5.out HG4.out HC4.out hlow.out hlit.out hO5 hG5 hor5); have HB5 := hid (v_snoc HB4.out (Nat.le_refl _) HO4.out hG5); clear hO5 hG5 hor5 hlt5))
            go_roundw
            case rel => exact ⟨k + 1, (m + 1) / 2, M - 1, q / 2, u + 1, c - 1, _, _, by simp, by simp, rfl, rfl, by omega, by omega, by omega, hqq, by omega, by omega, hP2, hm2, hq2, hu2, hR2, HW5, HB5⟩
            case measure => simp [intOf]; omega
        · have hu2 : Hid (u = us n0 i0 (k + 1)) := by show _ = _; rw [us_not (fun e => hN (hot.1 e)), ← HU.out]
          have hN' : (m : Int) ≤ ((bsd q : Nat) : Int) := by omega
          generalize bsd q = b at *
          clear hot HU HM HQ
          go_wp2_with (go_at_call 31; refine (cB.out _).mono ?_; rintro e w2 ⟨rfl, hw⟩; subst w2)
          go_roundw
          case rel => exact ⟨k + 1, (m + 1) / 2, M, q / 2, u, c, po2, _, by simp, by simp, rfl, rfl, by omega, by omega, by omega, hqq, by omega, hMc, HP, hm2, hq2, hu2, HR, HW, HB⟩
          case measure => simp [intOf]; omega
      · have hgo' : ¬ (1 : Int) < (m : Int) := by omega
        have hkh : k = h := by
          rcases Nat.lt_or_ge k h with e | e
          · have h2 := HT.out.2 k e
            have h3 := HM.out
            omega
          · omega
        subst hkh
        have hgM : g = true ↔ M = 0 := by
          rw [HG.out, ← HU.out]
          have := HP.out
          omega
        obtain ⟨ao2, C2, hv, _⟩ := VTab.len HW.out
        rw [HU.out] at HW
        have HV := hid hv
        cases g with
        | true =>
          obtain rfl : M = 0 := hgM.1 rfl
          have hfin : Hid (WayR n0 i0 p a k w.heap.size true (.returned (.tuple #[vn, .bool true])) wr) := ⟨vn, ao2, u + 1, C2, HV.out, rfl, fun _ => HW.out⟩
          clear hgM hv
          go_wp2
          go_ret2
          exact ⟨hfin.out, HB.out⟩
        | false =>
          have hM0 : ¬ M = 0 := fun e => by have := hgM.2 e; cases this
          have hM1 : ((M : Int) == 0) = false := by simpa using hM0
          have hfin : Hid (WayR n0 i0 p a k w.heap.size false (.returned (.tuple #[vn, .bool false])) wr) := ⟨vn, ao2, u + 1, C2, HV.out, rfl, fun e => (by cases e)⟩
          clear hgM hv
          go_wp2
          go_ret2
          exact ⟨hfin.out, HB.out⟩

end Go.Proofs.Ythjmmibfgphlhaa.Calls142
