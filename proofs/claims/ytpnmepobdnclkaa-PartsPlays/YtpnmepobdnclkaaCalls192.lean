/-
  The document's table of all shares.
-/
import Derived.Test.YtpnmepobdnclkaaCalls180
import Derived.Test.YtpnmepobdnclkaaCalls186
import Derived.Test.YtpnmepobdnclkaaCalls190
import Derived.BigRegion
namespace Go.Proofs.Ytpnmepobdnclkaa.Calls192
set_option linter.unusedVariables false
open Go.ChangeShapes Go.WideShapes Go.ChangeAt Go.RowKit Go.Deep Go.Proofs.Ytpnmepobdnclkaa.Base Go.Proofs.Ytpnmepobdnclkaa.Base2 Go.Proofs.Ytpnmepobdnclkaa.Base7 Go.Proofs.Ytpnmepobdnclkaa.Num Go.Proofs.Ytpnmepobdnclkaa.Num13 Go.Proofs.Ytpnmepobdnclkaa.Num16 Go.Proofs.Ytpnmepobdnclkaa.Num17 Go.Proofs.Ytpnmepobdnclkaa.Num34 Go.Proofs.Ytpnmepobdnclkaa.Num35 Go.Proofs.Ytpnmepobdnclkaa.Num39 Go.Proofs.Ytpnmepobdnclkaa.Num61 Go.Proofs.Ytpnmepobdnclkaa.Num69 Go.Proofs.Ytpnmepobdnclkaa.Num70 Go.Proofs.Ytpnmepobdnclkaa.Base4 Go.Proofs.Ytpnmepobdnclkaa.Base5 Go.Proofs.Ytpnmepobdnclkaa.Base10 Go.Proofs.Ytpnmepobdnclkaa.Calls69 Go.Proofs.Ytpnmepobdnclkaa.Calls176 Go.Proofs.Ytpnmepobdnclkaa.Calls177 Go.Proofs.Ytpnmepobdnclkaa.Calls180 Go.Proofs.Ytpnmepobdnclkaa.Calls182 Go.Proofs.Ytpnmepobdnclkaa.Calls183 Go.Proofs.Ytpnmepobdnclkaa.Calls184 Go.Proofs.Ytpnmepobdnclkaa.Calls190
open Go.Proofs.Ytpnmepobdnclkaa.Num7 (ev)
open Go.Proofs.Ytpnmepobdnclkaa.Calls71 (al)
open Go.Proofs.Ytpnmepobdnclkaa.Calls87 (ib pb prow_owns infoPt_ex)
open Go.Proofs.Ytpnmepobdnclkaa.Calls88 (Gd shl shl_length shl_py flatP_snoc pair_cells below_snoc)
open Go.Proofs.Ytpnmepobdnclkaa.Calls90 (InM bd_of_in)
open Go.Proofs.Ytpnmepobdnclkaa.Calls58 (mul_bd below_set)
open Go.Proofs.Ytpnmepobdnclkaa.Calls59 (own1_made)
open Go.Proofs.Ytpnmepobdnclkaa.Calls181 (RetPO refSplit_own g_trans g_set g_drewN g_below prow_fresh prow_kept)
open Go.Proofs.Ytpnmepobdnclkaa.Calls186 (tk_in)

/-- A table is returned, alone. -/
def RetT (L : List (List Int)) (e : Ending) (w' : World) : Prop := ∃ ao cap, e = .returned (.slice ao L.length cap) ∧ L.length ≤ cap ∧ RRow w' ao L

/-- What stays known of a round, whatever is made and written behind bs. -/
def Rn (w Wb : World) (bs : Nat) (B0 : Nat) (ga : Array Value) (v : Value) (k : Nat) (L : List (List Int)) (lo ro : Option Addr) (l R : List Int) : Prop :=
  ∀ W, Below bs Wb W → BoxC W B0 54 ga ∧ LTb W w.heap.size v k L ∧ Below w.heap.size w W ∧ IRow W lo l ∧ IRow W ro R

theorem Rn.mk' {w wr : World} {g0 g1 g2 g3 : Value} {v : Value} {k : Nat} {L : List (List Int)} {lo ro : Option Addr} {l R : List Int} (hB : Below w.heap.size w wr) (hT : LTb wr w.heap.size v k L) (hl : IRow w lo l) (hR : IRow w ro R) :
    Rn w (wr.alloc (.cells #[g0, g1, g2, g3] 54)) (wr.heap.size + 1) wr.heap.size #[g0, g1, g2, g3] v k L lo ro l R := fun W hW => by
  have hA := alloc_b wr (.cells #[g0, g1, g2, g3] 54)
  have hs : (wr.alloc (.cells #[g0, g1, g2, g3] 54)).heap.size = wr.heap.size + 1 := World.size_alloc _ _
  have hW' : Below (wr.alloc (.cells #[g0, g1, g2, g3] 54)).heap.size (wr.alloc (.cells #[g0, g1, g2, g3] 54)) W := by rw [hs]; exact hW
  have h1 := below_trans hB (below_trans hA hW')
  exact ⟨(BoxC.new wr 54 _).below hW (by omega), hT.below (below_trans hA hW'), h1, ib hl h1, ib hR h1⟩

theorem Rn.box {w Wb W : World} {bs B0 : Nat} {g0 g1 g2 g3 : Value} {v : Value} {k : Nat} {L : List (List Int)} {lo ro : Option Addr} {l R : List Int} (h : Rn w Wb bs B0 #[g0, g1, g2, g3] v k L lo ro l R) (hW : Below bs Wb W) :
    W.cell? ⟨B0, 0, none⟩ = some g0 ∧ W.cell? ⟨B0, 1, none⟩ = some g1 ∧ W.cell? ⟨B0, 2, none⟩ = some g2 ∧ W.cell? ⟨B0, 3, none⟩ = some g3 := by
  have h1 := (h W hW).1
  exact ⟨h1.cell 0, h1.cell 1, h1.cell 2, h1.cell 3⟩

theorem bl_next {m : Nat} {a b c : World} (h : Below m a b) (hm : m ≤ b.heap.size) (k : Below b.heap.size b c) : Below m a c := h.trans (k.mono hm)

theorem cell_next {a b : World} (k : Below a.heap.size a b) {p : Addr} {v : Value} (h : a.cell? p = some v) : b.cell? p = some v := (k.cell (cell_lt h)).trans h

/-- A row that is written anew, up to k. -/
def fm (f g : Nat → Int) (k j : Nat) : Int := if j < k then g j else f j

theorem fm_zero (f g : Nat → Int) : fm f g 0 = f := by funext j; unfold fm; rw [if_neg (by omega)]
theorem fm_at (f g : Nat → Int) (k : Nat) : fm f g k k = f k := by unfold fm; rw [if_neg (by omega)]
theorem fm_next (f g : Nat → Int) (k : Nat) : up1 (fm f g k) k (g k) = fm f g (k + 1) := by
  funext j
  unfold up1 fm
  by_cases e : j = k
  · rw [if_pos e, if_pos (by omega), e]
  · rw [if_neg e]
    by_cases h : j < k
    · rw [if_pos h, if_pos (by omega)]
    · rw [if_neg h, if_neg (by omega)]
theorem fm_done (f g : Nat → Int) (n : Nat) : mk n (fm f g n) = mk n g := mk_congr fun j hj => if_pos hj

/-- The end of a round: the row is put behind the others. -/
theorem end_row {w Wb W w6 : World} {bs B0 gr V k g' c' : Nat} {ga : Array Value} {v : Value} {L : List (List Int)} {lo ro : Option Addr} {l R : List Int} {us : List Value} {tmp : Obj} {f : Nat → Int} (h : Rn w Wb bs B0 ga v k L lo ro l R) (hbs : B0 < bs) (hlow : ∀ g, v.ownBlock = some g → g < bs) (hW : Below bs Wb W) (hO : Own1 W bs gr V V f) (hf : mk V f = rwl L k)
    (hown : W.ownsRow w.heap.size 22 1 v k us) (hrows : ∀ j, j < k → VAt W v.ownBlock us[j]? (ivals (rwl L j)))
    (h1 : w6.ownsRow w.heap.size 22 1 (.slice (some ⟨g', 0, none⟩) (k + 1) c') (k + 1) (us ++ [.slice (some ⟨gr, 0, none⟩) V V])) (h2 : (W.alloc tmp).grownBy w6 v.ownBlock) (h3 : v.ownBlock = some g' ∨ g' = (W.alloc tmp).heap.size) :
    LTb w6 w.heap.size (.slice (some ⟨g', 0, none⟩) (k + 1) c') (k + 1) L ∧ Below w.heap.size w w6 := by
  have hBw := (h W hW).2.2.1
  exact ⟨LTb.snoc hown hrows hlow hO hf h1 h2 h3, (al hBw tmp).trans (below_grown (hown.alloc tmp) h2 (Nat.le_refl _) (al hBw tmp).size)⟩

set_option maxRecDepth 100000 in
set_option maxHeartbeats 8000000 in
theorem refParts_any (P : Nat) (hP : Pr P) (hP2 : P ≤ 251) (t : Nat) (go lo ro : Option Addr) (n cg cl cr : Nat) (F : Nat → Nat → Int) (l R : List Int) (hR : R.length ≤ 9223372036854775807) (hC : PlC (P : Int) (t : Int) n F l R 0) (r : Nat → Int) (hr : ∀ i, i < 2 * t + 1 → JoinIs P XP (dl i) (2 * t + 1) (r i)) (w : World) (hrow : IRow w lo l) (hrnd : IRow w ro R) (hg : GRow w go 4 n F) :
    Calls Try.prog 18 #[.int .i64 (P : Int), .int .i64 (t : Int), .slice go n cg, .slice lo l.length cl, .slice ro R.length cr] w fun e w' => RetT (rows P t l R r F n) e w' ∧ Below w.heap.size w w' := by
  obtain ⟨i0, hi, hz0, hz1, hz2⟩ := info_ex
  obtain ⟨i2, hi', hy0, hy1, hy2⟩ := infoLS_ex
  obtain ⟨i4, hi4, hp4, hp41, hp42⟩ := infoPt_ex
  obtain ⟨hGC, ⟨ht0, ht4, htP⟩, hRI⟩ := hC.ok
  obtain ⟨_, hn, hl, hI, hG⟩ := hGC.ok
  have hP1 := hP.1
  have hp0 : ¬ (P : Int) = 0 := by omega
  have hpN : ¬ P = 0 := by omega
  have htN : t ≤ 4 := by omega
  obtain ⟨V, hV⟩ : ∃ V, V = 2 * t + 1 := ⟨_, rfl⟩
  have hVP : V < P := by omega
  rw [← hV] at hr
  have hV9 : 1 ≤ V ∧ V ≤ 9 := by omega
  have hVi : Hid (2 * (t : Int) + 1 = (V : Int)) := by show _ = _; omega
  have cT := hid (fun (u : Nat) (hu : u ≤ 1048576) (W : World) (h : IRow W ro R) => refTaken_any ro cr R hR u t hu htN W h)
  have cS := hid (fun (s : Int) (hs : 0 ≤ s ∧ s < (P : Int)) (u : Nat) (mo : Option Addr) (cm : Nat) (W : World) (h : IRow W mo (tk R u t)) => refSplit_own P hP1 hP2 s V mo cm (tk R u t) (by rw [tk_length]; omega) ⟨hs, bd_of_in (tk_in (by omega) hRI u t), by omega, by omega⟩ W h)
  have cJ := hid (fun (i : Nat) (hi : i < V) (ao : Option Addr) (cap : Nat) (W : World) (h : PRow W ao (mp V XP (dl i))) => refJoin_mp P hP hP2 V hVP (by omega) (dl i) (fun j _ => by unfold dl; split <;> omega) (r i) (hr i hi) ao cap W h)
  unfold RetL at cT
  unfold RetPO at cS
  simp only [tk_length] at cT cS
  simp only [shl_length] at cS
  obtain ⟨L, hL⟩ : ∃ L, L = rows P t l R r F n := ⟨_, rfl⟩
  have hLn : Hid (L.length = n) := by rw [hL]; exact rows_length _ _ _ _ _ _ _
  have hLV : Hid (∀ j, j < n → (rwl L j).length = V) := fun j hj => by rw [hL, row_is P t l R r F hj, rst_length, hV]
  have hone := all_one hP (by omega : 2 * t + 1 < P) (l := l) (rnd := R) (fun i hi => hI i hi) (r := r) (by rw [← hV]; exact hr) (F := F) (n := n) hG
  have hLI : Hid (∀ j, j < n → InM (P : Int) (rwl L j) V) := fun j hj i hi => by rw [hL]; exact (hone j hj).2.2.1 i (by omega)
  have hRb : Hid (∀ i, i < V → 0 ≤ r i ∧ r i < (P : Int)) := fun i hi => by
    obtain ⟨a, _, e⟩ := hr i hi
    rw [e]; exact mod_bd (by omega) _
  have HV1 : Hid (∀ k a, k < n → F k 0 = 1 → F k 1 = ((a : Nat) : Int) → mk V (shr P R t (co l a) (us t F k)) = rwl L k) := fun k a hk e ha => by rw [hL, hV]; exact (row_in hk e ha).symm
  have HV2 : Hid (∀ k, k < n → F k 0 = 2 → mk V (fun _ => F k 3) = rwl L k) := fun k hk e => by rw [hL, hV]; exact (row_co hk e).symm
  have HV3 : Hid (∀ k a b, k < n → F k 0 = 3 → F k 1 = ((a : Nat) : Int) → F k 2 = ((b : Nat) : Int) → a < k → b < k → mk V (fun j => (co (rwl L a) j + co (rwl L b) j) % (P : Int)) = rwl L k) := fun k a b hk e ha hb hak hbk => by rw [hL, hV]; exact (row_add hk e ha hb hak hbk).symm
  have HV4 : Hid (∀ k a b, k < n → F k 0 = 4 → F k 1 = ((a : Nat) : Int) → F k 2 = ((b : Nat) : Int) → a < k → b < k → mk V (mrow P R t r (rwl L a) (rwl L b) (us t F k) V) = rwl L k) := fun k a b hk e ha hb hak hbk => by
    rw [hL, hV]; exact (row_mul hk e ha hb hak hbk).symm
  have HU1 : Hid (∀ k, F k 0 = 1 → us t F (k + 1) = us t F k + t) := fun k e => us_in e
  have HU2 : Hid (∀ k, F k 0 = 2 ∨ F k 0 = 3 → us t F (k + 1) = us t F k) := fun k e => us_no e
  have HU4 : Hid (∀ k, F k 0 = 4 → us t F (k + 1) = us t F k + V * t) := fun k e => by rw [hV]; exact us_mul e
  have HUb : Hid (∀ k, k ≤ n → us t F k ≤ 2160) := fun k hk => by have := us_le htN F k; omega
  obtain ⟨N, hN⟩ : ∃ N, N = l.length := ⟨_, rfl⟩
  have HN : Hid (N = l.length) := hN
  have HRl := hid hrow
  have HRr := hid hrnd
  have HG := hid hg
  have HK := hid hG
  have HI := hid hI
  have hUS : Hid (us t F 0 = 0) := rfl
  rw [← hL]
  rw [← hN] at hl ⊢
  generalize hNR : R.length = nr at *
  clear hN hrow hrnd hg hG hI hL hV hone hr hGC hC ht0 ht4 htP hRI hNR
  go_enter Try.func18, Try.ntmps18
  go_wp2
  rw [hVi.out]
  go_loopw [12, 13, 33] (fun u v x wr => ∃ k : Nat, u = .int .i64 (us t F k : Int) ∧ x = .int .i64 (k : Int) ∧ k ≤ n ∧ Hid (LTb wr w.heap.size v k L) ∧ Hid (Below w.heap.size w wr)) (fun u v x wr => ((n : Int) - intOf x).toNat)
  case atStart => exact ⟨0, by rw [hUS.out]; rfl, rfl, by omega, LTb.nil _ _ _, Below.refl _ _⟩
  case round =>
    obtain ⟨k, rfl, rfl, hk, hT, hB⟩ := hrel
    by_cases hgo : k < n
    · have hgo' : (k : Int) < (n : Int) := by omega
      obtain ⟨ao, C, rfl, hkC⟩ := hT.out.form
      have hlowr := hT.out.lt
      rcases go with _ | ad
      · exact (grow_none HG.out hgo).elim
      obtain ⟨c0, c1, c2, c3⟩ := gcell (gb HG.out hB.out) hgo
      have hwr := hB.out.size
      obtain ⟨U, hU⟩ : ∃ U, U = us t F k := ⟨_, rfl⟩
      have hUb : U ≤ 2160 := by rw [hU]; exact HUb.out k (by omega)
      have HUk := hid hU
      rw [← hU]
      clear hU
      rcases HK.out k hgo with ⟨e, a, ha, hal⟩ | ⟨e, h2⟩ | ⟨e, a, b, ha, hb, hak, hbk⟩ | ⟨e, a, b, ha, hb, hak, hbk⟩
      · have hv := hid (HV1.out k a hgo e ha)
        have hu := hid (HU1.out k e)
        rw [e] at c0
        rw [ha] at c1
        have hzb := HI.out a hal
        have haN : a < N := by have := HN.out; omega
        have hai : (a : Int) < (N : Int) := by omega
        have hrl0 := HRl.out
        rcases lo with _ | ad2
        · exact (irow_none hrl0 hal).elim
        clear hrl0 e ha
        rw [← HUk.out] at hv
        obtain ⟨z, hz⟩ : ∃ z, co l a = z := ⟨_, rfl⟩
        rw [hz] at hzb hv
        generalize F k 2 = f2 at *
        generalize F k 3 = f3 at *
        have HF := hid (Rn.mk' (g0 := .int .i64 1) (g1 := .int .i64 (a : Int)) (g2 := .int .i64 f2) (g3 := .int .i64 f3) hB.out hT.out HRl.out HRr.out)
        have HLow : Hid (∀ g, (Value.slice ao k C).ownBlock = some g → g < wr.heap.size + 1) := fun g e => by have := (hlowr g e).2; omega
        go_wp2_with (first
          | (at_make; refine wpList_make_full _ rfl _ _ 22 rfl (wr.heap.size + 1) 2 i0 (.int .i64 0) 1 Try.underlying22 hi hz0 hz1 .i64 .i64 (V : Int) (V : Int) V rfl rfl rfl rfl (by rw [hz2]; omega) (by unfold maxLen; omega) (by rw [World.size_alloc]; exact Nat.le_refl _) ?_; intro w2 hown2 hgrow2; have HB2 : Hid (Below (wr.heap.size + 1) (wr.alloc (.cells #[.int .i64 1, .int .i64 (a : Int), .int .i64 f2, .int .i64 f3] 54)) w2) := (Below.refl _ (wr.alloc (.cells #[.int .i64 1, .int .i64 (a : Int), .int .i64 f2, .int .i64 f3] 54))).grown hgrow2 (by rw [World.size_alloc]; exact Nat.le_refl _) (fun j e => by cases e); have HO2 := hid (own1_made (base := wr.heap.size + 1) (g := wr.heap.size + 1) (by rw [World.size_alloc] at hown2; exact hown2)); obtain ⟨x0, x1, x2, x3⟩ := Rn.box HF.out HB2.out; clear hown2 hgrow2)
          | (go_at_call 32; refine (cT.out U (by omega) w2 (HF.out _ HB2.out).2.2.2.2).mono ?_; rintro e w3 ⟨⟨mo, cm, rfl, hcm, hr3⟩, hB3⟩; have HB3 : Hid (Below (wr.heap.size + 1) (wr.alloc (.cells #[.int .i64 1, .int .i64 (a : Int), .int .i64 f2, .int .i64 f3] 54)) w3) := bl_next HB2.out (by have := HO2.out.lt.2; omega) hB3; have HO3 := hid (HO2.out.below hB3); have HR3 := hid hr3; have HZ3 := hid hB3.size; clear x0 x1 x2 x3; obtain ⟨x0, x1, x2, x3⟩ := Rn.box HF.out HB3.out; have d0 := (HF.out _ HB3.out).2.2.2.1.2 ad2 rfl a hal; rw [hz] at d0; clear hB3 hr3)
          | (go_at_call 33; refine (cS.out z hzb U mo cm w3 HR3.out).mono ?_; rintro e w4 ⟨⟨po, pc, rfl, hpc, hr4, hpo⟩, hB4⟩; have HB4 : Hid (Below (wr.heap.size + 1) (wr.alloc (.cells #[.int .i64 1, .int .i64 (a : Int), .int .i64 f2, .int .i64 f3] 54)) w4) := bl_next HB3.out (by have := HO3.out.lt.2; omega) hB4; have HO4 := hid (HO3.out.below hB4); have HP4 := hid hr4; have HPo : Hid (∀ ad, po = some ad → wr.heap.size + 1 < ad.block) := fun ad e => (by have h1 := hpo ad e; have h2 := HO3.out.lt.2; omega); clear x0 x1 x2 x3; obtain ⟨x0, x1, x2, x3⟩ := Rn.box HF.out HB4.out; clear hB4 hr4 hpo))
        obtain ⟨Wb, hWb⟩ : ∃ Wb, Wb = wr.alloc (.cells #[.int .i64 1, .int .i64 (a : Int), .int .i64 f2, .int .i64 f3] 54) := ⟨_, rfl⟩
        obtain ⟨bs, hbs⟩ : ∃ bs, bs = wr.heap.size + 1 := ⟨_, rfl⟩
        obtain ⟨B0, hB0⟩ : ∃ B0, B0 = wr.heap.size := ⟨_, rfl⟩
        have hbB : B0 < bs := by omega
        have hwbs : w.heap.size ≤ bs := by omega
        rw [← hWb, ← hbs] at HF HB4
        rw [← hbs] at HO4 HPo HLow ⊢
        rw [← hB0] at HF x0 x1 x2 x3 ⊢
        clear HO2 HB2 HO3 HB3 HR3 HZ3 d0 hal hz hT hB c0 c1 c2 c3 hlowr hwr hWb hbs hB0
        have HUt : Hid ((U : Int) + (t : Int) = ((us t F (k + 1) : Nat) : Int)) := by show _ = _; have h1 := hu.out; have h2 := HUk.out; omega
        have HSL := hid (shl_length P z (tk R U t) V)
        have HSH : Hid (∀ j, j < V → py (shl P z (tk R U t) V) j = shr P R t z U j) := fun j hj => shl_py hj
        go_wp2
        go_loopw [59] (fun i wr => ∃ j : Nat, i = .int .i64 (j : Int) ∧ j ≤ V ∧ Hid (Own1 wr bs bs V V (fz (shr P R t z U) j)) ∧ Hid (PRow wr po (shl P z (tk R U t) V)) ∧ Hid (Below bs Wb wr)) (fun i wr => ((V : Int) - intOf i).toNat)
        case atStart => exact ⟨0, rfl, by omega, by rw [fz_zero]; exact HO4, HP4, HB4⟩
        case round =>
          clear HO4 HP4 HB4 x0 x1 x2 x3
          obtain ⟨j, rfl, hj, hO, hP4, hB⟩ := hrel
          by_cases hgj : j < V
          · have hgj' : (j : Int) < (V : Int) := by omega
            rcases po with _ | pd
            · have h1 := hP4.out.1 rfl
              have h2 := HSL.out
              rw [h1] at h2
              simp at h2
              omega
            · obtain ⟨q1, q2⟩ := hP4.out.2 pd rfl j (by rw [HSL.out]; exact hgj)
              rw [add_two] at q2
              have hvj : Hid (((shl P z (tk R U t) V).getD j (0, 0)).2 = shr P R t z U j) := HSH.out j hgj
              have HOx : Hid (∀ o, Own1 (wr.alloc o) bs bs V V (fz (shr P R t z U) j)) := fun o => hO.out.below (alloc_b wr o)
              have HBx : Hid (∀ o, Below bs Wb (wr.alloc o)) := fun o => bl_next hB.out (by have := hO.out.lt.2; omega) (alloc_b wr o)
              have HPx : Hid (∀ o, PRow (wr.alloc o) (some pd) (shl P z (tk R U t) V)) := fun o => pb hP4.out (alloc_b wr o)
              generalize ((shl P z (tk R U t) V).getD j (0, 0)).1 = x at *
              generalize ((shl P z (tk R U t) V).getD j (0, 0)).2 = y at *
              have y1 := (HOx.out (.cells #[.int .i64 x, .int .i64 y] 30)).cell hgj
              have y2 := (HOx.out (.cells #[.int .i64 x, .int .i64 y] 30)).frozen j
              have hO7 : Hid (Own1 ((wr.alloc (.cells #[.int .i64 x, .int .i64 y] 30)).setCell ⟨bs, j, none⟩ (.int .i64 y)) bs bs V V (fz (shr P R t z U) (j + 1))) := ((HOx.out _).set j _).congr (by rw [hvj.out]; exact fz_next _ j)
              have hB7 : Hid (Below bs Wb ((wr.alloc (.cells #[.int .i64 x, .int .i64 y] 30)).setCell ⟨bs, j, none⟩ (.int .i64 y))) := below_set (HBx.out _) (Nat.le_refl _) j _
              have hP7 : Hid (PRow ((wr.alloc (.cells #[.int .i64 x, .int .i64 y] 30)).setCell ⟨bs, j, none⟩ (.int .i64 y)) (some pd) (shl P z (tk R U t) V)) := prow_kept (HPx.out _) (g_set _ bs j _) (fun ad e => HPo.out ad e)
              generalize fz (shr P R t z U) j j = u1 at *
              clear hvj HOx HBx HPx
              go_wp2
              go_roundw
              case rel => exact ⟨j + 1, by simp, by omega, hO7, hP7, hB7⟩
              case measure => exact measK hgj
          · have hgj' : ¬ (j : Int) < (V : Int) := by omega
            obtain rfl : V = j := by omega
            have hO9 : Hid (mk V (fz (shr P R t z U) V) = rwl L k) := by show _ = _; rw [fz_done]; exact hv.out
            obtain ⟨x0, x1, x2, x3⟩ := Rn.box HF.out hB.out
            go_wp2
            go_loop [20] (fun i => ∃ j : Nat, i = .int .i64 (j : Int) ∧ j ≤ V) (fun i => ((V : Int) - intOf i).toNat)
            case atStart => exact ⟨0, rfl, by omega⟩
            case round =>
              obtain ⟨q, rfl, hq⟩ := hrel
              by_cases hgq : q < V
              · have hgq' : (q : Int) < (V : Int) := by omega
                go_wp2
                go_round
                case rel => exact ⟨q + 1, by simp, by omega⟩
                case measure => exact measK hgq
              · have hgq' : ¬ (q : Int) < (V : Int) := by omega
                obtain rfl : V = q := by omega
                have HE := HF.out wr hB.out
                obtain ⟨us', hown, hrows⟩ := HE.2.1
                have HBw := hid HE.2.2.1
                have Hown := hid hown
                have Hrows := hid hrows
                have hsz := HBw.out.size
                clear HE hown hrows
                go_wp2_with (at_builtin; (refine wpList_append_own0 _ rfl _ _ 40 rfl w.heap.size 22 i2 (.slice none 0 0) 1 24 Try.underlying40 hi' hy0 hy1 hy2 rfl (by decide) _ k us' rfl (Hown.out.alloc _) ⟨wr.heap.size, 0, none⟩ 1 1 [.slice (some ⟨bs, 0, none⟩) V V] rfl rfl one_cell (by simp [Value.oneCell']) (by omega) (by unfold maxLen; omega) (by omega) (by simp; omega) ?_; intro g' c' w6 hown6 hgrow6 hat6 hlt6; obtain ⟨e1, e2⟩ := end_row HF.out hbB HLow.out hB.out hO.out hO9.out Hown.out Hrows.out hown6 hgrow6 hat6; have HT6 := hid e1; have HB6 := hid e2; clear hown6 hgrow6 hat6 hlt6 e1 e2))
                go_roundw
                case rel => exact ⟨k + 1, by rw [HUt.out], by simp, by omega, HT6, HB6⟩
                case measure => exact measK hgo
      · have hv := hid (HV2.out k hgo e)
        have hu := hid (HU2.out k (.inl e))
        rw [e] at c0
        clear e h2
        have HF := hid (Rn.mk' (g0 := .int .i64 2) (g1 := .int .i64 (F k 1)) (g2 := .int .i64 (F k 2)) (g3 := .int .i64 (F k 3)) hB.out hT.out HRl.out HRr.out)
        have HLow : Hid (∀ g, (Value.slice ao k C).ownBlock = some g → g < wr.heap.size + 1) := fun g e => by have := (hlowr g e).2; omega
        go_wp2_with (first
          | (at_make; refine wpList_make_full _ rfl _ _ 22 rfl (wr.heap.size + 1) 2 i0 (.int .i64 0) 1 Try.underlying22 hi hz0 hz1 .i64 .i64 (V : Int) (V : Int) V rfl rfl rfl rfl (by rw [hz2]; omega) (by unfold maxLen; omega) (by rw [World.size_alloc]; exact Nat.le_refl _) ?_; intro w2 hown2 hgrow2; have HB2 : Hid (Below (wr.heap.size + 1) (wr.alloc (.cells #[.int .i64 2, .int .i64 (F k 1), .int .i64 (F k 2), .int .i64 (F k 3)] 54)) w2) := (Below.refl _ (wr.alloc (.cells #[.int .i64 2, .int .i64 (F k 1), .int .i64 (F k 2), .int .i64 (F k 3)] 54))).grown hgrow2 (by rw [World.size_alloc]; exact Nat.le_refl _) (fun j e => by cases e); have HO2 := hid (own1_made (base := wr.heap.size + 1) (g := wr.heap.size + 1) (by rw [World.size_alloc] at hown2; exact hown2)); obtain ⟨x0, x1, x2, x3⟩ := Rn.box HF.out HB2.out; clear hown2 hgrow2))
        obtain ⟨Wb, hWb⟩ : ∃ Wb, Wb = wr.alloc (.cells #[.int .i64 2, .int .i64 (F k 1), .int .i64 (F k 2), .int .i64 (F k 3)] 54) := ⟨_, rfl⟩
        obtain ⟨bs, hbs⟩ : ∃ bs, bs = wr.heap.size + 1 := ⟨_, rfl⟩
        obtain ⟨B0, hB0⟩ : ∃ B0, B0 = wr.heap.size := ⟨_, rfl⟩
        have hbB : B0 < bs := by omega
        have hwbs : w.heap.size ≤ bs := by omega
        rw [← hWb, ← hbs] at HF HB2
        rw [← hbs] at HO2 HLow ⊢
        rw [← hB0] at HF x0 x1 x2 x3 ⊢
        clear hT hB c0 c1 c2 c3 hlowr hwr hWb hbs hB0
        generalize F k 1 = f1 at *
        generalize F k 2 = f2 at *
        generalize F k 3 = z at *
        go_wp2
        go_loopw [20] (fun i wr => ∃ j : Nat, i = .int .i64 (j : Int) ∧ j ≤ V ∧ Hid (Own1 wr bs bs V V (fz (fun _ => z) j)) ∧ Hid (Below bs Wb wr)) (fun i wr => ((V : Int) - intOf i).toNat)
        case atStart => exact ⟨0, rfl, by omega, by rw [fz_zero]; exact HO2, HB2⟩
        case round =>
          clear HO2 HB2 x0 x1 x2 x3
          obtain ⟨j, rfl, hj, hO, hB⟩ := hrel
          obtain ⟨x0, x1, x2, x3⟩ := Rn.box HF.out hB.out
          by_cases hgj : j < V
          · have hgj' : (j : Int) < (V : Int) := by omega
            have d1 := hO.out.cell hgj
            have d2 := hO.out.frozen j
            have hO3 : Hid (Own1 (wr.setCell ⟨bs, j, none⟩ (.int .i64 z)) bs bs V V (fz (fun _ => z) (j + 1))) := (hO.out.set j z).congr (fz_next (fun _ => z) j)
            have hB3 : Hid (Below bs Wb (wr.setCell ⟨bs, j, none⟩ (.int .i64 z))) := below_set hB.out (Nat.le_refl _) j _
            generalize fz (fun _ => z) j j = u1 at *
            go_wp2
            go_roundw
            case rel => exact ⟨j + 1, by simp, by omega, hO3, hB3⟩
            case measure => exact measK hgj
          · have hgj' : ¬ (j : Int) < (V : Int) := by omega
            obtain rfl : V = j := by omega
            have hO9 : Hid (mk V (fz (fun _ => z) V) = rwl L k) := by show _ = _; rw [fz_done]; exact hv.out
            have HE := HF.out wr hB.out
            obtain ⟨us', hown, hrows⟩ := HE.2.1
            have HBw := hid HE.2.2.1
            have Hown := hid hown
            have Hrows := hid hrows
            have hsz := HBw.out.size
            clear HE hown hrows
            go_wp2_with (at_builtin; (refine wpList_append_own0 _ rfl _ _ 40 rfl w.heap.size 22 i2 (.slice none 0 0) 1 24 Try.underlying40 hi' hy0 hy1 hy2 rfl (by decide) _ k us' rfl (Hown.out.alloc _) ⟨wr.heap.size, 0, none⟩ 1 1 [.slice (some ⟨bs, 0, none⟩) V V] rfl rfl one_cell (by simp [Value.oneCell']) (by omega) (by unfold maxLen; omega) (by omega) (by simp; omega) ?_; intro g' c' w6 hown6 hgrow6 hat6 hlt6; obtain ⟨e1, e2⟩ := end_row HF.out hbB HLow.out hB.out hO.out hO9.out Hown.out Hrows.out hown6 hgrow6 hat6; have HT6 := hid e1; have HB6 := hid e2; clear hown6 hgrow6 hat6 hlt6 e1 e2))
            go_roundw
            case rel => exact ⟨k + 1, by rw [HUk.out, hu.out], by simp, by omega, HT6, HB6⟩
            case measure => exact measK hgo
      · have hv := hid (HV3.out k a b hgo e ha hb hak hbk)
        have hu := hid (HU2.out k (.inr e))
        rw [e] at c0
        rw [ha] at c1
        rw [hb] at c2
        clear e ha hb
        have HF := hid (Rn.mk' (g0 := .int .i64 3) (g1 := .int .i64 (a : Int)) (g2 := .int .i64 (b : Int)) (g3 := .int .i64 (F k 3)) hB.out hT.out HRl.out HRr.out)
        have HLow : Hid (∀ g, (Value.slice ao k C).ownBlock = some g → g < wr.heap.size + 1) := fun g e => by have := (hlowr g e).2; omega
        go_wp2_with (first
          | (at_make; refine wpList_make_full _ rfl _ _ 22 rfl (wr.heap.size + 1) 2 i0 (.int .i64 0) 1 Try.underlying22 hi hz0 hz1 .i64 .i64 (V : Int) (V : Int) V rfl rfl rfl rfl (by rw [hz2]; omega) (by unfold maxLen; omega) (by rw [World.size_alloc]; exact Nat.le_refl _) ?_; intro w2 hown2 hgrow2; have HB2 : Hid (Below (wr.heap.size + 1) (wr.alloc (.cells #[.int .i64 3, .int .i64 (a : Int), .int .i64 (b : Int), .int .i64 (F k 3)] 54)) w2) := (Below.refl _ (wr.alloc (.cells #[.int .i64 3, .int .i64 (a : Int), .int .i64 (b : Int), .int .i64 (F k 3)] 54))).grown hgrow2 (by rw [World.size_alloc]; exact Nat.le_refl _) (fun j e => by cases e); have HO2 := hid (own1_made (base := wr.heap.size + 1) (g := wr.heap.size + 1) (by rw [World.size_alloc] at hown2; exact hown2)); obtain ⟨x0, x1, x2, x3⟩ := Rn.box HF.out HB2.out; clear hown2 hgrow2))
        obtain ⟨Wb, hWb⟩ : ∃ Wb, Wb = wr.alloc (.cells #[.int .i64 3, .int .i64 (a : Int), .int .i64 (b : Int), .int .i64 (F k 3)] 54) := ⟨_, rfl⟩
        obtain ⟨bs, hbs⟩ : ∃ bs, bs = wr.heap.size + 1 := ⟨_, rfl⟩
        obtain ⟨B0, hB0⟩ : ∃ B0, B0 = wr.heap.size := ⟨_, rfl⟩
        have hbB : B0 < bs := by omega
        have hwbs : w.heap.size ≤ bs := by omega
        rw [← hWb, ← hbs] at HF HB2
        rw [← hbs] at HO2 HLow ⊢
        rw [← hB0] at HF x0 x1 x2 x3 ⊢
        clear hT hB c0 c1 c2 c3 hlowr hwr hWb hbs hB0
        generalize F k 3 = f3 at *
        have hla := hid (hLV.out a (by omega))
        have hlb := hid (hLV.out b (by omega))
        have hia := hid (hLI.out a (by omega))
        have hib := hid (hLI.out b (by omega))
        have hai : (a : Int) < (k : Int) := by omega
        have hbi : (b : Int) < (k : Int) := by omega
        obtain ⟨f, hf⟩ : ∃ f : Nat → Int, f = fun j => (co (rwl L a) j + co (rwl L b) j) % (P : Int) := ⟨_, rfl⟩
        have HFj : Hid (∀ j, (co (rwl L a) j + co (rwl L b) j) % (P : Int) = f j) := fun j => by rw [hf]
        rw [← hf] at hv
        clear hf
        go_wp2
        go_loopw [20] (fun i wr => ∃ j : Nat, i = .int .i64 (j : Int) ∧ j ≤ V ∧ Hid (Own1 wr bs bs V V (fz f j)) ∧ Hid (Below bs Wb wr)) (fun i wr => ((V : Int) - intOf i).toNat)
        case atStart => exact ⟨0, rfl, by omega, by rw [fz_zero]; exact HO2, HB2⟩
        case round =>
          clear HO2 HB2 x0 x1 x2 x3
          obtain ⟨j, rfl, hj, hO, hB⟩ := hrel
          obtain ⟨x0, x1, x2, x3⟩ := Rn.box HF.out hB.out
          by_cases hgj : j < V
          · have hgj' : (j : Int) < (V : Int) := by omega
            have d1 := hO.out.cell hgj
            have d2 := hO.out.frozen j
            obtain ⟨G, ga, ca, eG, y1, y2, y3⟩ := (HF.out wr hB.out).2.1.at hak hla.out
            obtain ⟨G', gb', cb', eG', y4, y5, y6⟩ := (HF.out wr hB.out).2.1.at hbk hlb.out
            obtain rfl : G = G' := by rw [eG] at eG'; have := Option.some.inj eG'; exact congrArg Addr.block this
            subst eG
            clear eG'
            have y7 := y3 j hgj
            have y8 := y6 j hgj
            have hx := hia.out j hgj
            have hy := hib.out j hgj
            have hO3 : Hid (Own1 (wr.setCell ⟨bs, j, none⟩ (.int .i64 ((co (rwl L a) j + co (rwl L b) j) % (P : Int)))) bs bs V V (fz f (j + 1))) := (hO.out.set j _).congr (by rw [HFj.out]; exact fz_next f j)
            have hB3 : Hid (Below bs Wb (wr.setCell ⟨bs, j, none⟩ (.int .i64 ((co (rwl L a) j + co (rwl L b) j) % (P : Int))))) := below_set hB.out (Nat.le_refl _) j _
            generalize fz f j j = u1 at *
            generalize co (rwl L a) j = z1 at *
            generalize co (rwl L b) j = z2 at *
            have r1 : IntKind.i64.wrap (z1 + z2) = z1 + z2 := wrap_in _ (by omega) (by omega)
            have r2 : (0 : Int) ≤ z1 + z2 := by omega
            clear y2 y3 y5 y6
            go_wp2
            go_region
            all_goals
              go_wp2
              go_roundw
              case rel => exact ⟨j + 1, by simp, by omega, hO3, hB3.out.drew⟩
              case measure => exact measK hgj
          · have hgj' : ¬ (j : Int) < (V : Int) := by omega
            obtain rfl : V = j := by omega
            have hO9 : Hid (mk V (fz f V) = rwl L k) := by show _ = _; rw [fz_done]; exact hv.out
            have HE := HF.out wr hB.out
            obtain ⟨us', hown, hrows⟩ := HE.2.1
            have HBw := hid HE.2.2.1
            have Hown := hid hown
            have Hrows := hid hrows
            have hsz := HBw.out.size
            clear HE hown hrows
            go_wp2_with (at_builtin; (refine wpList_append_own0 _ rfl _ _ 40 rfl w.heap.size 22 i2 (.slice none 0 0) 1 24 Try.underlying40 hi' hy0 hy1 hy2 rfl (by decide) _ k us' rfl (Hown.out.alloc _) ⟨wr.heap.size, 0, none⟩ 1 1 [.slice (some ⟨bs, 0, none⟩) V V] rfl rfl one_cell (by simp [Value.oneCell']) (by omega) (by unfold maxLen; omega) (by omega) (by simp; omega) ?_; intro g' c' w6 hown6 hgrow6 hat6 hlt6; obtain ⟨e1, e2⟩ := end_row HF.out hbB HLow.out hB.out hO.out hO9.out Hown.out Hrows.out hown6 hgrow6 hat6; have HT6 := hid e1; have HB6 := hid e2; clear hown6 hgrow6 hat6 hlt6 e1 e2))
            go_roundw
            case rel => exact ⟨k + 1, by rw [HUk.out, hu.out], by simp, by omega, HT6, HB6⟩
            case measure => exact measK hgo
      · have hv := hid (HV4.out k a b hgo e ha hb hak hbk)
        have hu := hid (HU4.out k e)
        rw [e] at c0
        rw [ha] at c1
        rw [hb] at c2
        clear e ha hb
        have HF := hid (Rn.mk' (g0 := .int .i64 4) (g1 := .int .i64 (a : Int)) (g2 := .int .i64 (b : Int)) (g3 := .int .i64 (F k 3)) hB.out hT.out HRl.out HRr.out)
        have HLow : Hid (∀ g, (Value.slice ao k C).ownBlock = some g → g < wr.heap.size + 1) := fun g e => by have := (hlowr g e).2; omega
        go_wp2_with (first
          | (at_make; refine wpList_make_full _ rfl _ _ 22 rfl (wr.heap.size + 1) 2 i0 (.int .i64 0) 1 Try.underlying22 hi hz0 hz1 .i64 .i64 (V : Int) (V : Int) V rfl rfl rfl rfl (by rw [hz2]; omega) (by unfold maxLen; omega) (by rw [World.size_alloc]; exact Nat.le_refl _) ?_; intro w2 hown2 hgrow2; have HB2 : Hid (Below (wr.heap.size + 1) (wr.alloc (.cells #[.int .i64 4, .int .i64 (a : Int), .int .i64 (b : Int), .int .i64 (F k 3)] 54)) w2) := (Below.refl _ (wr.alloc (.cells #[.int .i64 4, .int .i64 (a : Int), .int .i64 (b : Int), .int .i64 (F k 3)] 54))).grown hgrow2 (by rw [World.size_alloc]; exact Nat.le_refl _) (fun j e => by cases e); have HO2 := hid (own1_made (base := wr.heap.size + 1) (g := wr.heap.size + 1) (by rw [World.size_alloc] at hown2; exact hown2)); obtain ⟨x0, x1, x2, x3⟩ := Rn.box HF.out HB2.out; clear hown2 hgrow2))
        obtain ⟨Wb, hWb⟩ : ∃ Wb, Wb = wr.alloc (.cells #[.int .i64 4, .int .i64 (a : Int), .int .i64 (b : Int), .int .i64 (F k 3)] 54) := ⟨_, rfl⟩
        obtain ⟨bs, hbs⟩ : ∃ bs, bs = wr.heap.size + 1 := ⟨_, rfl⟩
        obtain ⟨B0, hB0⟩ : ∃ B0, B0 = wr.heap.size := ⟨_, rfl⟩
        have hbB : B0 < bs := by omega
        have hwbs : w.heap.size ≤ bs := by omega
        rw [← hWb, ← hbs] at HF HB2
        rw [← hbs] at HO2 HLow ⊢
        rw [← hB0] at HF x0 x1 x2 x3 ⊢
        clear hT hB c0 c1 c2 c3 hlowr hwr hWb hbs hB0
        generalize F k 3 = f3 at *
        rw [← HUk.out] at hv
        have hla := hid (hLV.out a (by omega))
        have hlb := hid (hLV.out b (by omega))
        have hia := hid (hLI.out a (by omega))
        have hib := hid (hLI.out b (by omega))
        have hai : (a : Int) < (k : Int) := by omega
        have hbi : (b : Int) < (k : Int) := by omega
        have HUt : Hid ((U : Int) + (V : Int) * (t : Int) = ((us t F (k + 1) : Nat) : Int)) := by show _ = _; have h1 := hu.out; have h2 := HUk.out; rw [h1, ← h2, Int.natCast_add, Int.natCast_mul]
        go_wp2
        go_loop [20] (fun i => ∃ j : Nat, i = .int .i64 (j : Int) ∧ j ≤ V) (fun i => ((V : Int) - intOf i).toNat)
        case atStart => exact ⟨0, rfl, by omega⟩
        case round =>
          obtain ⟨q0, rfl, hq0⟩ := hrel
          by_cases hgq0 : q0 < V
          · have hgq0' : (q0 : Int) < (V : Int) := by omega
            go_wp2
            go_round
            case rel => exact ⟨q0 + 1, by simp, by omega⟩
            case measure => exact measK hgq0
          · have hgq0' : ¬ (q0 : Int) < (V : Int) := by omega
            obtain rfl : V = q0 := by omega
            go_wp2
            go_loopw [12, 21] (fun u i wr => ∃ q : Nat, u = .int .i64 ((U + q * t : Nat) : Int) ∧ i = .int .i64 (q : Int) ∧ q ≤ V ∧ Hid (Own1 wr bs bs V V (mrow P R t r (rwl L a) (rwl L b) U q)) ∧ Hid (Below bs Wb wr)) (fun u i wr => ((V : Int) - intOf i).toNat)
            case atStart => exact ⟨0, by simp, rfl, by omega, HO2, HB2⟩
            case round =>
              clear HO2 HB2 x0 x1 x2 x3
              obtain ⟨q, rfl, rfl, hq, hO, hB⟩ := hrel
              by_cases hgq : q < V
              · have hgq' : (q : Int) < (V : Int) := by omega
                obtain ⟨W0, hW0⟩ : ∃ W0, W0 = wr := ⟨_, rfl⟩
                rw [← hW0] at hO hB ⊢
                clear hW0
                have hbsW := hO.out.lt.2
                obtain ⟨S0, hS0⟩ : ∃ S0, S0 = U + q * t := ⟨_, rfl⟩
                have hS1 : Hid (((S0 : Nat) : Int) + (t : Int) = ((U + (q + 1) * t : Nat) : Int)) := by show _ = _; rw [hS0, Nat.add_mul, Nat.one_mul]; omega
                have hSb : S0 ≤ 1048576 := by have : q * t ≤ 9 * 4 := Nat.mul_le_mul (by omega) htN
                                              omega
                have HS0 := hid hS0
                rw [← hS0]
                clear hS0
                go_wp2
                go_loopw [22, 23] (fun v i wr => ∃ j : Nat, i = .int .i64 (j : Int) ∧ j ≤ V ∧ Hid (wr.ownsRow W0.heap.size 30 2 v j (flatP (mp j XP (dl q)))) ∧ Hid (Below W0.heap.size W0 wr)) (fun v i wr => ((V : Int) - intOf i).toNat)
                case atStart => exact ⟨0, rfl, by omega, World.ownsRow_nil _ _ _ _, Below.refl _ _⟩
                case round =>
                  obtain ⟨j, rfl, hj, hQ, hBq⟩ := hrel
                  have hss := hBq.out.size
                  by_cases hgj : j < V
                  · have hgj' : (j : Int) < (V : Int) := by omega
                    have hsn : Hid (flatP (mp (j + 1) XP (dl q)) = flatP (mp j XP (dl q)) ++ [.int .i64 ((j : Int) + 1), .int .i64 (dl q j)]) := by show _ = _; rw [mp_succ, flatP_snoc]; rfl
                    by_cases ejq : j = q
                    · have e1 : ((j : Int) == (q : Int)) = true := by simp [ejq]
                      have e2 : dl q j = 1 := if_pos ejq
                      rw [e2] at hsn
                      clear e2 ejq
                      go_wp2_with (at_builtin; refine wpList_append_own _ rfl _ _ 28 rfl W0.heap.size 30 i4 (.agg #[.int .i64 0, .int .i64 0]) 2 16 Try.underlying28 hi4 hp4 hp41 hp42 rfl (by decide) _ _ _ rfl (hQ.out.alloc _) ⟨wr.heap.size, 0, none⟩ 1 1 [.int .i64 ((j : Int) + 1), .int .i64 1] rfl rfl pair_cells (by simp [Value.oneCell']) (by unfold maxLen; omega) (by omega) (by simp; omega) ?_; intro v' w3 hown' hgrow _; have HQ3 := hid hown'; have HB3 := hid (below_snoc hBq.out (Nat.le_refl _) hQ.out hgrow); clear hown' hgrow)
                      go_roundw
                      case rel => exact ⟨j + 1, by simp, by omega, by show World.ownsRow _ _ _ _ _ _ _; rw [hsn.out]; exact HQ3.out, HB3⟩
                      case measure => exact measK hgj
                    · have e1 : ((j : Int) == (q : Int)) = false := by simp; omega
                      have e2 : dl q j = 0 := if_neg ejq
                      rw [e2] at hsn
                      clear e2 ejq
                      go_wp2_with (at_builtin; refine wpList_append_own _ rfl _ _ 28 rfl W0.heap.size 30 i4 (.agg #[.int .i64 0, .int .i64 0]) 2 16 Try.underlying28 hi4 hp4 hp41 hp42 rfl (by decide) _ _ _ rfl (hQ.out.alloc _) ⟨wr.heap.size, 0, none⟩ 1 1 [.int .i64 ((j : Int) + 1), .int .i64 0] rfl rfl pair_cells (by simp [Value.oneCell']) (by unfold maxLen; omega) (by omega) (by simp; omega) ?_; intro v' w3 hown' hgrow _; have HQ3 := hid hown'; have HB3 := hid (below_snoc hBq.out (Nat.le_refl _) hQ.out hgrow); clear hown' hgrow)
                      go_roundw
                      case rel => exact ⟨j + 1, by simp, by omega, by show World.ownsRow _ _ _ _ _ _ _; rw [hsn.out]; exact HQ3.out, HB3⟩
                      case measure => exact measK hgj
                  · have hgj' : ¬ (j : Int) < (V : Int) := by omega
                    obtain rfl : V = j := by omega
                    obtain ⟨po, pc, rfl, hpc, hpr, hpb⟩ := prow_fresh hQ.out
                    rw [mp_length] at hpc ⊢
                    have HP0 := hid hpr
                    have HPb := hid (fun ad (e : po = some ad) => Nat.lt_of_lt_of_le hbsW (hpb ad e))
                    have HB3 : Hid (Below bs Wb wr) := bl_next hB.out (by omega) hBq.out
                    have HO3 := hid (hO.out.below hBq.out)
                    have hz3 := HO3.out.lt.2
                    have cTq := hid (cT.out S0 hSb wr (HF.out wr HB3.out).2.2.2.2)
                    clear hpr hpb hQ hBq
                    go_wp2_with (go_at_call 32; refine cTq.out.mono ?_; rintro e w3 ⟨⟨mo, cm, rfl, hcm, hr3⟩, hB3⟩; have HB4 : Hid (Below bs Wb w3) := bl_next HB3.out (by omega) hB3; have HO4 := hid (HO3.out.below hB3); have HR4 := hid hr3; have HP4 := hid (pb HP0.out hB3); clear hB3 hr3)
                    clear cTq HO3 HB3 HP0 hz3 hO hB
                    obtain ⟨x0, x1, x2, x3⟩ := Rn.box HF.out HB4.out
                    obtain ⟨G, ga, ca, eG, y1, y2, y3⟩ := (HF.out w3 HB4.out).2.1.at hak hla.out
                    obtain ⟨G', gb', cb', eG', y4, y5, y6⟩ := (HF.out w3 HB4.out).2.1.at hbk hlb.out
                    obtain rfl : G = G' := by rw [eG] at eG'; have := Option.some.inj eG'; exact congrArg Addr.block this
                    subst eG
                    clear eG'
                    have y7 := y3 q hgq
                    have y8 := y6 q hgq
                    have hx := hia.out q hgq
                    have hy := hib.out q hgq
                    have hmm := mul_bd hx hy hP2
                    have hz4 := HO4.out.lt.2
                    have HMs : Hid (∀ j, mrow P R t r (rwl L a) (rwl L b) U (q + 1) j = (mrow P R t r (rwl L a) (rwl L b) U q j + r q * shr P R t (co (rwl L a) q * co (rwl L b) q % (P : Int)) S0 j) % (P : Int)) := fun j => by rw [HS0.out]; rfl
                    clear y2 y3 y5 y6
                    generalize co (rwl L a) q = z1 at *
                    generalize co (rwl L b) q = z2 at *
                    have r1 : IntKind.i64.wrap (z1 * z2) = z1 * z2 := wrap_in _ (by omega) (by omega)
                    have r2 : (0 : Int) ≤ z1 * z2 := hmm.1
                    have r3 : (z1 * z2).tmod (P : Int) = z1 * z2 % (P : Int) := Int.tmod_eq_emod_of_nonneg r2
                    have cSq := hid (cS.out (z1 * z2 % (P : Int)) (mod_bd (by omega) _) S0 mo cm)
                    go_region_held3 (fun w' => w'.cell? ⟨B0, 1, none⟩ = some (.int .i64 (a : Int)) ∧ w'.cell? ⟨B0, 2, none⟩ = some (.int .i64 (b : Int)) ∧ w'.cell? ⟨G, a, none⟩ = some (.slice (some ⟨ga, 0, none⟩) V ca) ∧ w'.cell? ⟨G, b, none⟩ = some (.slice (some ⟨gb', 0, none⟩) V cb') ∧ w'.cell? ⟨ga, q, none⟩ = some (.int .i64 z1) ∧ w'.cell? ⟨gb', q, none⟩ = some (.int .i64 z2)) (first | exact ⟨x1, x2, y1, y4, y7, y8⟩ | exact ⟨s1, s2, s3, s4, s5, s6⟩)
                      (first
                        | (go_at_call 33; refine (cSq.out _ (by exact HR4.out)).mono ?_; rintro e w4 ⟨⟨qo, qc, rfl, hqc, hr4, hqo⟩, hB5'⟩
                           have hB5 : Below w3.heap.size w3 w4 := (by first | exact (Below.refl _ _).drew.trans hB5' | exact (below_drewN (Below.refl _ _) _).trans hB5' | exact hB5')
                           have HB5 : Hid (Below bs Wb w4) := bl_next HB4.out (by omega) hB5
                           have HO5 := hid (HO4.out.below hB5)
                           have HP5 := hid (pb HP4.out hB5)
                           have HQ5 := hid hr4
                           have HQo : Hid (∀ ad, qo = some ad → bs < ad.block) := fun ad e => Nat.lt_of_lt_of_le hz4 (hqo ad e)
                           have s1 := cell_next hB5 x1
                           have s2 := cell_next hB5 x2
                           have s3 := cell_next hB5 y1
                           have s4 := cell_next hB5 y4
                           have s5 := cell_next hB5 y7
                           have s6 := cell_next hB5 y8
                           clear hB5 hB5' hr4 hqo))
                    all_goals
                      clear s1 s2 s3 s4 s5 s6 x0 x1 x2 x3 y1 y4 y7 y8 HO4 HB4 HP4 HR4 hz4 cSq r1 r2 r3
                      generalize z1 * z2 % (P : Int) = zz at *
                      generalize z1 * z2 = zz0 at *
                      obtain ⟨m0, hm0⟩ : ∃ m0 : Nat → Int, m0 = mrow P R t r (rwl L a) (rwl L b) U q := ⟨_, rfl⟩
                      obtain ⟨m1, hm1⟩ : ∃ m1 : Nat → Int, m1 = mrow P R t r (rwl L a) (rwl L b) U (q + 1) := ⟨_, rfl⟩
                      have HM1 : Hid (∀ j, (m0 j + shr P R t zz S0 j * r q) % (P : Int) = m1 j) := fun j => by rw [hm0, hm1, HMs.out, Int.mul_comm]
                      have HMb : Hid (∀ j, 0 ≤ m0 j ∧ m0 j < (P : Int)) := fun j => by rw [hm0]; exact mrow_bd (by omega) _ _ _ _ _ _ _ _
                      have HM3 := hid hm1
                      rw [← hm0] at HO5
                      have HSL := hid (shl_length P zz (tk R S0 t) V)
                      have HSH : Hid (∀ j, j < V → py (shl P zz (tk R S0 t) V) j = shr P R t zz S0 j) := fun j hj => shl_py hj
                      have HSb : Hid (∀ j, 0 ≤ shr P R t zz S0 j ∧ shr P R t zz S0 j < (P : Int)) := fun j => shr_bd (by omega) _ _ _ _ _
                      have hrq := hRb.out q hgq
                      have cJq := hid (cJ.out q hgq po pc)
                      clear hm0 hm1 HMs hmm hx hy
                      generalize r q = rq at *
                      go_wp2
                      go_loopw [162] (fun i wr => ∃ j : Nat, i = .int .i64 (j : Int) ∧ j ≤ V ∧ Hid (Own1 wr bs bs V V (fm m0 m1 j)) ∧ Hid (PRow wr po (mp V XP (dl q))) ∧ Hid (PRow wr qo (shl P zz (tk R S0 t) V)) ∧ Hid (Below bs Wb wr)) (fun i wr => ((V : Int) - intOf i).toNat)
                      case atStart => exact ⟨0, rfl, by omega, by rw [fm_zero]; exact HO5, HP5, HQ5, HB5⟩
                      case round =>
                        clear HO5 HP5 HQ5 HB5
                        obtain ⟨j, rfl, hj, hO, hPp, hPq, hB⟩ := hrel
                        by_cases hgj : j < V
                        · have hgj' : (j : Int) < (V : Int) := by omega
                          rcases qo with _ | qd
                          · have h1 := hPq.out.1 rfl
                            have h2 := HSL.out
                            rw [h1] at h2
                            simp at h2
                            omega
                          · obtain ⟨q1, q2⟩ := hPq.out.2 qd rfl j (by rw [HSL.out]; exact hgj)
                            rw [add_two] at q2
                            have hvj : ((shl P zz (tk R S0 t) V).getD j (0, 0)).2 = shr P R t zz S0 j := HSH.out j hgj
                            rw [hvj] at q2
                            clear hvj
                            have hyb := HSb.out j
                            have hmb := HMb.out j
                            have hm1j := hid (HM1.out j)
                            have hof : Hid (fm m0 m1 j j = m0 j) := fm_at m0 m1 j
                            have hzo := hO.out.lt.2
                            have HPT : Hid (∀ o W, Below (wr.alloc o).heap.size (wr.alloc o) W → ∀ z, (W.cell? ⟨bs, j, none⟩ = some (.int .i64 (m0 j)) ∧ W.frozen? ⟨bs, j, none⟩ = false) ∧ (m1 j = z → Own1 (W.setCell ⟨bs, j, none⟩ (.int .i64 z)) bs bs V V (fm m0 m1 (j + 1))) ∧ PRow W po (mp V XP (dl q)) ∧ PRow (W.setCell ⟨bs, j, none⟩ (.int .i64 z)) po (mp V XP (dl q)) ∧ PRow (W.setCell ⟨bs, j, none⟩ (.int .i64 z)) (some qd) (shl P zz (tk R S0 t) V) ∧ Below bs Wb (W.setCell ⟨bs, j, none⟩ (.int .i64 z))) := fun o W hW z => by
                              have hBW : Below wr.heap.size wr W := below_trans (alloc_b wr o) hW
                              have hOW := hO.out.below hBW
                              refine ⟨⟨?_, hOW.frozen j⟩, fun e => ?_, pb hPp.out hBW, prow_kept (pb hPp.out hBW) (g_set _ bs j _) (fun ad e => HPb.out ad e), prow_kept (pb hPq.out hBW) (g_set _ bs j _) (fun ad e => HQo.out ad e), below_set (bl_next hB.out (by omega) hBW) (Nat.le_refl _) j _⟩
                              · rw [hOW.cell hgj, hof.out]
                              · exact (hOW.set j z).congr (by rw [← e]; exact fm_next m0 m1 j)
                            generalize ((shl P zz (tk R S0 t) V).getD j (0, 0)).1 = x at *
                            generalize shr P R t zz S0 j = y at *
                            generalize m0 j = m at *
                            have hyr := mul_bd hyb hrq hP2
                            have r1 : IntKind.i64.wrap (y * rq) = y * rq := wrap_in _ (by omega) (by omega)
                            have r4 : IntKind.i64.wrap (m + y * rq) = m + y * rq := wrap_in _ (by omega) (by omega)
                            have r2 : (0 : Int) ≤ m + y * rq := by omega
                            have r3 : (m + y * rq).tmod (P : Int) = (m + y * rq) % (P : Int) := Int.tmod_eq_emod_of_nonneg r2
                            obtain ⟨⟨a1, a2⟩, a3, a4, a5, a6, a7⟩ := HPT.out (.cells #[.int .i64 x, .int .i64 y] 30) (wr.alloc (.cells #[.int .i64 x, .int .i64 y] 30)) (Below.refl _ _) ((m + y * rq) % (P : Int))
                            have hbx := BoxC.new wr 30 #[.int .i64 x, .int .i64 y]
                            have bx1 : (wr.alloc (.cells #[.int .i64 x, .int .i64 y] 30)).cell? ⟨wr.heap.size, 1, none⟩ = some (.int .i64 y) := hbx.cell 1
                            have HP8 := hid a4
                            clear a2 a3 a4 a5 a6 a7 hbx
                            go_wp2
                            go_region_with (go_at_call 11; refine (cJq.out _ (by exact HP8.out)).mono ?_; rintro e w5 ⟨rfl, hB5'⟩
                                            have hB5 : Below (wr.alloc (.cells #[.int .i64 x, .int .i64 y] 30)).heap.size (wr.alloc (.cells #[.int .i64 x, .int .i64 y] 30)) w5 := (by first | exact (Below.refl _ _).drew.trans hB5' | exact (below_drewN (Below.refl _ _) _).trans hB5' | exact hB5')
                                            obtain ⟨⟨b1, b2⟩, b3, b4, b5, b6, b7⟩ := HPT.out _ w5 hB5 ((m + y * rq) % (P : Int))
                                            have HOn := hid (b3 hm1j.out.symm)
                                            have HPn := hid b5
                                            have HQn := hid b6
                                            have HBn := hid b7
                                            have bx2 := cell_next hB5 bx1
                                            clear hB5 hB5' b3 b4 b5 b6 b7)
                            all_goals
                              go_wp2
                              go_roundw
                              case rel => exact ⟨j + 1, by simp, by omega, HOn, HPn, HQn, HBn⟩
                              case measure => exact measK hgj
                        · have hgj' : ¬ (j : Int) < (V : Int) := by omega
                          obtain rfl : V = j := by omega
                          have hO9 : Hid (Own1 wr bs bs V V (mrow P R t r (rwl L a) (rwl L b) U (q + 1))) := by
                            have h := hO.out
                            show Own1 _ _ _ _ _ _
                            rw [← HM3.out]
                            unfold Own1 at h ⊢
                            rwa [fm_done] at h
                          go_wp2
                          go_roundw
                          case rel => exact ⟨q + 1, by rw [hS1.out], by simp, by omega, hO9, hB⟩
                          case measure => exact measK hgq
              · have hgq' : ¬ (q : Int) < (V : Int) := by omega
                obtain rfl : V = q := by omega
                have HE := HF.out wr hB.out
                obtain ⟨us', hown, hrows⟩ := HE.2.1
                have HBw := hid HE.2.2.1
                have Hown := hid hown
                have Hrows := hid hrows
                have hsz := HBw.out.size
                clear HE hown hrows
                go_wp2_with (at_builtin; (refine wpList_append_own0 _ rfl _ _ 40 rfl w.heap.size 22 i2 (.slice none 0 0) 1 24 Try.underlying40 hi' hy0 hy1 hy2 rfl (by decide) _ k us' rfl (Hown.out.alloc _) ⟨wr.heap.size, 0, none⟩ 1 1 [.slice (some ⟨bs, 0, none⟩) V V] rfl rfl one_cell (by simp [Value.oneCell']) (by omega) (by unfold maxLen; omega) (by omega) (by simp; omega) ?_; intro g' c' w6 hown6 hgrow6 hat6 hlt6; obtain ⟨e1, e2⟩ := end_row HF.out hbB HLow.out hB.out hO.out hv.out Hown.out Hrows.out hown6 hgrow6 hat6; have HT6 := hid e1; have HB6 := hid e2; clear hown6 hgrow6 hat6 hlt6 e1 e2))
                go_roundw
                case rel => exact ⟨k + 1, by rw [HUt.out], by simp, by omega, HT6, HB6⟩
                case measure => exact measK hgo
    · have hgo' : ¬ (k : Int) < (n : Int) := by omega
      obtain rfl : k = n := by omega
      have hT2 := hT.out
      rw [← hLn.out] at hT2
      obtain ⟨ao, cap, rfl, h1, h2⟩ := LTb.row hT2 (fun j hj => by rw [hLV.out j (by rw [← hLn.out]; exact hj)]; omega)
      have H2 := hid h2
      have H1 := hid h1
      rw [hLn.out]
      clear hT2 h2 h1
      go_wp2
      go_ret
      exact ⟨⟨ao, cap, by rw [hLn.out]; rfl, H1.out, H2.out⟩, hB.out⟩

end Go.Proofs.Ytpnmepobdnclkaa.Calls192
