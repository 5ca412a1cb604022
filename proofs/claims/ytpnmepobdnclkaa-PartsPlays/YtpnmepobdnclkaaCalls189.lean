/-
  Package parts: all shares of all values.
-/
import Derived.Test.YtpnmepobdnclkaaCalls188
import Derived.Test.YtpnmepobdnclkaaCalls179
namespace Go.Proofs.Ytpnmepobdnclkaa.Calls189
set_option linter.unusedVariables false
open Go.ChangeShapes Go.WideShapes Go.ChangeAt Go.RowKit Go.Deep Go.Proofs.Ytpnmepobdnclkaa.Base Go.Proofs.Ytpnmepobdnclkaa.Base2 Go.Proofs.Ytpnmepobdnclkaa.Num Go.Proofs.Ytpnmepobdnclkaa.Num13 Go.Proofs.Ytpnmepobdnclkaa.Num16 Go.Proofs.Ytpnmepobdnclkaa.Num17 Go.Proofs.Ytpnmepobdnclkaa.Num34 Go.Proofs.Ytpnmepobdnclkaa.Num35 Go.Proofs.Ytpnmepobdnclkaa.Num39 Go.Proofs.Ytpnmepobdnclkaa.Num61 Go.Proofs.Ytpnmepobdnclkaa.Num69 Go.Proofs.Ytpnmepobdnclkaa.Num70 Go.Proofs.Ytpnmepobdnclkaa.Base4 Go.Proofs.Ytpnmepobdnclkaa.Base5 Go.Proofs.Ytpnmepobdnclkaa.Base10 Go.Proofs.Ytpnmepobdnclkaa.Calls56 Go.Proofs.Ytpnmepobdnclkaa.Calls176 Go.Proofs.Ytpnmepobdnclkaa.Calls177 Go.Proofs.Ytpnmepobdnclkaa.Calls182 Go.Proofs.Ytpnmepobdnclkaa.Calls183 Go.Proofs.Ytpnmepobdnclkaa.Calls184 Go.Proofs.Ytpnmepobdnclkaa.Calls185 Go.Proofs.Ytpnmepobdnclkaa.Calls186 Go.Proofs.Ytpnmepobdnclkaa.Calls187
open Go.Proofs.Ytpnmepobdnclkaa.Calls71 (al)
open Go.Proofs.Ytpnmepobdnclkaa.Calls87 (ib)
open Go.Proofs.Ytpnmepobdnclkaa.Calls88 (irow_first)
open Go.Proofs.Ytpnmepobdnclkaa.Calls90 (InM)
open Go.Proofs.Ytpnmepobdnclkaa.Calls58 (mul_bd below_set)
open Go.Proofs.Ytpnmepobdnclkaa.Calls59 (own1_made)
open Go.Proofs.Ytpnmepobdnclkaa.Calls180 (infoLS_ex)
open Go.Proofs.Ytpnmepobdnclkaa.Calls181 (g_trans g_set g_drewN g_below)
open Go.Proofs.Ytpnmepobdnclkaa.Calls188 (product_any)

/-! ### the table of shares, as it grows -/

/-- The first k rows of n; each lies in a block of its own, behind base. -/
def STb (W : World) (base G n k V : Nat) (L : Nat → List Int) : Prop :=
  ∃ vs : Nat → Value, W.ownsRow base 22 1 (.slice (some ⟨G, 0, none⟩) n n) n ((List.range n).map vs) ∧
    ∀ j, j < k → ∃ g, vs j = .slice (some ⟨g, 0, none⟩) V V ∧ base ≤ g ∧ g ≠ G ∧ g < W.heap.size ∧ IRow W (some ⟨g, 0, none⟩) (L j)

theorem STb.kept {W W' : World} {base G n k V q : Nat} {L : Nat → List Int} (h : STb W base G n k V L) (hg : W.grownBy W' (some q)) (hq : q < base) : STb W' base G n k V L := by
  obtain ⟨vs, h1, h2⟩ := h
  refine ⟨vs, owns_kept h1 hg (fun x e e' => ?_), fun j hj => ?_⟩
  · have := (World.ownsRow.lt h1 x e).1
    have := Option.some.inj e'
    omega
  · obtain ⟨g, e, hb, hne, hl, hr⟩ := h2 j hj
    refine ⟨g, e, hb, hne, Nat.lt_of_lt_of_le hl hg.size, irow_kept hr hg (fun ad e1 _ e2 => ?_)⟩
    have e3 : g = ad.block := by rw [← Option.some.inj e1]
    have := Option.some.inj e2
    omega

theorem STb.below {W W' : World} {base G n k V : Nat} {L : Nat → List Int} (h : STb W base G n k V L) (hB : Below W.heap.size W W') : STb W' base G n k V L := by
  obtain ⟨vs, h1, h2⟩ := h
  refine ⟨vs, owns_below h1 hB, fun j hj => ?_⟩
  obtain ⟨g, e, hb, hne, hl, hr⟩ := h2 j hj
  exact ⟨g, e, hb, hne, Nat.lt_of_lt_of_le hl hB.size, ib hr hB⟩

theorem STb.lt {W : World} {base G n k V : Nat} {L : Nat → List Int} (h : STb W base G n k V L) : base ≤ G ∧ G < W.heap.size := by
  obtain ⟨vs, h1, _⟩ := h
  exact World.ownsRow.lt h1 G rfl

theorem STb.cell {W : World} {base G n k V : Nat} {L : Nat → List Int} (h : STb W base G n k V L) {j : Nat} (hj : j < n) : ∃ v, W.cell? ⟨G, j, none⟩ = some v ∧ W.frozen? ⟨G, j, none⟩ = false := by
  obtain ⟨vs, h1, _⟩ := h
  exact ⟨vs j, tab_cell h1 hj, World.ownsRow.frozenAt h1 j⟩

theorem STb.at {W : World} {base G n k V : Nat} {L : Nat → List Int} (h : STb W base G n k V L) {j : Nat} (hj : j < k) (hn : j < n) : ∃ g, W.cell? ⟨G, j, none⟩ = some (.slice (some ⟨g, 0, none⟩) V V) ∧ base ≤ g ∧ g < W.heap.size ∧ IRow W (some ⟨g, 0, none⟩) (L j) := by
  obtain ⟨vs, h1, h2⟩ := h
  obtain ⟨g, e, hb, hne, hl, hr⟩ := h2 j hj
  exact ⟨g, by rw [tab_cell h1 hn, e], hb, hl, hr⟩

theorem STb.next {W : World} {base G n k V g : Nat} {L : Nat → List Int} (h : STb W base G n k V L) (hb : base ≤ g) (hne : g ≠ G) (hl : g < W.heap.size) (hr : IRow W (some ⟨g, 0, none⟩) (L k)) :
    STb (W.setCell ⟨G, k, none⟩ (.slice (some ⟨g, 0, none⟩) V V)) base G n (k + 1) V L := by
  obtain ⟨vs, h1, h2⟩ := h
  have hs : (W.setCell ⟨G, k, none⟩ (.slice (some ⟨g, 0, none⟩) V V)).heap.size = W.heap.size := by simp [World.setCell]
  have h3 := (World.ownsRow.stored h1 k (.slice (some ⟨g, 0, none⟩) V V)).1
  rw [tab_set] at h3
  refine ⟨_, h3, fun j hj => ?_⟩
  have hk : ∀ g', g' ≠ G → ∀ l, IRow W (some ⟨g', 0, none⟩) l → IRow (W.setCell ⟨G, k, none⟩ (.slice (some ⟨g, 0, none⟩) V V)) (some ⟨g', 0, none⟩) l := fun g' hg' l hr => irow_kept hr (g_set W G k _) (fun ad e1 _ e2 => by
    have e3 : g' = ad.block := by rw [← Option.some.inj e1]
    exact hg' (by rw [e3]; exact Option.some.inj e2))
  by_cases e : j = k
  · subst e
    exact ⟨g, by simp, hb, hne, by rw [hs]; exact hl, hk g hne _ hr⟩
  · obtain ⟨g', e', hb', hne', hl', hr'⟩ := h2 j (by omega)
    exact ⟨g', by rw [← e']; simp [e], hb', hne', by rw [hs]; exact hl', hk g' hne' _ hr'⟩

theorem stb_made {W : World} {base G n V : Nat} {L : Nat → List Int} (h : W.ownsRow base 22 1 (.slice (some ⟨G, 0, none⟩) n n) n (madeCells (Value.slice none 0 0).cells (n * 1)).toList) : STb W base G n 0 V L := by
  rw [made_nils] at h
  exact ⟨fun _ => .slice none 0 0, h, fun j hj => absurd hj (by omega)⟩

theorem STb.rrow {W : World} {base G n V : Nat} {L : List (List Int)} (hn : L.length = n) (hV : ∀ j, j < n → (rwl L j).length = V) (hV2 : V ≤ 4096) (h : STb W base G n n V (rwl L)) : RRow W (some ⟨G, 0, none⟩) L := by
  refine ⟨fun e => (by cases e), fun ad e j hj => ?_⟩
  obtain rfl := (Option.some.inj e).symm
  obtain ⟨g, h1, _, _, h2⟩ := h.at (j := j) (by omega) (by omega)
  have hv := hV j (by omega)
  have e2 : rw' L j = rwl L j := rfl
  refine ⟨some ⟨g, 0, none⟩, V, ?_, by rw [e2]; exact h2, by rw [e2, hv]; exact Nat.le_refl _, by rw [e2, hv]; omega⟩
  rw [zero_add_addr, e2, hv]
  exact h1

theorem irow_at (X : World) (x : Int) (k : Nat) (h : k = X.heap.size) : IRow (X.alloc (.cells #[.int .i64 x] 2)) (some ⟨k, 0, none⟩) [x] := by rw [h]; exact irow_first X x

/-- A table is returned. -/
def RetTE (L : List (List Int)) (e : Ending) (w' : World) : Prop := ∃ ao cap, e = .returned (.tuple #[.slice ao L.length cap, .int .i64 0]) ∧ L.length ≤ cap ∧ RRow w' ao L

theorem Play_bad (p t : Int) (go lo ro : Option Addr) (n cg cl cr : Nat) (F : Nat → Nat → Int) (l R : List Int) (hR : R.length ≤ 9223372036854775807) (c : Int) (hc : PlC p t n F l R c) (h0 : c ≠ 0) (w : World) (hrow : IRow w lo l) (hrnd : IRow w ro R) (hg : GRow w go 4 n F) :
    Calls Try.prog 16 #[.int .i64 p, .int .i64 t, .slice go n cg, .slice lo l.length cl, .slice ro R.length cr] w fun e w' => e = .returned (.tuple #[.slice none 0 0, .int .i64 c]) ∧ Below w.heap.size w w' := by
  have cC := checkPlay_any p t go lo ro n cg cl cr F l R hR c hc w hrow hrnd hg
  have h1 : (c != 0) = true := by simpa using h0
  have h2 : (c == 0) = false := by simpa using h0
  generalize l.length = nl at *
  generalize R.length = nr at *
  clear hc hrow hrnd hg
  go_enter Try.func16, Try.ntmps16
  go_wp2_with (go_at_call 26; refine cC.mono ?_; rintro e w1 ⟨rfl, hB⟩)
  go_ret2
  exact ⟨rfl, hB⟩

theorem row_lt {w : World} {ao : Option Addr} {l : List Int} (h : IRow w ao l) : ∀ ad, ao = some ad → l ≠ [] → ad.block < w.heap.size := fun ad e hne => by
  have := cell_lt (h.2 ad e 0 (List.length_pos_iff.2 hne))
  rwa [add_block] at this

set_option maxRecDepth 100000 in
set_option maxHeartbeats 4000000 in
theorem Play_yes (P : Nat) (hP : Pr P) (hP2 : P ≤ 251) (t : Nat) (go lo ro : Option Addr) (n cg cl cr : Nat) (F : Nat → Nat → Int) (l R : List Int) (hR : R.length ≤ 9223372036854775807) (hcr : R.length ≤ cr) (hC : PlC (P : Int) (t : Int) n F l R 0) (r : Nat → Int) (hr : ∀ i, i < 2 * t + 1 → JoinIs P XP (dl i) (2 * t + 1) (r i)) (w : World) (hrow : IRow w lo l) (hrnd : IRow w ro R) (hg : GRow w go 4 n F) :
    Calls Try.prog 16 #[.int .i64 (P : Int), .int .i64 (t : Int), .slice go n cg, .slice lo l.length cl, .slice ro R.length cr] w fun e w' => RetTE (rows P t l R r F n) e w' ∧ Below w.heap.size w w' := by
  obtain ⟨i2, hi', hy0, hy1, hy2⟩ := infoLS_ex
  have cC := checkPlay_any (P : Int) (t : Int) go lo ro n cg cl cr F l R hR 0 hC w hrow hrnd hg
  obtain ⟨hGC, ⟨ht0, ht4, htP⟩, hRI⟩ := hC.ok
  obtain ⟨_, hn, hl, hI, hG⟩ := hGC.ok
  have hP1 := hP.1
  have hp0 : ¬ (P : Int) = 0 := by omega
  have htN : t ≤ 4 := by omega
  have cPl := fun w1 (hB : Below w.heap.size w w1) => splitter_any P t ro cr R hcr w1 (ib hrnd hB) (fun ad e hne => Nat.lt_of_lt_of_le (row_lt hrnd ad e hne) hB.size)
  obtain ⟨V, hV⟩ : ∃ V, V = 2 * t + 1 := ⟨_, rfl⟩
  have hVP : V < P := by omega
  rw [← hV] at hr
  have hV9 : 1 ≤ V ∧ V ≤ 9 := by omega
  have cS := hid (fun (b u : Nat) (s : Int) (hs : 0 ≤ s ∧ s < (P : Int)) (W : World) (h : Spl W b P t R u) => split1_any P hP hP2 t htN (by omega) R hR hRI b u s hs W h)
  have cP := hid (fun (b u : Nat) (ao bo : Option Addr) (l m : List Int) (hl : l.length = V) (hm : m.length = V) (hlI : InM (P : Int) l V) (hmI : InM (P : Int) m V) (W : World) (h : Spl W b P t R u) => product_any P hP hP2 t htN V hV hVP R hR hRI r hr b u ao bo V V l m hl hm hlI hmI W h)
  have cA := hid (fun (ao bo : Option Addr) (l m : List Int) (hl : l.length = V) (hm : m.length = V) (hlI : InM (P : Int) l V) (hmI : InM (P : Int) m V) (W : World) => sum_any P (by omega) hP2 ao bo V V V (by omega) l m hl hm hlI hmI W)
  have cR := hid (fun (c : Int) (so : Option Addr) (W : World) => Repeat_any c t htN so 1 W)
  have cT := fun w => parties_any (t : Int) (by omega) (by omega) w
  rw [← hV] at cS cR
  have hVi : 2 * (t : Int) + 1 = (V : Int) := by omega
  rw [hVi] at cT
  obtain ⟨L, hL⟩ : ∃ L, L = rows P t l R r F n := ⟨_, rfl⟩
  have hLn : Hid (L.length = n) := by rw [hL]; exact rows_length _ _ _ _ _ _ _
  have hLV : Hid (∀ j, j < n → (rwl L j).length = V) := fun j hj => by rw [hL, row_is P t l R r F hj, rst_length, hV]
  have hone := all_one hP (by omega : 2 * t + 1 < P) (l := l) (rnd := R) (fun i hi => hI i hi) (r := r) (by rw [← hV]; exact hr) (F := F) (n := n) hG
  have hLI : Hid (∀ j, j < n → InM (P : Int) (rwl L j) V) := fun j hj i hi => by rw [hL]; exact (hone j hj).2.2.1 i (by omega)
  have HV1 : Hid (∀ k a, k < n → F k 0 = 1 → F k 1 = ((a : Nat) : Int) → mk V (shr P R t (co l a) (us t F k)) = rwl L k) := fun k a hk e ha => by rw [hL, hV]; exact (row_in hk e ha).symm
  have HV2 : Hid (∀ k, k < n → F k 0 = 2 → mk V (fun _ => F k 3) = rwl L k) := fun k hk e => by rw [hL, hV]; exact (row_co hk e).symm
  have HV3 : Hid (∀ k a b, k < n → F k 0 = 3 → F k 1 = ((a : Nat) : Int) → F k 2 = ((b : Nat) : Int) → a < k → b < k → mk V (fun j => (co (rwl L a) j + co (rwl L b) j) % (P : Int)) = rwl L k) := fun k a b hk e ha hb hak hbk => by rw [hL, hV]; exact (row_add hk e ha hb hak hbk).symm
  have HV4 : Hid (∀ k a b, k < n → F k 0 = 4 → F k 1 = ((a : Nat) : Int) → F k 2 = ((b : Nat) : Int) → a < k → b < k → mk V (mrow P R t r (rwl L a) (rwl L b) (us t F k) V) = rwl L k) := fun k a b hk e ha hb hak hbk => by
    rw [hL, hV]; exact (row_mul hk e ha hb hak hbk).symm
  have HU1 : Hid (∀ k, F k 0 = 1 → us t F (k + 1) = us t F k + t) := fun k e => us_in e
  have HU2 : Hid (∀ k, F k 0 = 2 ∨ F k 0 = 3 → us t F (k + 1) = us t F k) := fun k e => us_no e
  have HU4 : Hid (∀ k, F k 0 = 4 → us t F (k + 1) = us t F k + V * t) := fun k e => by rw [hV]; exact us_mul e
  obtain ⟨N, hN⟩ : ∃ N, N = l.length := ⟨_, rfl⟩
  have HN : Hid (N = l.length) := hN
  have HR := hid hrow
  have HG := hid hg
  have HK := hid hG
  have HI := hid hI
  have HVd := hid hV
  have hUS : Hid (us t F 0 = 0) := rfl
  rw [← hL]
  rw [← hN] at hl cC ⊢
  generalize hNR : R.length = nr at *
  have HNR := hid hNR
  clear hN hrow hrnd hg hG hI hL hV hVi hone hr hGC hC ht0 ht4 htP hRI hNR hcr
  go_enter Try.func16, Try.ntmps16
  go_wp2_with (first
    | (go_at_call 26; refine cC.mono ?_; rintro e w1 ⟨rfl, hB1⟩; have HB1 := hid hB1; clear hB1)
    | (go_at_call 27; refine (cPl w1 HB1.out).mono ?_; rintro e w2 ⟨rfl, hS2, hz2, hB2⟩; have HS2 := hid hS2; have HZ2 := hid hz2; have HB2 := hid (below_trans HB1.out hB2); clear hS2 hz2 hB2)
    | (at_make; refine wpList_make_full _ rfl _ _ 40 rfl w2.heap.size 22 i2 (.slice none 0 0) 1 Try.underlying40 hi' hy0 hy1 .i64 .i64 (n : Int) (n : Int) n rfl rfl rfl rfl (by rw [hy2]; omega) (by unfold maxLen; omega) (Nat.le_refl _) ?_; intro w3 hown3 hgrow3; have hB3 : Hid (Below w2.heap.size w2 w3) := (Below.refl _ w2).grown hgrow3 (Nat.le_refl _) (fun j e => by cases e); have O3 := hid (stb_made (V := V) (L := rwl L) hown3); clear hown3 hgrow3))
  obtain ⟨b, hb⟩ : ∃ b, b = w1.heap.size := ⟨_, rfl⟩
  obtain ⟨G, hG⟩ : ∃ G, G = w2.heap.size := ⟨_, rfl⟩
  have HT3 : Hid (STb w3 (b + 3) G n 0 V (rwl L)) := by
    have h := O3.out
    have e : b + 3 = w2.heap.size := by rw [hb]; exact HZ2.out.symm
    rw [hG, e]; exact h
  have HS3 : Hid (Spl w3 b P t R (us t F 0)) := by rw [hUS.out, hb]; exact HS2.out.below hB3.out HS2.out.lt
  have hwb : w.heap.size ≤ b := by rw [hb]; exact HB1.out.size
  have HB3 := hid (below_trans HB2.out hB3.out)
  rw [← hG, ← hb]
  clear O3 hB3 HS2 HZ2 HB2 HB1 hG hb cC cPl
  go_wp2
  go_loopw [35] (fun i wr => ∃ k : Nat, i = .int .i64 (k : Int) ∧ k ≤ n ∧ Hid (STb wr (b + 3) G n k V (rwl L)) ∧ Hid (Spl wr b P t R (us t F k)) ∧ Hid (Below w.heap.size w wr)) (fun i wr => ((n : Int) - intOf i).toNat)
  case atStart => exact ⟨0, rfl, by omega, HT3, HS3, HB3⟩
  case round =>
    clear HT3 HS3 HB3
    obtain ⟨k, rfl, hk, hT, hS, hB⟩ := hrel
    by_cases hgo : k < n
    · have hgo' : (k : Int) < (n : Int) := by omega
      rcases go with _ | ad
      · exact (grow_none HG.out hgo).elim
      · obtain ⟨c0, c1, c2, c3⟩ := gcell (gb HG.out hB.out) hgo
        have hGl := hT.out.lt
        have hbs : b + 3 ≤ wr.heap.size := by omega
        have HTx : Hid (∀ o, STb (wr.alloc o) (b + 3) G n k V (rwl L)) := fun o => hT.out.below (alloc_b wr o)
        have HSx : Hid (∀ o, Spl (wr.alloc o) b P t R (us t F k)) := fun o => hS.out.below (alloc_b wr o) hS.out.lt
        have HBx : Hid (∀ o, Below w.heap.size w (wr.alloc o)) := fun o => al hB.out o
        -- what is so behind a call and the store of its row
        have HEnd : Hid (∀ o W5 g u, (wr.alloc o).grownBy W5 (some (b + 2)) → Spl W5 b P t R u → wr.heap.size ≤ g → g < W5.heap.size → IRow W5 (some ⟨g, 0, none⟩) (rwl L k) → us t F (k + 1) = u →
            (∃ v, W5.cell? ⟨G, k, none⟩ = some v ∧ W5.frozen? ⟨G, k, none⟩ = false) ∧ STb (W5.setCell ⟨G, k, none⟩ (.slice (some ⟨g, 0, none⟩) V V)) (b + 3) G n (k + 1) V (rwl L) ∧ Spl (W5.setCell ⟨G, k, none⟩ (.slice (some ⟨g, 0, none⟩) V V)) b P t R (us t F (k + 1)) ∧ Below w.heap.size w (W5.setCell ⟨G, k, none⟩ (.slice (some ⟨g, 0, none⟩) V V))) := fun o W5 g u h1 h2 h3 h4 h5 h6 => by
          have hT5 := (HTx.out o).kept h1 (by omega)
          refine ⟨hT5.cell hgo, hT5.next (by omega) (by omega) h4 h5, ?_, ?_⟩
          · rw [h6]
            exact h2.below (n := b + 3) (below_set (Below.refl _ W5) hGl.1 k _) (Nat.le_refl _)
          · exact below_set ((HBx.out o).grown h1 (by have := (HBx.out o).size; omega) (fun q e => by have := Option.some.inj e; omega)) (by omega) k _
        rcases HK.out k hgo with ⟨e, a, ha, hal⟩ | ⟨e, h2⟩ | ⟨e, a, b', ha, hb, hak, hbk⟩ | ⟨e, a, b', ha, hb, hak, hbk⟩
        · have hv := hid (HV1.out k a hgo e ha)
          have hu := hid (HU1.out k e)
          rw [e] at c0
          rw [ha] at c1
          rcases lo with _ | ad2
          · exact (irow_none HR.out hal).elim
          · have d0 := (ib HR.out (HBx.out (.cells #[.int .i64 1, .int .i64 (a : Int), .int .i64 (F k 2), .int .i64 (F k 3)] 54))).2 ad2 rfl a hal
            have haN : a < N := by have := HN.out; omega
            have hai : (a : Int) < (N : Int) := by omega
            have cK := hid (cS.out b (us t F k) (co l a) (HI.out a hal) _ (HSx.out (.cells #[.int .i64 1, .int .i64 (a : Int), .int .i64 (F k 2), .int .i64 (F k 3)] 54)))
            clear e ha hal
            generalize co l a = z at *
            generalize F k 2 = f2 at *
            generalize F k 3 = f3 at *
            go_wp2_with (go_at_call 40; refine cK.out.mono ?_; rintro e w5 ⟨⟨g, rfl, hO⟩, hS5, hG5⟩; have hOr := hO.row; rw [hv.out] at hOr; obtain ⟨⟨y0, y1, y2⟩, y3, y4, y5⟩ := HEnd.out _ w5 g _ hG5 hS5 (Nat.le_trans (by rw [World.size_alloc]; omega) hO.lt.1) hO.lt.2 hOr hu.out; have HT6 := hid y3; have HS6 := hid y4; have HB6 := hid y5; clear hO hS5 hG5 hOr y3 y4 y5)
            go_roundw
            case rel => exact ⟨k + 1, by simp, by omega, HT6, HS6, HB6⟩
            case measure => exact measK hgo
        · have hv := hid (HV2.out k hgo e)
          have hu := hid (HU2.out k (.inl e))
          rw [e] at c0
          obtain ⟨x0, x1, x2, x3⟩ := box_new wr (.int .i64 2) (.int .i64 (F k 1)) (.int .i64 (F k 2)) (.int .i64 (F k 3)) 54
          have cK := hid (fun so W => cR.out (F k 3) so W)
          clear e h2
          generalize F k 1 = f1 at *
          generalize F k 2 = f2 at *
          generalize F k 3 = z at *
          have hGw : G ≠ wr.heap.size := by omega
          have hbw : some wr.heap.size ≠ some (b + 2) := fun e => by have := Option.some.inj e; omega
          have x3a : ∀ o, ((wr.alloc (.cells #[.int .i64 2, .int .i64 f1, .int .i64 f2, .int .i64 z] 54)).alloc o).cell? ⟨wr.heap.size, 3, none⟩ = some (.int .i64 z) := fun o => ((alloc_b (wr.alloc (.cells #[.int .i64 2, .int .i64 f1, .int .i64 f2, .int .i64 z] 54)) o).cell (p := ⟨wr.heap.size, 3, none⟩) (by rw [World.size_alloc]; show wr.heap.size < wr.heap.size + 1; omega)).trans x3
          clear x0 x1 x2
          go_wp2
          go_region_held3 (fun w' => w'.cell? ⟨wr.heap.size, 3, none⟩ = some (.int .i64 z)) (first | exact x3 | exact x3a _ | exact q3 | exact s3)
            (first
              | (go_at_call 29; refine (cT _).mono ?_; rintro e w' ⟨rfl, hw⟩; subst w')
              | (go_at_call 28; refine (cK.out _ _ (by exact irow_at (wr.alloc (.cells #[.int .i64 2, .int .i64 f1, .int .i64 f2, .int .i64 z] 54)) z _ (by rw [World.size_alloc]))).mono ?_; rintro e w5 ⟨⟨g, rfl, hO⟩, hB5⟩
                 have hB5' : Below (wr.alloc (.cells #[.int .i64 2, .int .i64 f1, .int .i64 f2, .int .i64 z] 54)).heap.size (wr.alloc (.cells #[.int .i64 2, .int .i64 f1, .int .i64 f2, .int .i64 z] 54)) w5 := (by first | exact below_trans (((Below.refl _ _).alloc (Nat.le_refl _) (.cells #[.int .i64 z] 2)).drew) hB5 | exact below_trans (((Below.refl _ _).drew).alloc (Nat.le_refl _) _) hB5 | exact below_trans ((below_drewN (Below.refl _ _) _).alloc (Nat.le_refl _) _) hB5 | exact below_trans ((Below.refl _ _).alloc (Nat.le_refl _) _) hB5)
                 have hG5 : (wr.alloc (.cells #[.int .i64 2, .int .i64 f1, .int .i64 f2, .int .i64 z] 54)).grownBy w5 (some (b + 2)) := g_below hB5'
                 have hS5 : Spl w5 b P t R (us t F k) := (HSx.out _).below hB5' (HSx.out _).lt
                 have hg1 : ((wr.alloc (.cells #[.int .i64 2, .int .i64 f1, .int .i64 f2, .int .i64 z] 54)).alloc (.cells #[.int .i64 z] 2)).heap.size ≤ g := hO.lt.1
                 rw [World.size_alloc, World.size_alloc] at hg1
                 have hg2 : wr.heap.size ≤ g := by omega
                 have hOr := hO.row
                 rw [hv.out] at hOr
                 obtain ⟨⟨y0, y1, y2⟩, y3, y4, y5⟩ := HEnd.out _ w5 g _ hG5 hS5 hg2 hO.lt.2 hOr hu.out
                 have HT6 := hid y3
                 have HS6 := hid y4
                 have HB6 := hid y5
                 have q3 := hG5.cell x3 hbw
                 have s3 := (World.cell?_setCell_far w5 ⟨G, k, none⟩ ⟨wr.heap.size, 3, none⟩ (.slice (some ⟨g, 0, none⟩) V V) hGw).trans q3
                 clear hO hB5 hB5' hS5 hG5 hg1 hg2 hOr y3 y4 y5))
          all_goals
            go_wp2
            go_roundw
            case rel => exact ⟨k + 1, by simp, by omega, HT6, HS6, HB6⟩
            case measure => exact measK hgo
        · have hv := hid (HV3.out k a b' hgo e ha hb hak hbk)
          have hu := hid (HU2.out k (.inr e))
          rw [e] at c0
          rw [ha] at c1
          rw [hb] at c2
          generalize F k 3 = y at *
          obtain ⟨x0, x1, x2, x3⟩ := box_new wr (.int .i64 3) (.int .i64 (a : Int)) (.int .i64 (b' : Int)) (.int .i64 y) 54
          obtain ⟨ga, d3, ga1, ga2, ra⟩ := (HTx.out (.cells #[.int .i64 3, .int .i64 (a : Int), .int .i64 (b' : Int), .int .i64 y] 54)).at hak (by omega)
          obtain ⟨gb', d4, gb1, gb2, rb⟩ := (HTx.out (.cells #[.int .i64 3, .int .i64 (a : Int), .int .i64 (b' : Int), .int .i64 y] 54)).at hbk (by omega)
          have RA := hid ra
          have RB := hid rb
          have hla := hid (hLV.out a (by omega))
          have hlb := hid (hLV.out b' (by omega))
          have hia := hid (hLI.out a (by omega))
          have hib := hid (hLI.out b' (by omega))
          have hai : (a : Int) < (n : Int) := by omega
          have hbi : (b' : Int) < (n : Int) := by omega
          have hGw : G ≠ wr.heap.size := by omega
          have hbw : some wr.heap.size ≠ some (b + 2) := fun e => by have := Option.some.inj e; omega
          have hbG : some G ≠ some (b + 2) := fun e => by have := Option.some.inj e; omega
          have hka : (⟨G, k, none⟩ : Addr) ≠ ⟨G, a, none⟩ := fun e => by have := congrArg Addr.off e; simp at this; omega
          have hkb : (⟨G, k, none⟩ : Addr) ≠ ⟨G, b', none⟩ := fun e => by have := congrArg Addr.off e; simp at this; omega
          have hZ : wr.heap.size ≤ (wr.alloc (.cells #[.int .i64 3, .int .i64 (a : Int), .int .i64 (b' : Int), .int .i64 y] 54)).heap.size := by rw [World.size_alloc]; omega
          clear e ha hb x0 x3 ra rb
          go_wp2
          go_region_held3 (fun w' => w'.cell? ⟨wr.heap.size, 1, none⟩ = some (.int .i64 (a : Int)) ∧ w'.cell? ⟨wr.heap.size, 2, none⟩ = some (.int .i64 (b' : Int)) ∧ w'.cell? ⟨G, a, none⟩ = some (.slice (some ⟨ga, 0, none⟩) V V) ∧ w'.cell? ⟨G, b', none⟩ = some (.slice (some ⟨gb', 0, none⟩) V V)) (first | exact ⟨x1, x2, d3, d4⟩ | exact ⟨q1, q2, q3, q4⟩ | exact ⟨s1, s2, s3, s4⟩)
            (first
              | (go_at_call 30; refine (cA.out _ _ _ _ hla.out hlb.out hia.out hib.out _ (by exact RA.out) (by exact RB.out)).mono ?_; rintro e w5 ⟨⟨g, rfl, hO⟩, hB5⟩
                 have hB5' : Below (wr.alloc (.cells #[.int .i64 3, .int .i64 (a : Int), .int .i64 (b' : Int), .int .i64 y] 54)).heap.size (wr.alloc (.cells #[.int .i64 3, .int .i64 (a : Int), .int .i64 (b' : Int), .int .i64 y] 54)) w5 := (by first | exact (Below.refl _ _).drew.trans hB5 | exact (below_drewN (Below.refl _ _) _).trans hB5 | exact hB5)
                 have hS5 : Spl w5 b P t R (us t F k) := (HSx.out _).below hB5' (HSx.out _).lt
                 have hG5 : (wr.alloc (.cells #[.int .i64 3, .int .i64 (a : Int), .int .i64 (b' : Int), .int .i64 y] 54)).grownBy w5 (some (b + 2)) := g_below hB5'
                 clear hB5 hB5'
                 have hg2 : wr.heap.size ≤ g := Nat.le_trans hZ hO.lt.1
                 have hOr := hO.row
                 rw [hv.out] at hOr
                 obtain ⟨⟨y0, y1, y2⟩, y3, y4, y5⟩ := HEnd.out _ w5 g _ hG5 hS5 hg2 hO.lt.2 hOr hu.out
                 have HT6 := hid y3
                 have HS6 := hid y4
                 have HB6 := hid y5
                 have q1 := hG5.cell x1 hbw
                 have q2 := hG5.cell x2 hbw
                 have q3 := hG5.cell d3 hbG
                 have q4 := hG5.cell d4 hbG
                 have s1 := (World.cell?_setCell_far w5 ⟨G, k, none⟩ ⟨wr.heap.size, 1, none⟩ (.slice (some ⟨g, 0, none⟩) V V) hGw).trans q1
                 have s2 := (World.cell?_setCell_far w5 ⟨G, k, none⟩ ⟨wr.heap.size, 2, none⟩ (.slice (some ⟨g, 0, none⟩) V V) hGw).trans q2
                 have s3 : (w5.setCell ⟨G, k, none⟩ (.slice (some ⟨g, 0, none⟩) V V)).cell? ⟨G, a, none⟩ = some (.slice (some ⟨ga, 0, none⟩) V V) := (World.cell?_setCell_other _ _ _ _ hka).trans q3
                 have s4 : (w5.setCell ⟨G, k, none⟩ (.slice (some ⟨g, 0, none⟩) V V)).cell? ⟨G, b', none⟩ = some (.slice (some ⟨gb', 0, none⟩) V V) := (World.cell?_setCell_other _ _ _ _ hkb).trans q4
                 clear hO hS5 hG5 hg2 hOr y3 y4 y5))
          all_goals
            go_wp2
            go_roundw
            case rel => exact ⟨k + 1, by simp, by omega, HT6, HS6, HB6⟩
            case measure => exact measK hgo
        · have hv := hid (HV4.out k a b' hgo e ha hb hak hbk)
          have hu := hid (HU4.out k e)
          rw [e] at c0
          rw [ha] at c1
          rw [hb] at c2
          generalize F k 3 = y at *
          obtain ⟨x0, x1, x2, x3⟩ := box_new wr (.int .i64 4) (.int .i64 (a : Int)) (.int .i64 (b' : Int)) (.int .i64 y) 54
          obtain ⟨ga, d3, ga1, ga2, ra⟩ := (HTx.out (.cells #[.int .i64 4, .int .i64 (a : Int), .int .i64 (b' : Int), .int .i64 y] 54)).at hak (by omega)
          obtain ⟨gb', d4, gb1, gb2, rb⟩ := (HTx.out (.cells #[.int .i64 4, .int .i64 (a : Int), .int .i64 (b' : Int), .int .i64 y] 54)).at hbk (by omega)
          have RA := hid ra
          have RB := hid rb
          have hla := hid (hLV.out a (by omega))
          have hlb := hid (hLV.out b' (by omega))
          have hia := hid (hLI.out a (by omega))
          have hib := hid (hLI.out b' (by omega))
          have hai : (a : Int) < (n : Int) := by omega
          have hbi : (b' : Int) < (n : Int) := by omega
          have hGw : G ≠ wr.heap.size := by omega
          have hbw : some wr.heap.size ≠ some (b + 2) := fun e => by have := Option.some.inj e; omega
          have hbG : some G ≠ some (b + 2) := fun e => by have := Option.some.inj e; omega
          have hka : (⟨G, k, none⟩ : Addr) ≠ ⟨G, a, none⟩ := fun e => by have := congrArg Addr.off e; simp at this; omega
          have hkb : (⟨G, k, none⟩ : Addr) ≠ ⟨G, b', none⟩ := fun e => by have := congrArg Addr.off e; simp at this; omega
          have hZ : wr.heap.size ≤ (wr.alloc (.cells #[.int .i64 4, .int .i64 (a : Int), .int .i64 (b' : Int), .int .i64 y] 54)).heap.size := by rw [World.size_alloc]; omega
          clear e ha hb x0 x3 ra rb
          go_wp2
          go_region_held3 (fun w' => w'.cell? ⟨wr.heap.size, 1, none⟩ = some (.int .i64 (a : Int)) ∧ w'.cell? ⟨wr.heap.size, 2, none⟩ = some (.int .i64 (b' : Int)) ∧ w'.cell? ⟨G, a, none⟩ = some (.slice (some ⟨ga, 0, none⟩) V V) ∧ w'.cell? ⟨G, b', none⟩ = some (.slice (some ⟨gb', 0, none⟩) V V)) (first | exact ⟨x1, x2, d3, d4⟩ | exact ⟨q1, q2, q3, q4⟩ | exact ⟨s1, s2, s3, s4⟩)
            (first
              | (go_at_call 31; refine (cP.out b (us t F k) _ _ _ _ hla.out hlb.out hia.out hib.out _ (by exact (HSx.out (.cells #[.int .i64 4, .int .i64 (a : Int), .int .i64 (b' : Int), .int .i64 y] 54)).below (by first | exact (Below.refl _ _).drew | exact below_drewN (Below.refl _ _) _ | exact Below.refl _ _) (HSx.out (.cells #[.int .i64 4, .int .i64 (a : Int), .int .i64 (b' : Int), .int .i64 y] 54)).lt) (by exact RA.out) (by exact RB.out) (fun ad e => by have := congrArg Addr.block (Option.some.inj e); simp at this; omega) (fun ad e => by have := congrArg Addr.block (Option.some.inj e); simp at this; omega)).mono ?_; rintro e w5 ⟨⟨g, rfl, hO⟩, hS5, hG5'⟩
                 have hG5 : (wr.alloc (.cells #[.int .i64 4, .int .i64 (a : Int), .int .i64 (b' : Int), .int .i64 y] 54)).grownBy w5 (some (b + 2)) := (by first | exact hG5' | exact g_trans (g_below (Below.refl _ _).drew) hG5' | exact g_trans (g_drewN _ _ _) hG5')
                 clear hG5'
                 have hg2 : wr.heap.size ≤ g := Nat.le_trans hZ hO.lt.1
                 have hOr := hO.row
                 rw [hv.out] at hOr
                 obtain ⟨⟨y0, y1, y2⟩, y3, y4, y5⟩ := HEnd.out _ w5 g _ hG5 hS5 hg2 hO.lt.2 hOr hu.out
                 have HT6 := hid y3
                 have HS6 := hid y4
                 have HB6 := hid y5
                 have q1 := hG5.cell x1 hbw
                 have q2 := hG5.cell x2 hbw
                 have q3 := hG5.cell d3 hbG
                 have q4 := hG5.cell d4 hbG
                 have s1 := (World.cell?_setCell_far w5 ⟨G, k, none⟩ ⟨wr.heap.size, 1, none⟩ (.slice (some ⟨g, 0, none⟩) V V) hGw).trans q1
                 have s2 := (World.cell?_setCell_far w5 ⟨G, k, none⟩ ⟨wr.heap.size, 2, none⟩ (.slice (some ⟨g, 0, none⟩) V V) hGw).trans q2
                 have s3 : (w5.setCell ⟨G, k, none⟩ (.slice (some ⟨g, 0, none⟩) V V)).cell? ⟨G, a, none⟩ = some (.slice (some ⟨ga, 0, none⟩) V V) := (World.cell?_setCell_other _ _ _ _ hka).trans q3
                 have s4 : (w5.setCell ⟨G, k, none⟩ (.slice (some ⟨g, 0, none⟩) V V)).cell? ⟨G, b', none⟩ = some (.slice (some ⟨gb', 0, none⟩) V V) := (World.cell?_setCell_other _ _ _ _ hkb).trans q4
                 clear hO hS5 hG5 hg2 hOr y3 y4 y5))
          all_goals
            go_wp2
            go_roundw
            case rel => exact ⟨k + 1, by simp, by omega, HT6, HS6, HB6⟩
            case measure => exact measK hgo
    · have hgo' : ¬ (k : Int) < (n : Int) := by omega
      obtain rfl : k = n := by omega
      have hrr := hid (STb.rrow hLn.out hLV.out (by omega) hT.out)
      go_wp2
      go_ret2
      exact ⟨⟨some ⟨G, 0, none⟩, k, by rw [hLn.out]; rfl, by rw [hLn.out]; exact Nat.le_refl _, hrr.out⟩, hB.out⟩

end Go.Proofs.Ytpnmepobdnclkaa.Calls189
