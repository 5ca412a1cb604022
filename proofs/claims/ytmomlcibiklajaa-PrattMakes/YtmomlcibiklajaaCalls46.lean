/-
  What Make of package pratt answers.
-/
import Derived.Test.YtmomlcibiklajaaCalls45
namespace Go.Proofs.Ytmomlcibiklajaa.Calls46
set_option linter.unusedVariables false
open Go.RowKit Go.Deep Go.Maps Go.Proofs.Ytmomlcibiklajaa.Base Go.Proofs.Ytmomlcibiklajaa.Base3 Go.Proofs.Ytmomlcibiklajaa.Num Go.Proofs.Ytmomlcibiklajaa.Num19 Go.Proofs.Ytmomlcibiklajaa.Num31 Go.Proofs.Ytmomlcibiklajaa.Calls35 Go.Proofs.Ytmomlcibiklajaa.Calls36 Go.Proofs.Ytmomlcibiklajaa.Calls41 Go.Proofs.Ytmomlcibiklajaa.Calls42 Go.Proofs.Ytmomlcibiklajaa.Calls43 Go.Proofs.Ytmomlcibiklajaa.Calls44 Go.Proofs.Ytmomlcibiklajaa.Calls45
open Go.Proofs.Ytmomlcibiklajaa.Calls9 (Is_yes Is_no prB prB_iff)

theorem infoL : (Try.prog.info? 36).map (fun i => (i.zero, i.size, i.bytes)) = some (some (.agg #[.int .i64 0, .int .i64 0, .slice none 0 0]), 3, 40) := by kernel_rfl

theorem places_ex {R qs : List Nat} (h : ∀ q ∈ qs, q ∈ R) : ∃ ks, Places R ks qs := by
  have each : ∀ j, j < qs.length → ∃ k, k < R.length ∧ R.getD k 0 = qs.getD j 0 := fun j hj => mem_place (h _ (place_mem hj))
  obtain ⟨f, hf⟩ := choose_lt each
  refine ⟨(List.range qs.length).map f, by simp, fun j hj => ?_⟩
  have e : ((List.range qs.length).map f).getD j 0 = f j := by simp [List.getD, hj]
  rw [e]
  exact hf j hj

/-- A line lies in the row's block. -/
def Laid (W : World) (BL : Nat) (cs : Array Value) (j : Nat) (x : Ln) : Prop :=
  cs[j * 3]? = some (.int .i64 x.N) ∧ cs[j * 3 + 1]? = some (.int .i64 x.G) ∧ ∃ bo cb, cs[j * 3 + 2]? = some (.slice bo x.F.length cb) ∧ IRow W bo x.F ∧ x.F.length ≤ 1048576 ∧ ∀ ad, bo = some ad → x.F ≠ [] → ad.block ≠ BL

def put3 (cs : Array Value) (k : Nat) (a b c : Value) : Array Value := ((cs.setIfInBounds (k * 3) a).setIfInBounds (k * 3 + 1) b).setIfInBounds (k * 3 + 2) c

theorem put3_size (cs : Array Value) (k : Nat) (a b c : Value) : (put3 cs k a b c).size = cs.size := by simp [put3]

theorem put3_other {cs : Array Value} {k i : Nat} {a b c : Value} (h : i < k * 3 ∨ k * 3 + 3 ≤ i) : (put3 cs k a b c)[i]? = cs[i]? := by
  unfold put3
  rw [Array.getElem?_setIfInBounds_ne (by omega), Array.getElem?_setIfInBounds_ne (by omega), Array.getElem?_setIfInBounds_ne (by omega)]

theorem put3_at {cs : Array Value} {k : Nat} {a b c : Value} (h : k * 3 + 2 < cs.size) : (put3 cs k a b c)[k * 3]? = some a ∧ (put3 cs k a b c)[k * 3 + 1]? = some b ∧ (put3 cs k a b c)[k * 3 + 2]? = some c := by
  unfold put3
  refine ⟨?_, ?_, ?_⟩
  · rw [Array.getElem?_setIfInBounds_ne (by omega), Array.getElem?_setIfInBounds_ne (by omega), Array.getElem?_setIfInBounds_self_of_lt (by omega)]
  · rw [Array.getElem?_setIfInBounds_ne (by omega), Array.getElem?_setIfInBounds_self_of_lt (by simp; omega)]
  · rw [Array.getElem?_setIfInBounds_self_of_lt (by simp; omega)]

theorem box_put3 {W : World} {B : Nat} {t : TypeId} {cs : Array Value} (h : BoxC W B t cs) (k : Nat) (a b c : Value) : BoxC (((W.setCell ⟨B, k * 3, none⟩ a).setCell ⟨B, k * 3 + 1, none⟩ b).setCell ⟨B, k * 3 + 2, none⟩ c) B t (put3 cs k a b c) :=
  ((h.set (k * 3) a).set (k * 3 + 1) b).set (k * 3 + 2) c

theorem grown_put3 (W : World) (B k : Nat) (a b c : Value) : W.grownBy (((W.setCell ⟨B, k * 3, none⟩ a).setCell ⟨B, k * 3 + 1, none⟩ b).setCell ⟨B, k * 3 + 2, none⟩ c) (some B) := grown_setCells W B (k * 3) [a, b, c]

theorem Laid.put {W W' : World} {BL : Nat} {cs : Array Value} {j k : Nat} {x : Ln} {a b c : Value} (h : Laid W BL cs j x) (hjk : j < k) (hg : W.grownBy W' (some BL)) : Laid W' BL (put3 cs k a b c) j x := by
  obtain ⟨h1, h2, bo, cb, h3, h4, h5, h6⟩ := h
  refine ⟨by rw [put3_other (by omega)]; exact h1, by rw [put3_other (by omega)]; exact h2, bo, cb, by rw [put3_other (by omega)]; exact h3, irow_kept h4 hg (fun ad e hne => ?_), h5, h6⟩
  have := h6 ad e hne
  simpa using this

theorem Laid.below {W W' : World} {BL n : Nat} {cs : Array Value} {j : Nat} {x : Ln} (h : Laid W BL cs j x) (hb : Below n W W') (hn : W.heap.size ≤ n) : Laid W' BL cs j x := by
  obtain ⟨h1, h2, bo, cb, h3, h4, h5⟩ := h
  exact ⟨h1, h2, bo, cb, h3, irow_below h4 hb hn, h5⟩

/-- So many lines lie there. -/
def Sofar (W : World) (BL : Nat) (R : List Nat) (cs : Array Value) (k : Nat) (ls : List Ln) : Prop := ls.length = k ∧ ∀ j, j < k → LineIs R (R.getD j 0) (ls.getD j Ln0) ∧ Laid W BL cs j (ls.getD j Ln0)

theorem Sofar.next {W W' : World} {BL : Nat} {R : List Nat} {cs : Array Value} {k : Nat} {ls : List Ln} {a b c : Value} (h : Sofar W BL R cs k ls) (hg : W.grownBy W' (some BL)) (x : Ln) (hx : LineIs R (R.getD k 0) x) (hl : Laid W' BL (put3 cs k a b c) k x) : Sofar W' BL R (put3 cs k a b c) (k + 1) (ls ++ [x]) := by
  refine ⟨by rw [List.length_append, h.1]; rfl, fun j hj => ?_⟩
  by_cases e : j = k
  · subst e
    have e2 : (ls ++ [x]).getD j Ln0 = x := by simp [List.getD, h.1]
    rw [e2]; exact ⟨hx, hl⟩
  · have e2 : (ls ++ [x]).getD j Ln0 = ls.getD j Ln0 := by simp [List.getD, List.getElem?_append_left (show j < ls.length by rw [h.1]; omega)]
    rw [e2]
    obtain ⟨h1, h2⟩ := h.2 j (by omega)
    exact ⟨h1, h2.put (by omega) hg⟩

theorem Sofar.below {W W' : World} {BL m : Nat} {R : List Nat} {cs : Array Value} {k : Nat} {ls : List Ln} (h : Sofar W BL R cs k ls) (hb : Below m W W') (hm : W.heap.size ≤ m) : Sofar W' BL R cs k ls :=
  ⟨h.1, fun j hj => ⟨(h.2 j hj).1, (h.2 j hj).2.below hb hm⟩⟩

/-- One more line has been laid. -/
theorem lay_line {w4 wr w5 : World} {BL k : Nat} {R : List Nat} {cs : Array Value} {ls : List Ln} {t : TypeId} {x : Ln} {bo : Option Addr} {cb : Nat} (hBL : BL < wr.heap.size) (hw4 : w4.heap.size ≤ BL) (hb4 : Below w4.heap.size w4 wr) (hB : Below wr.heap.size wr w5) (hb : BoxC w5 BL t cs) (hsf : Sofar wr BL R cs k ls) (hcs : k * 3 + 2 < cs.size)
    (hx : LineIs R (R.getD k 0) x) (hir : IRow w5 bo x.F) (hl : x.F.length ≤ 1048576) (hblk : ∀ ad, bo = some ad → x.F ≠ [] → wr.heap.size ≤ ad.block) :
    Sofar (((w5.setCell ⟨BL, k * 3, none⟩ (.int .i64 x.N)).setCell ⟨BL, k * 3 + 1, none⟩ (.int .i64 x.G)).setCell ⟨BL, k * 3 + 2, none⟩ (.slice bo x.F.length cb)) BL R (put3 cs k (.int .i64 x.N) (.int .i64 x.G) (.slice bo x.F.length cb)) (k + 1) (ls ++ [x]) ∧
    BoxC (((w5.setCell ⟨BL, k * 3, none⟩ (.int .i64 x.N)).setCell ⟨BL, k * 3 + 1, none⟩ (.int .i64 x.G)).setCell ⟨BL, k * 3 + 2, none⟩ (.slice bo x.F.length cb)) BL t (put3 cs k (.int .i64 x.N) (.int .i64 x.G) (.slice bo x.F.length cb)) ∧
    Below w4.heap.size w4 (((w5.setCell ⟨BL, k * 3, none⟩ (.int .i64 x.N)).setCell ⟨BL, k * 3 + 1, none⟩ (.int .i64 x.G)).setCell ⟨BL, k * 3 + 2, none⟩ (.slice bo x.F.length cb)) := by
  have hg := grown_put3 w5 BL k (.int .i64 x.N) (.int .i64 x.G) (.slice bo x.F.length cb)
  obtain ⟨p1, p2, p3⟩ := put3_at (a := .int .i64 x.N) (b := .int .i64 x.G) (c := .slice bo x.F.length cb) hcs
  refine ⟨(hsf.below hB (Nat.le_refl _)).next hg x hx ⟨p1, p2, bo, cb, p3, irow_kept hir hg (fun ad e hne => ?_), hl, fun ad e hne => ?_⟩, box_put3 hb k _ _ _, ?_⟩
  · have := hblk ad e hne; simp; omega
  · have := hblk ad e hne; omega
  · exact (hb4.trans (hB.mono hb4.size)).grown hg (Nat.le_trans hb4.size hB.size) (fun j e => by cases e; exact hw4)

theorem Sofar.row {W : World} {BL : Nat} {R : List Nat} {cs : Array Value} {t : TypeId} {ls : List Ln} (h : Sofar W BL R cs R.length ls) (hb : BoxC W BL t cs) : LRow W (some ⟨BL, 0, none⟩) ls := by
  refine ⟨fun e => (by cases e), fun ad e j hj => ?_⟩
  obtain rfl : (⟨BL, 0, none⟩ : Addr) = ad := by simpa using e
  rw [h.1] at hj
  obtain ⟨_, h1, h2, bo, cb, h3, h4, h5, _⟩ := h.2 j hj
  rw [Addr.add_lit, Nat.zero_add]
  exact ⟨(hb.cell _).trans h1, (hb.cell _).trans h2, bo, cb, (hb.cell _).trans h3, h4, by omega⟩

/-- What Make answers of a prime. -/
def Made (n : Nat) (e : Ending) (w' : World) : Prop :=
  ∃ (a : Option Addr) (cap : Nat) (R : List Nat) (ls : List Ln), e = .returned (.tuple #[.slice a ls.length cap, .int .i64 0]) ∧ Rise n R ∧ Proof R ls ∧ LRow w' a ls ∧ ls.length ≤ cap

theorem Make_out (n : Int) (hn : ¬ (1 ≤ n ∧ n ≤ 1048576)) (w : World) :
    Calls Try.prog 9 #[.int .i64 n] w fun e w' => e = .returned (.tuple #[.slice none 0 0, .int .i64 2]) ∧ Below w.heap.size w w' := by
  have cI := fun w => Is_no n hn w
  go_enter Try.func9, Try.ntmps9
  go_wp2_with (go_at_call 17; refine (cI _).mono ?_; rintro e w1 ⟨rfl, hB1⟩)
  go_ret2
  exact ⟨rfl, hB1⟩

theorem Make_no (n : Nat) (hn1 : 1 ≤ n) (hn2 : n ≤ 1048576) (hp : prB n = false) (w : World) :
    Calls Try.prog 9 #[.int .i64 (n : Int)] w fun e w' => e = .returned (.tuple #[.slice none 0 0, .int .i64 5]) ∧ Below w.heap.size w w' := by
  have cI := fun w => Is_yes n hn1 hn2 w
  rw [hp] at cI
  go_enter Try.func9, Try.ntmps9
  go_wp2_with (go_at_call 17; refine (cI _).mono ?_; rintro e w1 ⟨rfl, hB1⟩)
  go_ret2
  exact ⟨rfl, hB1⟩

set_option maxRecDepth 100000 in
set_option maxHeartbeats 2000000 in
theorem Make_yes (n : Nat) (hn : Pr n) (hn2 : n ≤ 1048576) (w : World) :
    Calls Try.prog 9 #[.int .i64 (n : Int)] w fun e w' => Made n e w' ∧ Below w.heap.size w w' := by
  obtain ⟨i0, hi, hz0, hz1, hz2⟩ := info_parts infoL
  have cI := fun w => Is_yes n (by have := hn.1; omega) hn2 w
  rw [(prB_iff n).2 hn] at cI
  have cN := fun w => need_any n hn hn2 w
  have cK := fun mb w => keys_any mb w
  have cS := hid (fun b S D w (h1 : Inv n S [] D) (h2 : World.ownsMap w Try.prog 2 RV b S.length D) => sorted_any hn hn2 b S D w h1 h2)
  have HPR := hid hn
  clear hn
  go_enter Try.func9, Try.ntmps9
  go_wp2_with (first
    | (go_at_call 17; refine (cI _).mono ?_; rintro e w1 ⟨rfl, hB1⟩)
    | (go_at_call 18; refine (cN _).mono ?_; rintro e w2 ⟨⟨S, D, g, rfl, hI, hM, hRw⟩, hB2⟩; have HI := hid hI; have HM := hid hM; have HRw := hid hRw; clear hI hM hRw)
    | (go_at_call 20; refine (cK _ _).mono ?_; rintro e w3 ⟨rfl, hw⟩; subst w3)
    | (go_at_call 19; refine (cS.out _ S D _ HI.out HM.out).mono ?_; rintro e w4 ⟨⟨v, R, rfl, hR, hown⟩, hB4⟩; obtain ⟨ro, cr, rfl, hrR⟩ := irow_owns hown (by rw [zs_length]); rw [zs_length]; have HR := hid hR; have HRR := hid hrR; clear hR hrR hown; have hRl := need_len HPR.out hn2 (asc_nodup HR.out.1) (fun q hq => (HR.out.2 q).1 hq); have hmk := run_make (P := Try.prog) w4 22 36 i0 _ Try.underlying22 hi hz0 .i64 .i64 (R.length : Int) (R.length : Int) (by omega) (by omega) (by rw [hz2]; omega) (by omega); rw [hz1, Int.toNat_natCast] at hmk; obtain ⟨cs0, hcs0⟩ : ∃ cs0, madeCells (Value.agg #[.int .i64 0, .int .i64 0, .slice none 0 0]).cells (R.length * 3) = cs0 := ⟨_, rfl⟩; have hcz : cs0.size = R.length * 3 := (by rw [← hcs0]; exact size_madeCells _ _); rw [hcs0] at hmk; clear hcs0))
  clear hmk cI cN cK cS
  have hB14 : Hid (Below w.heap.size w w4) := below_trans (below_trans hB1 hB2) (below_trans ((Below.refl _ w2).alloc (Nat.le_refl _) _) hB4)
  have hB24 : Hid (Below w2.heap.size w2 w4) := below_trans ((Below.refl _ w2).alloc (Nat.le_refl _) _) hB4
  have HM4 := hid (map_below HM.out hB24.out HM.out.lt)
  have HR4 := hid (HRw.out.below hB24.out (Nat.le_refl _))
  have bL := hid (BoxC.new w4 36 cs0)
  have hB45 : Hid (Below w4.heap.size w4 (w4.alloc (.cells cs0 36))) := (Below.refl _ w4).alloc (Nat.le_refl _) _
  have hs5 : (w4.alloc (.cells cs0 36)).heap.size = w4.heap.size + 1 := by simp
  obtain ⟨W5, hW5⟩ : ∃ W5, w4.alloc (.cells cs0 36) = W5 := ⟨_, rfl⟩
  rw [hW5] at bL hB45 hs5 ⊢
  have hBb : w1.heap.size < w4.heap.size := by have := HM4.out.lt; exact this
  clear hW5 HM HRw hB1 hB2 hB4
  obtain ⟨N, hN⟩ : ∃ N, N = R.length := ⟨_, rfl⟩
  have HN : Hid (N = R.length) := hN
  rw [← hN] at hRl hcz ⊢
  clear hN
  go_loopw [31] (fun i wr => ∃ (k : Nat) (cs : Array Value) (ls : List Ln), i = .int .i64 (k : Int) ∧ k ≤ N ∧ Hid (BoxC wr w4.heap.size 36 cs) ∧ cs.size = N * 3 ∧ Hid (Sofar wr w4.heap.size R cs k ls) ∧ Below w4.heap.size w4 wr) (fun i wr => ((N : Int) - intOf i).toNat)
  case atStart => exact ⟨0, cs0, [], rfl, by omega, bL, hcz, ⟨rfl, fun j hj => by omega⟩, hB45.out⟩
  case round =>
    obtain ⟨k, cs, ls, rfl, hk, bX, hcs, hsf, hB⟩ := hrel
    by_cases hgo : k < N
    · have hgo' : (k : Int) < (N : Int) := by omega
      have hkR : Hid (k < R.length) := by have := HN.out; show k < R.length; omega
      rcases ro with _ | rd
      · exact (irow_none HRR.out (j := k) (by rw [zs_length]; exact hkR.out)).elim
      have c := (irow_below HRR.out hB (Nat.le_refl _)).2 rd rfl k (by rw [zs_length]; exact hkR.out)
      rw [zs_get] at c
      obtain ⟨p, hpe⟩ : ∃ p, R.getD k 0 = p := ⟨_, rfl⟩
      rw [hpe] at c
      have HPE := hid hpe
      clear hpe
      have hNp : Hid (Need n p) := (HR.out.2 p).1 (by rw [← HPE.out]; exact place_mem hkR.out)
      have hp2 : p ≤ 1048576 := Nat.le_trans (hNp.out.le HPR.out) hn2
      have hp1 := (hNp.out.pr HPR.out).1
      obtain ⟨ao, cap, qs, hat, hPf, hql, hir, _⟩ := HR4.out p ((HI.out.done p).2 hNp.out)
      have HAT := hid hat
      have HPF := hid hPf
      have HIR := hid (irow_below hir hB (Nat.le_refl _))
      clear hat hPf hir
      have HMr := hid (map_below HM4.out hB hBb)
      have hsr := bX.out.lt
      obtain ⟨u0, hu0⟩ : ∃ u, cs[k * 3]? = some u := ⟨_, Array.getElem?_eq_getElem (by omega)⟩
      obtain ⟨u1, hu1⟩ : ∃ u, cs[k * 3 + 1]? = some u := ⟨_, Array.getElem?_eq_getElem (by omega)⟩
      obtain ⟨u2, hu2⟩ : ∃ u, cs[k * 3 + 2]? = some u := ⟨_, Array.getElem?_eq_getElem (by omega)⟩
      have HU := hid (And.intro hu0 (And.intro hu1 hu2))
      clear hu0 hu1 hu2
      by_cases h2 : p = 2
      · subst h2
        have cP := fun v u => prove_two v u wr
        go_wp2_with (first
          | (at_lookup; refine wpList_lookup_val _ rfl _ _ 40 rfl 2 42 (int_keyed Try.underlying2) Try.underlying40 (Try.zeroValue42 _) w1.heap.size S.length D rfl HMr.out _ _ rfl (key_small hp2) (.slice ao qs.length cap) HAT.out ?_)
          | (go_at_call 21; refine (cP _ _).mono ?_; rintro e w5 ⟨rfl, hB5⟩; have bX5 := hid (bX.out.below hB5 hsr); have s0 := (bX5.out.cell (k * 3)).trans HU.out.1; have s1 := (bX5.out.cell (k * 3 + 1)).trans HU.out.2.1; have s2 := (bX5.out.cell (k * 3 + 2)).trans HU.out.2.2; have f0 := bX5.out.frozen (k * 3); have f1 := bX5.out.frozen (k * 3 + 1); have f2 := bX5.out.frozen (k * 3 + 2)))
        have hlay := hid (lay_line (x := ⟨2, 0, []⟩) (bo := none) (cb := 0) hsr (Nat.le_refl _) hB hB5 bX5.out hsf.out (by omega) (.inl ⟨HPE.out, rfl⟩) (irow_nil _) (by simp) (fun ad e => by cases e))
        go_roundw
        case rel => exact ⟨k + 1, _, ls ++ [(⟨2, 0, []⟩ : Ln)], by simp, by omega, hlay.out.2.1, by rw [put3_size]; exact hcs, hlay.out.1, hlay.out.2.2⟩
        case measure => exact measK hgo
      · have hp3 : 3 ≤ p := by omega
        obtain ⟨G, hG⟩ := leastG_ex (hNp.out.pr HPR.out) hp3 HPF.out
        obtain ⟨ks, hks⟩ := places_ex (R := R) (qs := qs) (fun q hq => by
          obtain ⟨h1, h3⟩ := (HPF.out.2 q).1 hq
          exact (HR.out.2 q).2 (.step hNp.out h1 h3))
        have cP := prove_any p G qs ks R ao (some rd) cap cr hp3 hp2 (by omega) (fun q hq => by
          obtain ⟨h1, h3⟩ := (HPF.out.2 q).1 hq
          have := Nat.le_of_dvd (by omega) h3
          exact ⟨h1.1, by omega⟩) hG HR.out.1 (by have := HN.out; omega) hks wr HIR.out (irow_below HRR.out hB (Nat.le_refl _))
        rw [← HN.out] at cP
        have hLine : Hid (LineIs R (R.getD k 0) ⟨(p : Int), (G : Int), zs ks⟩) := .inr ⟨by rw [HPE.out]; exact h2, G, ks, qs, by rw [HPE.out], by rw [HPE.out]; exact HPF.out, hks, by rw [HPE.out]; exact hG⟩
        have hkl : Hid (ks.length ≤ 20) := by show ks.length ≤ 20; rw [hks.1]; exact hql
        clear hG hks
        go_wp2_with (first
          | (at_lookup; refine wpList_lookup_val _ rfl _ _ 40 rfl 2 42 (int_keyed Try.underlying2) Try.underlying40 (Try.zeroValue42 _) w1.heap.size S.length D rfl HMr.out _ _ rfl (key_small hp2) (.slice ao qs.length cap) HAT.out ?_)
          | (go_at_call 21; refine cP.mono ?_; rintro e w5 ⟨⟨bo, cb, rfl, hown5⟩, hB5⟩; have HO5 := hid hown5; clear hown5; have bX5 := hid (bX.out.below hB5 hsr); have s0 := (bX5.out.cell (k * 3)).trans HU.out.1; have s1 := (bX5.out.cell (k * 3 + 1)).trans HU.out.2.1; have s2 := (bX5.out.cell (k * 3 + 2)).trans HU.out.2.2; have f0 := bX5.out.frozen (k * 3); have f1 := bX5.out.frozen (k * 3 + 1); have f2 := bX5.out.frozen (k * 3 + 2)))
        have hirB : Hid (IRow w5 bo (zs ks)) := by
          obtain ⟨bo', cb', e, h⟩ := irow_owns HO5.out (by rw [zs_length])
          have e2 : bo = bo' := by simpa using (Value.slice.inj e).1
          rw [e2]; exact h
        have hlay := hid (lay_line (x := ⟨(p : Int), (G : Int), zs ks⟩) (bo := bo) (cb := cb) hsr (Nat.le_refl _) hB hB5 bX5.out hsf.out (by omega) hLine.out hirB.out (by rw [zs_length]; have := hkl.out; omega) (fun ad e _ => (Go.Proofs.Ytmomlcibiklajaa.Calls11.owns_block' HO5.out ad e).1))
        simp only [zs_length] at hlay
        go_roundw
        case rel => exact ⟨k + 1, _, ls ++ [(⟨(p : Int), (G : Int), zs ks⟩ : Ln)], by simp, by omega, hlay.out.2.1, by rw [put3_size]; exact hcs, hlay.out.1, hlay.out.2.2⟩
        case measure => exact measK hgo
    · have hgo' : ¬ (k : Int) < (N : Int) := by omega
      have e : k = R.length := by have := HN.out; omega
      have HF : Hid (Sofar wr w4.heap.size R cs R.length ls) := by have h := hsf.out; rw [e] at h; exact h
      have hll : Hid (ls.length = N) := by show ls.length = N; rw [HF.out.1]; exact HN.out.symm
      clear hsf e
      go_wp2
      go_ret2
      refine ⟨⟨_, N, R, ls, by rw [hll.out]; rfl, HR.out, ⟨HF.out.1, fun j hj => (HF.out.2 j hj).1⟩, HF.out.row bX.out, by rw [hll.out]; exact Nat.le_refl _⟩, below_trans hB14.out hB⟩

end Go.Proofs.Ytmomlcibiklajaa.Calls46
