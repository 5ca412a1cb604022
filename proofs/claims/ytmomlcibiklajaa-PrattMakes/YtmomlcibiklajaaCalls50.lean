/-
  What the document's Proof answers: the lines of a prime's proof.
-/
import Derived.Test.YtmomlcibiklajaaCalls49
import Derived.Deep.LoopGhost
namespace Go.Proofs.Ytmomlcibiklajaa.Calls50
set_option linter.unusedVariables false
open Go.ChangeShapes Go.WideShapes Go.ChangeAt Go.RowKit Go.Deep Go.Proofs.Ytmomlcibiklajaa.Base Go.Proofs.Ytmomlcibiklajaa.Base2 Go.Proofs.Ytmomlcibiklajaa.Num Go.Proofs.Ytmomlcibiklajaa.Num13 Go.Proofs.Ytmomlcibiklajaa.Num19 Go.Proofs.Ytmomlcibiklajaa.Num31 Go.Proofs.Ytmomlcibiklajaa.Calls35 Go.Proofs.Ytmomlcibiklajaa.Calls36 Go.Proofs.Ytmomlcibiklajaa.Calls39 Go.Proofs.Ytmomlcibiklajaa.Calls41 Go.Proofs.Ytmomlcibiklajaa.Calls42 Go.Proofs.Ytmomlcibiklajaa.Calls47 Go.Proofs.Ytmomlcibiklajaa.Calls49
open Go.Proofs.Ytmomlcibiklajaa.Calls11 (flat ints ints_length fac_len prow_of_owns owns_block')
open Go.Proofs.Ytmomlcibiklajaa.Calls12 (ints_getD refFactor_any)

/-- So many of the list are less than p. -/
structure At (R : List Nat) (p k : Nat) : Prop where
  le : k ≤ R.length
  lo : ∀ j, j < k → R.getD j 0 < p
  hi : ∀ j, k ≤ j → j < R.length → p ≤ R.getD j 0

theorem At.start {n : Nat} (hn : Pr n) {R : List Nat} (hR : Rise n R) : At R 2 0 :=
  ⟨by omega, fun j hj => by omega, fun j _ hj => (((hR.2 _).1 (place_mem hj)).pr hn).1⟩

theorem At.skip {R : List Nat} {p k : Nat} (h : At R p k) (hp : p ∉ R) : At R (p + 1) k :=
  ⟨h.le, fun j hj => by have := h.lo j hj; omega, fun j h1 h2 => by
    have := h.hi j h1 h2
    have : R.getD j 0 ≠ p := fun e => hp (by rw [← e]; exact place_mem h2)
    omega⟩

theorem At.here {R : List Nat} (hR : Asc R) {p k : Nat} (h : At R p k) (hp : p ∈ R) : k < R.length ∧ R.getD k 0 = p := by
  obtain ⟨i, hi, e⟩ := mem_place hp
  have h1 : k ≤ i := by
    rcases Nat.lt_or_ge i k with h2 | h2
    · have := h.lo i h2; omega
    · exact h2
  have h2 : i ≤ k := by
    rcases Nat.lt_or_ge k i with h3 | h3
    · have h4 := asc_lt hR h3 hi
      have h5 := h.hi k (Nat.le_refl _) (by omega)
      omega
    · exact h3
  obtain rfl : i = k := by omega
  exact ⟨hi, e⟩

theorem At.next {R : List Nat} (hR : Asc R) {p k : Nat} (h : At R p k) (hp : p ∈ R) : At R (p + 1) (k + 1) := by
  obtain ⟨h1, h2⟩ := h.here hR hp
  refine ⟨by omega, fun j hj => ?_, fun j h3 h4 => ?_⟩
  · by_cases e : j = k
    · subst e; omega
    · have := h.lo j (by omega); omega
  · have := asc_lt hR (show k < j by omega) h4
    omega

theorem At.done {n : Nat} (hn : Pr n) {R : List Nat} (hR : Rise n R) {k : Nat} (h : At R (n + 1) k) : k = R.length := by
  have h1 := h.le
  rcases Nat.lt_or_ge k R.length with h2 | h2
  · have h3 := h.hi k (Nat.le_refl _) h2
    have h4 := ((hR.2 _).1 (place_mem h2)).le hn
    omega
  · omega

/-- The lines so far. -/
def PLines (R : List Nat) (k : Nat) (ls : List Ln) : Prop := ls.length = k ∧ ∀ j, j < k → LineIs R (R.getD j 0) (ls.getD j Ln0)

theorem PLines.next {R : List Nat} {k : Nat} {ls : List Ln} (h : PLines R k ls) {x : Ln} (hx : LineIs R (R.getD k 0) x) : PLines R (k + 1) (ls ++ [x]) := by
  refine ⟨by rw [List.length_append, h.1]; rfl, fun j hj => ?_⟩
  by_cases e : j = k
  · subst e
    have e2 : (ls ++ [x]).getD j Ln0 = x := by simp [List.getD, h.1]
    rw [e2]; exact hx
  · have e2 : (ls ++ [x]).getD j Ln0 = ls.getD j Ln0 := by simp [List.getD, List.getElem?_append_left (show j < ls.length by rw [h.1]; omega)]
    rw [e2]; exact h.2 j (by omega)

theorem places_ex {R qs : List Nat} (h : ∀ q ∈ qs, q ∈ R) : ∃ ks, Places R ks qs := by
  have each : ∀ j, j < qs.length → ∃ k, k < R.length ∧ R.getD k 0 = qs.getD j 0 := fun j hj => mem_place (h _ (place_mem hj))
  obtain ⟨f, hf⟩ := choose_lt each
  refine ⟨(List.range qs.length).map f, by simp, fun j hj => ?_⟩
  have e : ((List.range qs.length).map f).getD j 0 = f j := by simp [List.getD, hj]
  rw [e]
  exact hf j hj

theorem places_lt {R : List Nat} (hR : Asc R) {p k : Nat} (h : At R p k) (hk : k < R.length) (hkp : R.getD k 0 = p) {ks qs : List Nat} (hpl : Places R ks qs) {j : Nat} (hj : j < qs.length) (hlt : qs.getD j 0 < p) : ks.getD j 0 < k := by
  obtain ⟨k1, k2⟩ := hpl.2 j hj
  rw [← k2, ← hkp] at hlt
  exact (asc_lt_iff hR k1 hk).1 hlt

theorem pf_lt {p : Nat} (hp : 2 ≤ p) {qs : List Nat} (hq : Pf (p - 1) qs) {j : Nat} (hj : j < qs.length) : qs.getD j 0 < p := by
  have := Nat.le_of_dvd (by omega) ((hq.2 _).1 (place_mem hj)).2
  omega

/-- Whether the last line holds. -/
theorem hold_iff {R : List Nat} (hR : Asc R) {p k : Nat} (h : At R p k) (hk : k < R.length) (hkp : R.getD k 0 = p) {ks qs : List Nat} (hpl : Places R ks qs) (hq : Pf (p - 1) qs) (h3 : 3 ≤ p) (h4 : p ≤ 1048576) {ls : List Ln} (hls : PLines R k ls) {g : Nat} (hg1 : 1 ≤ g) (hg2 : g < p) :
    Hold ((ls ++ [(⟨(p : Int), (g : Int), zs ks⟩ : Ln)]).take k) ((ls ++ [(⟨(p : Int), (g : Int), zs ks⟩ : Ln)]).getD k Ln0) ↔ Last (g : Int) p qs := by
  have e1 : (ls ++ [(⟨(p : Int), (g : Int), zs ks⟩ : Ln)]).take k = ls := by rw [← hls.1]; simp
  have e2 : (ls ++ [(⟨(p : Int), (g : Int), zs ks⟩ : Ln)]).getD k Ln0 = ⟨(p : Int), (g : Int), zs ks⟩ := by simp [List.getD, ← hls.1]
  rw [e1, e2]
  have hh := hold3_last (ls := ls) (g := (g : Int)) h3 hq hpl.1 (fun j hj => by
    have h5 := places_lt hR h hk hkp hpl hj (pf_lt (by omega) hq hj)
    obtain ⟨k1, k2⟩ := hpl.2 j hj
    refine ⟨by rw [hls.1]; exact h5, ?_⟩
    rw [(hls.2 _ h5).num, k2])
  constructor
  · intro h6
    rcases h6 with h6 | h6
    · have h7 : (p : Int) = 2 := h6
      omega
    · exact hh.1 h6.2.2
  · intro h6
    exact .inr ⟨⟨by show (3 : Int) ≤ (p : Int); omega, by show (p : Int) ≤ 1048576; omega⟩, ⟨by show (1 : Int) ≤ (g : Int); omega, by show (g : Int) < (p : Int); omega⟩, hh.2 h6⟩

/-- What Proof answers. -/
def Proven (R : List Nat) (e : Ending) (w' : World) : Prop := ∃ a cap ls, e = .returned (.slice a ls.length cap) ∧ Proof R ls ∧ LRow w' a ls

theorem grown_drewN {w w1 : World} {r : Option Nat} (h : w.grownBy w1 r) (d : Nat) : w.grownBy (w1.drewN d) r := ⟨h.os, h.tape, h.output, h.size, h.block⟩

/-- How many of From there are when the lines up to j have been looked at. -/
def upTo (t f j : Nat) : Nat := if t < j then f + 1 else f

theorem upTo_start (t f : Nat) : upTo t f 0 = f := by simp [upTo]

theorem upTo_hit (t f : Nat) : upTo t f t = f ∧ upTo t f (t + 1) = f + 1 := by simp [upTo]

theorem upTo_miss {t f j : Nat} (h : j ≠ t) : upTo t f (j + 1) = upTo t f j := by
  unfold upTo
  by_cases h1 : t < j
  · rw [if_pos h1, if_pos (by omega)]
  · rw [if_neg h1, if_neg (by omega)]

theorem upTo_end {t f k : Nat} (h : t < k) : upTo t f k = f + 1 := by simp [upTo, h]

theorem box_drewN {W : World} {B : Nat} {t : TypeId} {cs : Array Value} (h : BoxC W B t cs) (d : Nat) : BoxC (W.drewN d) B t cs := h

set_option maxRecDepth 100000 in
set_option maxHeartbeats 8000000 in
theorem refProof_any (n : Nat) (hn : Pr n) (hn2 : n ≤ 1048576) (R : List Nat) (hR : Rise n R) (w : World) :
    Calls Try.prog 13 #[.int .i64 (n : Int)] w fun e w' => Proven R e w' ∧ Below w.heap.size w w' := by
  obtain ⟨i0, hi, hz0, hz1, hz2⟩ := info_parts infoJ
  obtain ⟨j0, hjI, hy0, hy1, hy2⟩ := info_parts infoL
  have cN := needed_any n hn hn2 n .self [] (.slice none 0 0) w.heap.size w (by simp) (fun x hx => (by simp at hx)) (by simp) (World.ownsRow_nil _ _ _ _) (Nat.le_refl _)
  have HPR := hid hn
  have HR := hid hR
  have hn1 := hn.1
  have hRl : R.length ≤ 21 := need_len hn hn2 (asc_nodup hR.1) (fun q hq => (hR.2 q).1 hq)
  clear hn hR
  go_enter Try.func13, Try.ntmps13
  go_wp2_with (go_at_call 22; refine cN.mono ?_; rintro e w2 ⟨v2, l2, rfl, hGr, hown2, hg2, _⟩; obtain ⟨no, cn, rfl, hir2⟩ := irow_owns hown2 (by rw [zs_length]); rw [zs_length]; have HIR2 := hid hir2; have hmem : Hid (∀ q, q ∈ l2 ↔ q ∈ R) := (fun q => (need_closed hGr.self hGr.need (fun x hx r hr hd => hGr.closed x hx (by simp) r hr hd) q).trans (HR.out.2 q).symm); have hl2 : l2.length ≤ 21 := need_len HPR.out hn2 hGr.nodup hGr.need; have hB2 : Hid (Below w.heap.size w w2) := ⟨hg2.os, hg2.tape, hg2.output, hg2.size, fun k hk => hg2.block k hk (by simp [Value.ownBlock])⟩; clear hir2 hown2 hGr hg2)
  clear cN
  go_loopw [4, 5] (fun v t wr => ∃ (p k : Nat) (u : Value) (ls : List Ln), u = v ∧ t = .int .i64 (p : Int) ∧ 2 ≤ p ∧ p ≤ n + 1 ∧ Hid (At R p k) ∧ Hid (PLines R k ls) ∧ Hid (ORow wr w2.heap.size u ls) ∧ Below w2.heap.size w2 wr) (fun v t wr => ((n : Int) + 1 - intOf t).toNat)
  case atStart => exact ⟨2, 0, _, [], rfl, rfl, by omega, by omega, At.start HPR.out HR.out, ⟨rfl, fun j hj => by omega⟩, orow_nil _ _, Below.refl _ _⟩
  case round =>
    obtain ⟨p, k, u, ls, hu, rfl, hp1, hp2, hAt, hPL, hO, hB⟩ := hrel
    subst hu
    by_cases hgo : p ≤ n
    · have hgo' : (p : Int) ≤ (n : Int) := by omega
      have HIR := hid (irow_below HIR2.out hB (Nat.le_refl _))
      have hmP : (n : Int) + 1 - ((p : Int) + 1) < (n : Int) + 1 - (p : Int) := by omega
      go_wp2
      go_loop [6, 22] (fun t i => ∃ (b : Bool) (j : Nat), t = .bool b ∧ i = .int .i64 (j : Int) ∧ j ≤ l2.length ∧ Hid (b = true ↔ p ∈ l2.take j)) (fun t i => ((l2.length : Int) - intOf i).toNat)
      case atStart => exact ⟨false, 0, rfl, rfl, by omega, by show _ ↔ _; simp⟩
      case round =>
        obtain ⟨b, j, rfl, rfl, hj, hbj⟩ := hrel
        by_cases hjo : j < l2.length
        · have hjo' : (j : Int) < (l2.length : Int) := by omega
          rcases no with _ | nd
          · exact (irow_none HIR.out (j := j) (by rw [zs_length]; exact hjo)).elim
          · have cj := HIR.out.2 nd rfl j (by rw [zs_length]; exact hjo)
            rw [zs_get] at cj
            have htk := hid (take_has (q := p) hjo)
            obtain ⟨y, hy⟩ : ∃ y, l2.getD j 0 = y := ⟨_, rfl⟩
            rw [hy] at cj htk
            clear hy
            cases b with
            | true =>
              have hb2 : Hid (true = true ↔ p ∈ l2.take (j + 1)) := by show _ ↔ _; rw [htk.out]; exact ⟨fun h => .inl (hbj.out.1 h), fun _ => rfl⟩
              go_wp2
              go_round
              case rel => exact ⟨true, j + 1, rfl, by simp, by omega, hb2⟩
              case measure => exact measK hjo
            | false =>
              by_cases hyq : y = p
              · have hb2 : Hid (true = true ↔ p ∈ l2.take (j + 1)) := by show _ ↔ _; rw [htk.out]; exact ⟨fun _ => .inr hyq, fun _ => rfl⟩
                subst hyq
                go_wp2
                go_round
                case rel => exact ⟨true, j + 1, rfl, by simp, by omega, hb2⟩
                case measure => exact measK hjo
              · have hb2 : Hid (false = true ↔ p ∈ l2.take (j + 1)) := by
                  show _ ↔ _
                  rw [htk.out]
                  exact ⟨fun h => (by cases h), fun h => by
                    rcases h with h | h
                    · exact hbj.out.2 h
                    · exact absurd h hyq⟩
                have hyq' : ((y : Int) == (p : Int)) = false := by simp; omega
                go_wp2
                go_round
                case rel => exact ⟨false, j + 1, rfl, by simp, by omega, hb2⟩
                case measure => exact measK hjo
        · have hjo' : ¬ (j : Int) < (l2.length : Int) := by omega
          have hbc : Hid (b = true ↔ p ∈ R) := by
            show _ ↔ _
            have h := hbj.out
            rw [List.take_of_length_le (by omega)] at h
            exact h.trans (hmem.out p)
          clear hbj
          cases b with
          | false =>
            have hnR : Hid (p ∉ R) := fun h => by cases hbc.out.2 h
            go_wp2
            go_roundw
            case rel => exact ⟨p + 1, k, _, ls, rfl, by simp, by omega, by omega, hAt.out.skip hnR.out, hPL, hO, hB⟩
            case measure => simp only [intOf]; omega
          | true =>
            have hiR : Hid (p ∈ R) := hbc.out.1 rfl
            clear hbc
            obtain ⟨wo, hwo⟩ : ∃ wo, wo = wr := ⟨_, rfl⟩
            subst hwo
            obtain ⟨hkR0, hkp0⟩ := hAt.out.here HR.out.1 hiR.out
            have HKR := hid hkR0
            have HKP := hid hkp0
            have hkR : k < R.length := hkR0
            clear hkR0 hkp0
            have hNp : Hid (Need n p) := (HR.out.2 p).1 hiR.out
            have hpm : p ≤ 1048576 := by omega
            obtain ⟨uo, cu, hue, hrowL, _⟩ := hO.out.lrow
            subst hue
            rw [hPL.out.1] at hO ⊢
            have HRL := hid hrowL
            clear hrowL
            have cF := fun w => refFactor_any (p - 1) (by omega) (by omega) w
            rw [show ((p - 1 : Nat) : Int) = (p : Int) - 1 by omega] at cF
            have bX0 := hid (BoxC.new wo 36 #[.int .i64 (p : Int), .int .i64 0, .slice none 0 0])
            have hBa : Hid (Below wo.heap.size wo (wo.alloc (.cells #[.int .i64 (p : Int), .int .i64 0, .slice none 0 0] 36))) := (Below.refl _ wo).alloc (Nat.le_refl _) _
            go_wp2_with (go_at_call 23; refine (cF _).mono ?_; rintro e w4 ⟨lf, vf, rfl, hF, hownf, hB4⟩; obtain ⟨ao, cf, rfl, hrowF⟩ := prow_of_owns hownf; have hblk := hid (owns_block' hownf); have HF := hid hF; have HRow := hid hrowF; clear hF hrowF hownf; rw [ints_length])
            clear cF
            have hlf : lf.length ≤ 20 := fac_len HF.out (by omega)
            have HPF := hid (fac_pf HF.out)
            obtain ⟨ks, hks⟩ := places_ex (R := R) (qs := firsts lf) (fun q hq => by
              obtain ⟨h1, h3⟩ := (HPF.out.2 q).1 hq
              exact (HR.out.2 q).2 (.step hNp.out h1 h3))
            have HKS := hid hks
            have hksl1 : ks.length ≤ lf.length := by rw [hks.1, firsts_len]; exact Nat.le_refl _
            have hksl2 : lf.length ≤ ks.length := by rw [hks.1, firsts_len]; exact Nat.le_refl _
            clear hks
            have hB14 : Hid (Below wo.heap.size wo w4) := below_trans hBa.out hB4
            have hs4 : wo.heap.size + 1 ≤ w4.heap.size := by have := hB4.size; simpa using this
            have bX4 := hid (bX0.out.below hB4 (by simp))
            clear bX0 hBa hB4
            go_loopw [41] (fun i wx => ∃ (f : Nat) (vF : Value), i = .int .i64 (f : Int) ∧ f ≤ lf.length ∧ Hid (BoxC wx wo.heap.size 36 #[.int .i64 (p : Int), .int .i64 0, vF]) ∧ Hid (wx.ownsRow w4.heap.size 3 1 vF f (ivals (zs (ks.take f)))) ∧ Hid (w4.grownBy wx (some wo.heap.size))) (fun i wx => ((lf.length : Int) - intOf i).toNat)
            case atStart => exact ⟨0, .slice none 0 0, rfl, by omega, bX4, World.ownsRow_nil _ _ _ _, ⟨rfl, rfl, rfl, Nat.le_refl _, fun _ _ _ => rfl⟩⟩
            case round =>
              obtain ⟨f, vF, rfl, hf, bX, hoF, hGx⟩ := hrel
              obtain ⟨wx, hwx⟩ : ∃ wx, wx = wr := ⟨_, rfl⟩
              subst hwx
              have hBx : Hid (Below wo.heap.size wo wx) := hB14.out.grown hGx.out (by omega) (fun j e => by cases e; exact Nat.le_refl _)
              have hsx := hGx.out.size
              have hfk : (ks.take f).length = f := by rw [List.length_take]; omega
              obtain ⟨fo, cF, hvF, hirF⟩ := irow_owns hoF.out (by rw [zs_length, hfk])
              subst hvF
              rw [zs_length, hfk] at bX hoF
              have HIF := hid hirF
              clear hfk hirF
              by_cases hfo : f < lf.length
              · have hfo' : (f : Int) < (lf.length : Int) := by omega
                have hPrx := hid (prow_kept HRow.out hGx.out (fun ad e => ⟨(hblk.out ad e).2, by have := (hblk.out ad e).1; simp at this ⊢; omega⟩))
                rcases ao with _ | ad
                · have := HRow.out.1 rfl
                  have e := ints_length lf
                  rw [this] at e
                  simp at e
                  omega
                obtain ⟨k1, k2⟩ := hPrx.out.2 ad rfl f (by rw [ints_length]; exact hfo)
                rw [add_two] at k2
                rw [ints_getD] at k1 k2
                have hqf : Hid ((firsts lf).getD f 0 = (lf.getD f (0, 0)).1) := by show _ = _; simp [firsts, List.getD, hfo]
                have hff : f < (firsts lf).length := by rw [firsts_len]; exact hfo
                have hqlt := hid (pf_lt (p := p) (by omega) HPF.out hff)
                have htk : Hid (ks.getD f 0 < k) := places_lt HR.out.1 hAt.out HKR.out HKP.out HKS.out hff hqlt.out
                have htq : Hid (ks.getD f 0 < R.length ∧ R.getD (ks.getD f 0) 0 = (lf.getD f (0, 0)).1) := by
                  have h := HKS.out.2 f hff
                  rw [hqf.out] at h
                  exact h
                have hsn : Hid (ks.take (f + 1) = ks.take f ++ [ks.getD f 0]) := by
                  show _ = _
                  rw [List.take_add_one, List.getElem?_eq_getElem (by omega)]
                  simp [List.getD, show f < ks.length by omega]
                obtain ⟨x, hx⟩ : ∃ x, lf.getD f (0, 0) = x := ⟨_, rfl⟩
                rw [hx] at k1 k2 htq
                clear hx hff
                obtain ⟨q, e⟩ := x
                simp only at k1 k2 htq
                obtain ⟨ts, hts⟩ : ∃ ts, ks.getD f 0 = ts := ⟨_, rfl⟩
                rw [hts] at htk htq hsn
                clear hts
                have bQ0 := hid (BoxC.new wx 52 #[.int .i64 (q : Int), .int .i64 (e : Int)])
                have bX1 := hid (bX.out.alloc (.cells #[.int .i64 (q : Int), .int .i64 (e : Int)] 52))
                have hoF1 := hid (hoF.out.alloc (.cells #[.int .i64 (q : Int), .int .i64 (e : Int)] 52))
                have hGx1 : Hid (w4.grownBy (wx.alloc (.cells #[.int .i64 (q : Int), .int .i64 (e : Int)] 52)) (some wo.heap.size)) := grown_trans hGx.out (World.grownBy_alloc wx _ none) (fun j e => by cases e)
                have hnQ : Hid ((Value.slice fo f cF).ownBlock ≠ some wx.heap.size) := fun e => by have := (hoF.out.lt _ e).2; omega
                go_wp2
                go_loopw [12] (fun t wy => ∃ (j m : Nat) (vG : Value), t = .int .i64 (j : Int) ∧ j ≤ k ∧ Hid (m = upTo ts f j) ∧ m ≤ f + 1 ∧ Hid (BoxC wy wo.heap.size 36 #[.int .i64 (p : Int), .int .i64 0, vG]) ∧ Hid (wy.ownsRow w4.heap.size 3 1 vG m (ivals (zs (ks.take m)))) ∧ Hid (BoxC wy wx.heap.size 52 #[.int .i64 (q : Int), .int .i64 (e : Int)]) ∧ Hid (vG.ownBlock ≠ some wx.heap.size) ∧ Hid (w4.grownBy wy (some wo.heap.size))) (fun t wy => ((k : Int) - intOf t).toNat)
                case atStart => exact ⟨0, f, _, rfl, by omega, (upTo_start ts f).symm, by omega, bX1, hoF1, bQ0, hnQ, hGx1⟩
                case round =>
                  obtain ⟨j, m, vG, rfl, hjk, hm, hmf, bY, hoG, bQ, hnG, hGy⟩ := hrel
                  have hsy := hGy.out.size
                  have hmk : (ks.take m).length = m := by rw [List.length_take]; omega
                  obtain ⟨go, cG, hvG, _⟩ := irow_owns hoG.out (by rw [zs_length, hmk])
                  subst hvG
                  rw [zs_length, hmk] at bY hoG hnG
                  clear hmk
                  by_cases hjo : j < k
                  · have hjo' : (j : Int) < (k : Int) := by omega
                    have hj0 : (0 : Int) ≤ (j : Int) := by omega
                    have hBy : Hid (Below wo.heap.size wo wr) := hB14.out.grown hGy.out (by omega) (fun j e => by cases e; exact Nat.le_refl _)
                    rcases uo with _ | ud
                    · exact (lrow_none HRL.out (j := j) (by rw [hPL.out.1]; exact hjo)).elim
                    obtain ⟨c1, _, _⟩ := (lrow_below HRL.out hBy.out (Nat.le_refl _)).2 ud rfl j (by rw [hPL.out.1]; exact hjo)
                    rw [(hPL.out.2 j hjo).num] at c1
                    have q0 := bQ.out.cell 0
                    simp at q0
                    have hiff : Hid (R.getD j 0 = q ↔ j = ts) := by
                      show _ ↔ _
                      constructor
                      · intro h
                        exact asc_inj HR.out.1 (by omega) htq.out.1 (h.trans htq.out.2.symm)
                      · rintro rfl; exact htq.out.2
                    obtain ⟨y, hy⟩ : ∃ y, R.getD j 0 = y := ⟨_, rfl⟩
                    rw [hy] at c1 hiff
                    clear hy
                    by_cases hjt : j = ts
                    · have hyq : y = q := hiff.out.2 hjt
                      subst hyq
                      have em : m = f := by rw [hm.out, hjt]; exact (upTo_hit ts f).1
                      have hm2 : Hid (f + 1 = upTo ts f (j + 1)) := by show _ = _; rw [hjt]; exact (upTo_hit ts f).2.symm
                      subst em
                      have hownD : ∀ d, (wr.drewN d).ownsRow w4.heap.size 3 1 (.slice go m cG) m (ivals (zs (ks.take m))) := fun d => hoG.out
                      have hsn2 : Hid (ivals (zs (ks.take (m + 1))) = ivals (zs (ks.take m)) ++ [.int .i64 (j : Int)]) := by
                        show _ = _
                        rw [hsn.out, zs_snoc, ivals_snoc, hjt]
                      have x2 := bY.out.cell 2
                      simp at x2
                      have hml : m ≤ 20 := by omega
                      clear hm hjt
                      go_wp2
                      go_quiet (fail)
                      go_wp2_with (at_builtin; refine wpList_append_own0 _ rfl _ _ 34 rfl w4.heap.size 3 i0 (.int .i64 0) 1 8 Try.underlying34 hi hz0 hz1 hz2 rfl (by decide) _ _ _ rfl ((hownD _).alloc _) ⟨wr.heap.size, 0, none⟩ 1 1 [.int .i64 (j : Int)] rfl rfl one_cell (by simp [Value.oneCell']) (by omega) (by unfold maxLen; omega) (by omega) (by simp; omega) ?_; intro g6 c6 w6 hown6 hgrow6 hat6 hlt6; have bX6 := hid (((box_drewN bY.out _).alloc (.cells #[.int .i64 (j : Int)] 3)).kept hgrow6 (fun e => by have := (hoG.out.lt wo.heap.size e.symm).1; omega)); have x26 := bX6.out.cell 2; have f26 := bX6.out.frozen 2; simp at x26)
                      go_roundw
                      case rel =>
                        have hs6 := hgrow6.size
                        simp at hs6
                        have bQ6 := hid (((box_drewN bQ.out _).alloc (.cells #[.int .i64 (j : Int)] 3)).kept hgrow6 (fun e => hnG.out e.symm))
                        refine ⟨j + 1, m + 1, .slice (some ⟨g6, 0, none⟩) (m + 1) c6, by simp, by omega, hm2, by omega, ?_, ?_, ?_, ?_, ?_⟩
                        · have h := bX6.out.set 2 (.slice (some ⟨g6, 0, none⟩) (m + 1) c6)
                          simp at h
                          exact h
                        · show World.ownsRow _ _ _ _ _ _ _
                          rw [hsn2.out]
                          exact ownsRow_setCell_below hown6 (by simp; omega) _
                        · exact bQ6.out.other (by omega) 2 _
                        · intro e6
                          have e7 : g6 = wx.heap.size := by simpa [Value.ownBlock] using e6
                          rcases hat6 with h | h
                          · have h' : (Value.slice go m cG).ownBlock = some g6 := h
                            exact hnG.out (by rw [h', e7])
                          · have := bQ.out.lt
                            simp at h
                            omega
                        · have h2 := grown_trans (grown_trans (grown_drewN hGy.out _) (World.grownBy_alloc _ _ none) (fun j e => by cases e)) hgrow6 (fun g e => .inr (hoG.out.lt g e).1)
                          exact grown_trans h2 (Go.Proofs.Ytmomlcibiklajaa.Calls49.grown_set w6 wo.heap.size 2 _) (fun g e => .inl e)
                      case measure => exact measK hjo
                    · have hyq : ¬ y = q := fun h => hjt (hiff.out.1 h)
                      have hyq' : ((y : Int) == (q : Int)) = false := by simp; omega
                      have hm2 : Hid (m = upTo ts f (j + 1)) := by show _ = _; rw [upTo_miss hjt]; exact hm.out
                      clear hm hjt
                      go_wp2
                      go_quiet (fail)
                      go_wp2
                      go_roundw
                      case rel => exact ⟨j + 1, m, _, by simp, by omega, hm2, hmf, bY, hoG, bQ, hnG, grown_drewN hGy.out _⟩
                      case measure => exact measK hjo
                  · have hjo' : ¬ (j : Int) < (k : Int) := by omega
                    have em : m = f + 1 := by
                      rw [hm.out, show j = k by omega]
                      exact upTo_end htk.out
                    subst em
                    clear hm
                    go_wp2
                    go_roundw
                    case rel => exact ⟨f + 1, _, by simp, by omega, bY, hoG, hGy⟩
                    case measure => exact measK hfo
              · have hfo' : ¬ (f : Int) < (lf.length : Int) := by omega
                obtain rfl : ks.length = f := by omega
                rw [List.take_length] at hoF HIF
                have x0 := bX.out.cell 0
                have x1 := bX.out.cell 1
                have x2 := bX.out.cell 2
                simp at x0 x1 x2
                have hal : Below wx.heap.size wx (wx.alloc (.cells #[.int .i64 (p : Int), .int .i64 0, .slice fo ks.length cF] 36)) := (Below.refl _ wx).alloc (Nat.le_refl _) _
                obtain ⟨cells, ho1, ho2⟩ := (hO.out.below hBx.out (Nat.le_refl _)).below hal (Nat.le_refl _)
                have HO1 := hid ho1
                have HO2 := hid ho2
                have HIFa := hid (irow_below HIF.out hal (Nat.le_refl _))
                rw [hPL.out.1] at ho1
                have HAL := hid hal
                have hobl := hid hO.out.lt
                clear ho2 hal
                have hkb : k ≤ 20 := by omega
                have hsb := hB.size
                go_wp2_with (at_builtin; refine wpList_append_own0 _ rfl _ _ 22 rfl w2.heap.size 36 j0 (.agg #[.int .i64 0, .int .i64 0, .slice none 0 0]) 3 40 Try.underlying22 hjI hy0 hy1 hy2 rfl (by decide) _ _ _ rfl ho1 ⟨wx.heap.size, 0, none⟩ 1 1 [.int .i64 (p : Int), .int .i64 0, .slice fo ks.length cF] rfl rfl three_cells (by simp [Value.oneCell']) (by omega) (by unfold maxLen; omega) (by omega) (by simp; omega) ?_; intro g7 c7 w7 hown7 hgrow7 hat7 hlt7)
                have hO7 : Hid (ORow w7 w2.heap.size (.slice (some ⟨g7, 0, none⟩) (k + 1) c7) (ls ++ [(⟨(p : Int), 0, zs ks⟩ : Ln)])) := by
                  have h := ORow.append (x := ⟨(p : Int), 0, zs ks⟩) (bo := fo) (cb := cF) (g := g7) (cap := c7) HO1.out HO2.out (by rw [hPL.out.1]; simp only [zs_length]; exact hown7) hgrow7 hat7 HIFa.out (by rw [zs_length]; omega) (fun ad e hne e2 => by
                    have h1 := (owns_block' hoF.out ad e).1
                    have h2 := (hobl.out ad.block e2).2
                    omega)
                  rw [hPL.out.1] at h
                  exact h
                have hB7 : Hid (Below w2.heap.size w2 w7) := ((hB.trans (hBx.out.mono hB.size)).trans (HAL.out.mono (by omega))).grown hgrow7 (by simp; omega) (fun g e => (HO1.out.lt g e).1)
                have hNext := hid (hAt.out.next HR.out.1 hiR.out)
                clear hown7 hgrow7 hat7 ho1
                by_cases hp2c : p = 2
                · subst hp2c
                  have hks0 : Hid (zs ks = []) := by
                    show zs ks = []
                    have h1 : firsts lf = [] := by
                      rcases hfl : firsts lf with _ | ⟨q, qs⟩
                      · rfl
                      · obtain ⟨h2, h3⟩ := (HPF.out.2 q).1 (by rw [hfl]; simp)
                        have := Nat.le_of_dvd (by omega) h3
                        have := h2.1
                        omega
                    have h2 := firsts_len lf
                    rw [h1] at h2
                    simp at h2
                    have h3 : ks = [] := List.length_eq_zero_iff.1 (by omega)
                    rw [h3]; rfl
                  refine wp_loop_rounds 1 ?_
                  rw [rounds_succ]
                  go_wp2
                  go_roundw
                  case rel => exact ⟨2 + 1, k + 1, _, ls ++ [(⟨(2 : Int), 0, zs ks⟩ : Ln)], rfl, by simp, by omega, by omega, hNext, hPL.out.next (.inl ⟨HKP.out, by rw [hks0.out]⟩), hO7, hB7.out⟩
                  case measure => simp only [intOf]; omega
                · have hp3 : 3 ≤ p := by omega
                  obtain ⟨G, hG⟩ := leastG_ex (hNp.out.pr HPR.out) hp3 HPF.out
                  have HG := hid hG
                  have hG1 := hG.1.1
                  have hG2 := hG.1.2.1
                  clear hG
                  have hp3' : (2 : Int) < (p : Int) := by omega
                  go_loopg [70] G (fun gk v wz => ∃ g : Nat, Hid (gk = G - g) ∧ g < G ∧ Hid (ORow wz w2.heap.size (.slice (some ⟨g7, 0, none⟩) (k + 1) c7) (ls ++ [(⟨(p : Int), (g : Int), zs ks⟩ : Ln)])) ∧ Below w2.heap.size w2 wz)
                  case atStart => exact ⟨0, rfl, by omega, hO7, hB7.out⟩
                  case round =>
                    obtain ⟨g, hgk, hgG, hOz, hBz⟩ := hrel
                    obtain ⟨so, sg, sc, sf⟩ := ORow.setG (G' := ((g + 1 : Nat) : Int)) hPL.out.1 hOz.out
                    have hll : (ls ++ [(⟨(p : Int), ((g + 1 : Nat) : Int), zs ks⟩ : Ln)]).length = k + 1 := by rw [List.length_append, hPL.out.1]; rfl
                    have hrowZ : Hid (LRow (wr.setCell ⟨g7, k * 3 + 1, none⟩ (.int .i64 ((g + 1 : Nat) : Int))) (some ⟨g7, 0, none⟩) (ls ++ [(⟨(p : Int), ((g + 1 : Nat) : Int), zs ks⟩ : Ln)])) := by
                      obtain ⟨ao', cap', e, h, _⟩ := so.lrow
                      have e2 : (some ⟨g7, 0, none⟩ : Option Addr) = ao' := (Value.slice.inj e).1
                      rw [e2]; exact h
                    have cH := refHolds_any (some ⟨g7, 0, none⟩) c7 (ls ++ [(⟨(p : Int), ((g + 1 : Nat) : Int), zs ks⟩ : Ln)]) k (by omega) (by omega) _ hrowZ.out
                    rw [hll] at cH
                    have hiff := hold_iff HR.out.1 hAt.out HKR.out HKP.out HKS.out HPF.out hp3 hpm hPL.out (g := g + 1) (by omega) (by omega)
                    have hSO := hid so
                    have hBs : Hid (Below w2.heap.size w2 (wr.setCell ⟨g7, k * 3 + 1, none⟩ (.int .i64 ((g + 1 : Nat) : Int)))) := hBz.grown sg hBz.size (fun j e => by cases e; exact (hOz.out.lt g7 rfl).1)
                    rw [show ((g + 1 : Nat) : Int) = (g : Int) + 1 by omega] at cH hSO hBs hiff
                    by_cases hlast : g + 1 = G
                    · have cH2 := hid (cH.mono (R' := fun e w' => e = .returned (.bool true) ∧ Below (wr.setCell ⟨g7, k * 3 + 1, none⟩ (.int .i64 ((g : Int) + 1))).heap.size (wr.setCell ⟨g7, k * 3 + 1, none⟩ (.int .i64 ((g : Int) + 1))) w') (fun e w1 h => ⟨h.1.get (hiff.2 (by have := HG.out.1.2.2; rw [← hlast] at this; simpa using this)), h.2⟩))
                      have hLine : Hid (LineIs R (R.getD k 0) ⟨(p : Int), (g : Int) + 1, zs ks⟩) := .inr ⟨by rw [HKP.out]; exact hp2c, G, ks, firsts lf, by rw [HKP.out, ← hlast]; simp, by rw [HKP.out]; exact HPF.out, HKS.out, by rw [HKP.out]; exact HG.out⟩
                      clear cH hiff so sg hll
                      go_wp2_with (go_at_call 8; refine cH2.out.mono ?_; rintro e w8 ⟨rfl, hB8⟩)
                      go_roundw
                      case rel => exact ⟨p + 1, k + 1, _, ls ++ [(⟨(p : Int), (g : Int) + 1, zs ks⟩ : Ln)], rfl, by simp, by omega, by omega, hNext, hPL.out.next hLine.out, hSO.out.below hB8 (Nat.le_refl _), hBs.out.trans (hB8.mono hBs.out.size)⟩
                      case measure => simp only [intOf]; omega
                    · have cH2 := hid (cH.mono (R' := fun e w' => e = .returned (.bool false) ∧ Below (wr.setCell ⟨g7, k * 3 + 1, none⟩ (.int .i64 ((g : Int) + 1))).heap.size (wr.setCell ⟨g7, k * 3 + 1, none⟩ (.int .i64 ((g : Int) + 1))) w') (fun e w1 h => ⟨h.1.not (fun h2 => HG.out.2 (g + 1) (by omega) (by omega) (by have := hiff.1 h2; simpa using this)), h.2⟩))
                      clear cH hiff so sg hll
                      go_wp2_with (go_at_call 8; refine cH2.out.mono ?_; rintro e w8 ⟨rfl, hB8⟩)
                      go_roundg (G - (g + 1))
                      case measure => have := hgk.out; omega
                      case rel => exact ⟨g + 1, rfl, by omega, by rw [show ((g + 1 : Nat) : Int) = (g : Int) + 1 by omega]; exact hSO.out.below hB8 (Nat.le_refl _), hBs.out.trans (hB8.mono hBs.out.size)⟩
    · have hgo' : ¬ (p : Int) ≤ (n : Int) := by omega
      obtain rfl : p = n + 1 := by omega
      have hkR : Hid (k = R.length) := hAt.out.done HPR.out HR.out
      obtain ⟨ao, cap, hue, hrow, _⟩ := hO.out.lrow
      subst hue
      have HRow := hid hrow
      clear hrow
      go_wp2
      go_ret
      exact ⟨⟨ao, cap, ls, rfl, ⟨by rw [hPL.out.1]; exact hkR.out, fun j hj => hPL.out.2 j (by rw [hkR.out]; exact hj)⟩, HRow.out⟩, below_trans hB2.out hB⟩

end Go.Proofs.Ytmomlcibiklajaa.Calls50
