/-
  The way from a leaf to the root, as the document has it: Lead.
-/
import Derived.Test.YthjmmibfgphlhaaCalls142
namespace Go.Proofs.Ythjmmibfgphlhaa.Calls143
set_option linter.unusedVariables false
open Go.ChangeShapes Go.WideShapes Go.ChangeAt Go.RowKit Go.Deep Go.Proofs.Ythjmmibfgphlhaa.Base Go.Proofs.Ythjmmibfgphlhaa.Base2 Go.Proofs.Ythjmmibfgphlhaa.Base7 Go.Proofs.Ythjmmibfgphlhaa.Base8 Go.Proofs.Ythjmmibfgphlhaa.Base9 Go.Proofs.Ythjmmibfgphlhaa.Num55 Go.Proofs.Ythjmmibfgphlhaa.Num60 Go.Proofs.Ythjmmibfgphlhaa.Calls126 Go.Proofs.Ythjmmibfgphlhaa.Calls128 Go.Proofs.Ythjmmibfgphlhaa.Calls133 Go.Proofs.Ythjmmibfgphlhaa.Calls134 Go.Proofs.Ythjmmibfgphlhaa.Calls135 Go.Proofs.Ythjmmibfgphlhaa.Calls141 Go.Proofs.Ythjmmibfgphlhaa.Calls142

/-- The document's texts: none at a row where nothing is summed. -/
def ll (n i : Nat) (p a : List Nat) : Nat → List (List Nat)
  | 0 => [lft a]
  | k + 1 => if ix i k % 2 = 1 ∨ ix i k + 1 < mn n k then ll n i p a k ++ [kt n i p a k] else ll n i p a k ++ [[]]

theorem ll_need {n i k : Nat} {p a : List Nat} (h : Need n i k) : ll n i p a (k + 1) = ll n i p a k ++ [kt n i p a k] := if_pos h

theorem ll_not {n i k : Nat} {p a : List Nat} (h : ¬ Need n i k) : ll n i p a (k + 1) = ll n i p a k ++ [[]] := if_neg h

theorem ll_length (n i : Nat) (p a : List Nat) : ∀ k, (ll n i p a k).length = k + 1
  | 0 => rfl
  | k + 1 => by
    rcases need_dec n i k with e | e
    · rw [ll_need e, List.length_append, ll_length n i p a k]; rfl
    · rw [ll_not e, List.length_append, ll_length n i p a k]; rfl

theorem ll_pre {n i k : Nat} {p a : List Nat} {j : Nat} (hj : j < k + 1) : ∀ d, yr (ll n i p a (k + d)) j = yr (ll n i p a k) j
  | 0 => rfl
  | d + 1 => by
    have ih := ll_pre (n := n) (i := i) (p := p) (a := a) hj d
    show yr (ll n i p a (k + d + 1)) j = _
    rcases need_dec n i (k + d) with e | e
    · rw [ll_need e, yr_left (by rw [ll_length]; omega), ih]
    · rw [ll_not e, yr_left (by rw [ll_length]; omega), ih]

theorem ll_zero (n i : Nat) (p a : List Nat) (h : Nat) : yr (ll n i p a h) 0 = lft a := by
  have := ll_pre (n := n) (i := i) (k := 0) (p := p) (a := a) (j := 0) (by omega) h
  rw [Nat.zero_add] at this
  exact this

theorem ll_at {n i k h : Nat} {p a : List Nat} (hk : k < h) (hN : Need n i k) : yr (ll n i p a h) (k + 1) = kt n i p a k := by
  have := ll_pre (n := n) (i := i) (k := k + 1) (p := p) (a := a) (j := k + 1) (by omega) (h - (k + 1))
  rw [show k + 1 + (h - (k + 1)) = h by omega] at this
  rw [this, ll_need hN]
  have e := yr_end (ll n i p a k) (kt n i p a k)
  rw [ll_length] at e
  exact e

theorem ll_none {n i k h : Nat} {p a : List Nat} (hk : k < h) (hN : ¬ Need n i k) : yr (ll n i p a h) (k + 1) = [] := by
  have := ll_pre (n := n) (i := i) (k := k + 1) (p := p) (a := a) (j := k + 1) (by omega) (h - (k + 1))
  rw [show k + 1 + (h - (k + 1)) = h by omega] at this
  rw [this, ll_not hN]
  have e := yr_end (ll n i p a k) []
  rw [ll_length] at e
  exact e

/-! ### in memory -/

def LAt (W : World) (own : Option Nat) (u : Option Value) (l : List Nat) : Prop := (l = [] ∧ u = some (.slice none 0 0)) ∨ VAt W own u (yv l)

/-- The document's texts in memory. -/
def LTab (W : World) (base : Nat) (v : Value) (k : Nat) (A : List (List Nat)) : Prop := ∃ us : List Value, W.ownsRow base 37 1 v k us ∧ ∀ j, j < k → LAt W v.ownBlock us[j]? (yr A j)

theorem LAt.below {W W' : World} {own : Option Nat} {u : Option Value} {l : List Nat} (h : LAt W own u l) (hB : Below W.heap.size W W') : LAt W' own u l := h.imp id (fun e => e.below hB)

theorem LTab.below {W W' : World} {base : Nat} {v : Value} {k : Nat} {A : List (List Nat)} (h : LTab W base v k A) (hB : Below W.heap.size W W') : LTab W' base v k A := by
  obtain ⟨us, h1, h2⟩ := h
  exact ⟨us, v_below h1 hB, fun j hj => (h2 j hj).below hB⟩

theorem LTab.len {W : World} {base : Nat} {v : Value} {k : Nat} {A : List (List Nat)} (h : LTab W base v k A) : ∃ ao C, v = .slice ao k C ∧ k ≤ C := by
  obtain ⟨us, h1, h2⟩ := h
  rcases h1.2 with ⟨rfl, hn⟩ | ⟨G, cap, cur, rfl, hb, hg, hnc, hcm, hcs, htake⟩
  · exact ⟨none, 0, by rw [hn], by omega⟩
  · exact ⟨_, cap, rfl, hnc⟩

theorem LTab.text {W : World} {base : Nat} {v : Value} {k : Nat} {A : List (List Nat)} (h : LTab W base v k A) {j : Nat} (hj : j < k) :
    ∃ G C, v = .slice (some ⟨G, 0, none⟩) k C ∧ k ≤ C ∧ ∃ so c, W.cell? ⟨G, j, none⟩ = some (.slice so (yr A j).length c) ∧ (yr A j).length ≤ c ∧ YRow W so (yr A j) := by
  obtain ⟨us, h1, h2⟩ := h
  rcases h1.2 with ⟨rfl, hn⟩ | ⟨G, cap, cur, rfl, hb, hg, hnc, hcm, hcs, htake⟩
  · omega
  · have hc := World.ownsRow.cellAt h1 j (by omega)
    rcases h2 j hj with ⟨e1, e2⟩ | ⟨g, c, e1, e2, _, _, e5⟩
    · rw [e2] at hc
      refine ⟨G, cap, rfl, hnc, none, 0, by rw [e1]; exact hc, by rw [e1]; simp, by rw [e1]; exact yrow_nil _ _⟩
    · rw [e1, yv_length] at hc
      rw [yv_length] at e2
      refine ⟨G, cap, rfl, hnc, some ⟨g, 0, none⟩, c, hc, e2, fun e => (by cases e), fun ad e i u hu => ?_⟩
      obtain rfl : (⟨g, 0, none⟩ : Addr) = ad := by simpa using e
      rw [v_zero]
      exact e5 i u hu

theorem LTab.snoc {W W' : World} {base : Nat} {v : Value} {k : Nat} {A : List (List Nat)} {us : List Value} {u : Value} {tmp : Obj} {g cap : Nat} (hown : W.ownsRow base 37 1 v k us) (hrows : ∀ j, j < k → LAt W v.ownBlock us[j]? (yr A j)) (hu : LAt W v.ownBlock (some u) (yr A k))
    (h1 : W'.ownsRow base 37 1 (.slice (some ⟨g, 0, none⟩) (k + 1) cap) (k + 1) (us ++ [u])) (hg : (W.alloc tmp).grownBy W' v.ownBlock) (hor : v.ownBlock = some g ∨ g = (W.alloc tmp).heap.size) : LTab W' base (.slice (some ⟨g, 0, none⟩) (k + 1) cap) (k + 1) A := by
  have hl : us.length = k := by have := hown.1; omega
  have hB : Below W.heap.size W (W.alloc tmp) := (Below.refl _ _).alloc (Nat.le_refl _) _
  have hor' : v.ownBlock = some g ∨ (W.alloc tmp).heap.size ≤ g := hor.imp id (fun e => by omega)
  refine ⟨us ++ [u], h1, fun j hj => ?_⟩
  by_cases e : j = k
  · subst e
    rw [List.getElem?_append_right (by omega), hl, Nat.sub_self]
    exact hu.imp id (fun h => (h.below hB).grown hg hor')
  · rw [List.getElem?_append_left (by omega)]
    exact (hrows j (by omega)).imp id (fun h => (h.below hB).grown hg hor')

theorem ltab_one {W : World} {B g c : Nat} {t : List Nat} {A : List (List Nat)} (hB : B ≤ W.heap.size) (hr : YRow W (some ⟨g, 0, none⟩) t) (hg2 : g < W.heap.size) (hc : t.length ≤ c) (h0 : yr A 0 = t) :
    LTab (W.alloc (.cells #[.slice (some ⟨g, 0, none⟩) t.length c] 37)) B (.slice (some ⟨W.heap.size, 0, none⟩) 1 1) 1 A := by
  obtain ⟨us, h1, h2⟩ := wtab_one hB hr hg2 hc h0
  exact ⟨us, h1, fun j hj => .inr (h2 j hj)⟩

/-- A text stays behind an append to the row of texts. -/
theorem row_past {W W' : World} {own : Option Nat} {g b : Nat} {l : List Nat} {tmp : Obj} (hr : YRow W (some ⟨g, 0, none⟩) l) (hg : b ≤ g) (hg2 : g < W.heap.size) (hown : ∀ j, own = some j → j < b) (hgr : (W.alloc tmp).grownBy W' own) : YRow W' (some ⟨g, 0, none⟩) l := by
  have h1 := yrow_below hr ((Below.refl W.heap.size W).alloc (Nat.le_refl _) tmp)
  refine ⟨h1.1, fun ad e j u hu => ?_⟩
  obtain rfl : (⟨g, 0, none⟩ : Addr) = ad := by simpa using e
  have := h1.2 _ rfl j u hu
  rw [v_zero] at this ⊢
  refine (World.cell?_of_block (a := ⟨g, j, none⟩) (hgr.block g (by simp; omega) (fun e => ?_))).trans this
  have := hown g e.symm
  omega

/-- What Lead answers. -/
def LeadR (n i : Nat) (p a : List Nat) (h B : Nat) (g : Bool) (e : Ending) (w' : World) : Prop :=
  ∃ (z : Int) (v : Value) (ao : Option Addr) (m c : Nat), v = .slice ao m c ∧ e = .returned (.tuple #[.int .i64 z, v, .bool g]) ∧ (g = true → z = ((kn n i p a h : Nat) : Int) ∧ LTab w' B v (h + 1) (ll n i p a h))

/-- On the way. -/
def LdR (n0 i0 : Nat) (p a : List Nat) (h : Nat) (w : World) (nv iv tv xv uv : Value) (wr : World) : Prop :=
  ∃ (k m q u x : Nat) (vn : Value), nv = .int .i64 (m : Int) ∧ iv = .int .i64 (q : Int) ∧ vn = tv ∧ xv = .int .i64 (x : Int) ∧ uv = .int .i64 (u : Int) ∧ k ≤ h ∧ m ≤ 64 ∧ 1 ≤ m ∧ q < m ∧ u ≤ k ∧ x < 65536 ∧ Hid (u ≤ p.length) ∧ Hid (m = mn n0 k) ∧ Hid (q = ix i0 k) ∧ Hid (u = us n0 i0 k) ∧ Hid (x = kn n0 i0 p a k) ∧ Hid (LTab wr w.heap.size vn (k + 1) (ll n0 i0 p a h)) ∧ Hid (Below w.heap.size w wr)

theorem need_par {n i k q m : Nat} (hq : q = ix i k) (hm : m = mn n k) : Need n i k ↔ q % 2 = 1 ∨ q + 1 < m := by
  rw [hq, hm]; exact Iff.rfl

set_option maxRecDepth 100000 in
set_option maxHeartbeats 4000000 in
theorem refLead_any (n0 i0 : Nat) (h1 : 1 ≤ n0) (h64 : n0 ≤ 64) (hi : i0 < n0) (h : Nat) (h6 : h ≤ 6) (ht : Top n0 h) (lo po : Option Addr) (lc pc : Nat) (a p : List Nat) (ha : a.length ≤ 4095) (hb : Byt a) (hp64 : p.length ≤ 64) (hp32 : ∀ x ∈ p, x < 4294967296) (hpc : p.length ≤ pc) (g : Bool) (hg : g = true ↔ ¬ FarP p ∧ p.length = us n0 i0 h) (w : World) (ra : YRow w lo a) (rp : URow w po p) :
    Calls Try.prog 18 #[.int .i64 (n0 : Int), .int .i64 (i0 : Int), .slice lo a.length lc, .slice po p.length pc] w fun e w' => LeadR n0 i0 p a h w.heap.size g e w' ∧ Below w.heap.size w w' := by
  obtain ⟨i1, hi1, hz0, hz1, hz2⟩ := infoBs
  have HT := hid ht
  have HI := hid hi
  have HA := hid ha
  have HBy := hid hb
  have HG := hid hg
  have HP32 := hid hp32
  have HR := hid (fun (w' : World) (hB : Below w.heap.size w w') => urow_below rp hB)
  have cL1 := hid (refLeafText_o lo lc a ha w ra)
  have cL2 := hid (fun (w' : World) (hB : Below w.heap.size w w') => refLeafText_any lo lc a ha w' (yb' ra hB))
  have cS1 := hid (fun bo c (w' : World) (hr : YRow w' bo (lft a)) => refSum_any bo c (lft a) (by rw [lft_length]; omega) (lft_byt hb) w' hr)
  have hz := hid (ll_zero n0 i0 p a h)
  have h0 : Hid (∀ (W W3 : World) (gg cc : Nat) (hB : Below w.heap.size w W) (hr : YRow W (some ⟨gg, 0, none⟩) (lft a)) (hg2 : gg < W.heap.size) (hc : (lft a).length ≤ cc) (hB3 : Below (W.alloc (.cells #[.slice (some ⟨gg, 0, none⟩) (lft a).length cc] 37)).heap.size (W.alloc (.cells #[.slice (some ⟨gg, 0, none⟩) (lft a).length cc] 37)) W3),
      LdR n0 i0 p a h w (.int .i64 (n0 : Int)) (.int .i64 (i0 : Int)) (.slice (some ⟨W.heap.size, 0, none⟩) 1 1) (.int .i64 ((sum (lft a) : Nat) : Int)) (.int .i64 0) W3) := fun W W3 gg cc hB hr hg2 hc hB3 =>
    ⟨0, n0, i0, 0, sum (lft a), _, rfl, rfl, rfl, rfl, rfl, by omega, h64, h1, hi, by omega, sum_lt _, Nat.zero_le _, rfl, rfl, rfl, rfl, (ltab_one hB.size hr hg2 hc hz.out).below hB3, below_trans (hB.alloc hB.size _) hB3⟩
  obtain ⟨np, hnp⟩ : ∃ np, np = p.length := ⟨_, rfl⟩
  have HNP := hid hnp
  rw [← hnp] at hp64 hpc ⊢
  obtain ⟨t, htx⟩ : ∃ t, t = lft a := ⟨_, rfl⟩
  rw [← htx] at h0 cL1 cL2 cS1
  generalize sum t = x0 at *
  generalize a.length = na at cL1 cL2 ⊢
  clear hg ra rp ht hi ha hb htx hnp hp32
  go_enter Try.func18, Try.ntmps18
  go_wp2_with (first
    | (go_at_call 27; refine cL1.out.mono ?_; clear cL1; rintro e w1 ⟨⟨gg, cc, rfl, hgg, hg2, hcb, hr⟩, hB⟩; have HRx := hid hr; have HB1 := hid hB; have HG2 := hid hg2; have HCB := hid hcb; have HB2 := hid (hB.alloc hB.size (.cells #[.slice (some ⟨gg, 0, none⟩) t.length cc] 37)); clear hr hB hcb hg2 hgg)
    | (go_at_call 27; refine (cL2.out _ HB2.out).mono ?_; clear cL2; rintro e w2 ⟨⟨b2, c2, rfl, _, hr⟩, hB⟩; have HR2 := hid hr; have HB3 := hid hB; clear hr hB)
    | (go_at_call 22; refine (cS1.out b2 c2 _ HR2.out).mono ?_; clear cS1; rintro e w3 ⟨rfl, hB⟩; have H0 := hid (h0.out w1 w3 gg cc HB1.out HRx.out HG2.out HCB.out (below_trans HB3.out hB)); have HB4 := hid (below_trans (below_trans HB2.out HB3.out) hB); clear hB))
  clear h0 HRx HB1 HB2 HB3 HR2 HG2 HCB
  go_loop [25] (fun i => ∃ k : Nat, i = .int .i64 (k : Int) ∧ k ≤ np ∧ Hid (∀ j, j < k → ¬ 65535 < yb p j)) (fun i => ((np : Int) - intOf i).toNat)
  case atStart => exact ⟨0, rfl, by omega, fun j hj => by omega⟩
  case round =>
    obtain ⟨k, rfl, hk, hnot⟩ := hrel
    by_cases hgo : k < np
    · have hgo' : (k : Int) < (np : Int) := by omega
      have hkl : Hid (k < p.length) := by have := HNP.out; show k < p.length; omega
      rcases po with _ | ad
      · exact (urow_none (HR.out _ HB4.out) hkl.out).elim
      have c := urow_cell (HR.out _ HB4.out) hkl.out
      have hqm : Hid (yb p k ∈ p) := yb_mem hkl.out
      obtain ⟨q, hqe⟩ : ∃ q, yb p k = q := ⟨_, rfl⟩
      rw [hqe] at c hqm
      have HE := hid hqe
      clear hqe
      by_cases hb : 65535 < q
      · have hb' : (65535 : Int) < (q : Int) := by omega
        have hgf : g = false := by
          cases g with
          | false => rfl
          | true => exact absurd ⟨q, hqm.out, hb⟩ (HG.out.1 rfl).1
        subst hgf
        have hfin : Hid (LeadR n0 i0 p a h w.heap.size false (.returned (.tuple #[.int .i64 0, .slice none 0 0, .bool false])) w3) := ⟨0, _, none, 0, 0, rfl, rfl, fun e => (by cases e)⟩
        go_wp2
        go_ret3
        exact ⟨hfin.out, HB4.out⟩
      · have hb' : ¬ (65535 : Int) < (q : Int) := by omega
        have HBq : Hid (∀ j, j < k + 1 → ¬ 65535 < yb p j) := fun j hj => by
          by_cases e : j = k
          · subst e; rw [HE.out]; exact hb
          · exact hnot.out j (by omega)
        go_wp2
        go_round
        case rel => exact ⟨k + 1, by simp, by omega, HBq⟩
        case measure => exact measK hgo
    · have hgo' : ¬ (k : Int) < (np : Int) := by omega
      have hf : Hid (¬ FarP p) := fun ⟨q, hq, hlq⟩ => by
        obtain ⟨j, hj, e⟩ := List.getElem_of_mem hq
        have : yb p j = q := by simp [yb, List.getD, hj, e]
        exact hnot.out j (by have := HNP.out; omega) (by rw [this]; exact hlq)
      have HG2 : Hid (g = true ↔ np = us n0 i0 h) := by
        rw [HNP.out]
        exact HG.out.trans ⟨fun e => e.2, fun e => ⟨hf.out, e⟩⟩
      clear hnot hf HG
      go_wp2
      clear HB4
      obtain ⟨W0, hW0⟩ : ∃ W0, W0 = w3 := ⟨_, rfl⟩
      rw [← hW0] at H0 ⊢
      clear hW0
      go_loopw [0, 1, 11, 12, 13] (fun nv iv tv xv uv wr => LdR n0 i0 p a h w nv iv tv xv uv wr) (fun nv iv tv xv uv wr => (intOf nv).toNat)
      case atStart => exact H0.out
      case round =>
        obtain ⟨k, m, q, u, x, vn, rfl, rfl, hvn, rfl, rfl, hk, hm64, hm1, hqm, hu, hxl, HUp, HM, HQ, HU, HK, HW, HB⟩ := hrel
        subst hvn
        by_cases hgo : 1 < m
        · have hgo' : (1 : Int) < (m : Int) := by omega
          have hkh : k < h := by
            rcases Nat.lt_or_ge k h with e | e
            · exact e
            · obtain rfl : k = h := by omega
              have h2 := HM.out
              rw [HT.out.1] at h2
              omega
          have hnp2 := need_par HQ.out HM.out
          have hm2 : Hid ((m + 1) / 2 = mn n0 (k + 1)) := by show _ = (mn n0 k + 1) / 2; rw [← HM.out]
          have hq2 : Hid (q / 2 = ix i0 (k + 1)) := by show _ = ix i0 k / 2; rw [← HQ.out]
          have hmm : (m + 1) / 2 < m := by omega
          have hqq : q / 2 < (m + 1) / 2 := by omega
          have hsz := HB.out.size
          by_cases hN : q % 2 = 1 ∨ q + 1 < m
          · have hNd := hnp2.2 hN
            clear hnp2
            by_cases hM0 : np ≤ u
            · have hgf : g = false := by
                cases g with
                | false => rfl
                | true =>
                  have e1 := HG2.out.1 rfl
                  have e2 := us_need hNd
                  have e3 := us_mono (n := n0) (i := i0) (k := k + 1) (h - (k + 1))
                  rw [show k + 1 + (h - (k + 1)) = h by omega] at e3
                  have e4 := HU.out
                  omega
              subst hgf
              have hfin : Hid (LeadR n0 i0 p a h w.heap.size false (.returned (.tuple #[.int .i64 0, .slice none 0 0, .bool false])) wr) := ⟨0, _, none, 0, 0, rfl, rfl, fun e => (by cases e)⟩
              have hM1 : (np : Int) ≤ (u : Int) := by omega
              clear HU HM HQ HG2 HK hNd
              by_cases hp : q % 2 = 1
              · have t1 : ((q : Int)).tmod 2 = 1 := by rw [Int.tmod_eq_emod_of_nonneg (by omega)]; omega
                have t3 : (((q : Int)).tmod 2 == 0) = false := by rw [t1]; rfl
                clear hN hp
                go_wp2
                go_ret3
                exact ⟨hfin.out, HB.out⟩
              · have t1 : ((q : Int)).tmod 2 = 0 := by rw [Int.tmod_eq_emod_of_nonneg (by omega)]; omega
                have t4 : ¬ (m : Int) ≤ (q : Int) + 1 := by omega
                have t5 : decide ((m : Int) ≤ (q : Int) + 1) = false := decide_eq_false t4
                clear hN hp
                go_wp2
                go_ret3
                exact ⟨hfin.out, HB.out⟩
            have hun : u < p.length := by have := HNP.out; omega
            have hun' : ¬ (np : Int) ≤ (u : Int) := by omega
            have hun2 : (u : Int) < (np : Int) := by omega
            rcases po with _ | ad
            · exact (urow_none (HR.out _ HB.out) hun).elim
            have d0 := urow_cell (HR.out _ HB.out) hun
            have HRA := hid (fun (w' : World) (hB : Below w.heap.size w w') => urow_cell (HR.out w' hB) hun)
            have hyl := HP32.out _ (yb_mem hun)
            have hta := ll_at (p := p) (a := a) hkh hNd
            have hkt : kt n0 i0 p a k = if ix i0 k % 2 = 1 then prt (yb p u) x else prt x (yb p u) := by rw [HU.out, HK.out]; rfl
            have hkn : kn n0 i0 p a (k + 1) = sum (kt n0 i0 p a k) := nk_need hNd
            have hu2 : Hid (u + 1 = us n0 i0 (k + 1)) := by show _ = _; rw [us_need hNd, ← HU.out]
            have hup : Hid (u + 1 ≤ p.length) := hun
            generalize yb p u = y at *
            have ho0 : (0 : Int) ≤ (u : Int) := by omega
            by_cases hp : q % 2 = 1
            · have hkt2 : kt n0 i0 p a k = prt y x := by rw [hkt]; exact if_pos (by rw [← HQ.out]; exact hp)
              rw [hkt2] at hta hkn
              have hlit : Hid (yr (ll n0 i0 p a h) (k + 1) = prt y x) := hta
              have hkn2 : Hid (sum (prt y x) = kn n0 i0 p a (k + 1)) := hkn.symm
              have hsl := sum_lt (prt y x)
              have cP := hid (fun w' => refPairText_o y x (by omega) (by omega) w')
              have hp5 := prt_length y x
              have cS := hid (fun bo c (w' : World) (hr : YRow w' bo (prt y x)) => refSum_any bo c (prt y x) (by omega) (prt_byt y x) w' hr)
              have t1 : ((q : Int)).tmod 2 = 1 := by rw [Int.tmod_eq_emod_of_nonneg (by omega)]; omega
              have t3 : (((q : Int)).tmod 2 == 0) = false := by rw [t1]; rfl
              have cQ := hid (fun w' => refPairText_o x y (by omega) (by omega) w')
              clear hta hkt hkn hkt2 HU HM HQ HG2 hp5 hN hNd HK hun
              generalize prt y x = t2 at *
              generalize sum t2 = s2 at *
              go_wp2_with (first
                | (go_at_call 29; refine (cQ.out _).mono ?_; clear cQ; rintro e w8 ⟨⟨g8, c8, rfl, _, _, _, _⟩, hB8⟩; have HW8 := hid (HW.out.below hB8); have HB8 := hid (below_trans HB.out hB8); have d8 := HRA.out w8 HB8.out; clear hB8)
                | (go_at_call 29; refine (cP.out _).mono ?_; rintro e w4 ⟨⟨g4, c4, rfl, hg4, hg5, hc4, hr4⟩, hB4⟩; have HR4 := hid hr4; have HG4 := hid hg4; have HG5 := hid hg5; have HC4 := hid hc4; obtain ⟨us4, hown4, hrows4⟩ := HW8.out; have hlow := hid (fun j e => (World.ownsRow.lt hown4 j e).2); have HO4 := hid (v_below hown4 hB4); have HRW4 := hid (fun j hj => (hrows4 j hj).below hB4); have HB4 := hid (below_trans HB8.out hB4); have hsz4 := HB4.out.size; clear hr4 hg4 hg5 hc4 hown4 hrows4 hB4)
                | (at_builtin; refine wpList_append_own0 _ rfl _ _ 22 rfl w.heap.size 37 i1 (.slice none 0 0) 1 24 Try.underlying22 hi1 hz0 hz1 hz2 rfl (by decide) vn (k + 1) us4 rfl (HO4.out.alloc _) ⟨w4.heap.size, 0, none⟩ 1 1 [.slice (some ⟨g4, 0, none⟩) t2.length c4] rfl rfl v_one (by simp [Value.oneCell']) (by omega) (by unfold maxLen; omega) (by omega) (by simp; omega) ?_; intro g5 c5 w5 hO5 hG5 hor5 hlt5; have HW5 := hid (LTab.snoc (A := ll n0 i0 p a h) HO4.out HRW4.out (by rw [hlit.out]; exact .inr (vat_new HR4.out HG4.out HG5.out HC4.out hlow.out)) hO5 hG5 hor5); have HR5 := hid (row_past HR4.out HG4.out HG5.out hlow.out hG5); have HB5 := hid (v_snoc HB4.out (Nat.le_refl _) HO4.out hG5); clear hO5 hG5 hor5 hlt5)
                | (go_at_call 22; refine (cS.out _ c4 _ HR5.out).mono ?_; rintro e w6 ⟨rfl, hB6⟩; have HW6 := hid (HW5.out.below hB6); have HB6 := hid (below_trans HB5.out hB6); clear hB6))
              go_roundw
              case rel => exact ⟨k + 1, (m + 1) / 2, q / 2, u + 1, s2, _, by simp, by simp, rfl, rfl, by simp, by omega, by omega, by omega, hqq, by omega, hsl, hup, hm2, hq2, hu2, hkn2, HW6, HB6⟩
              case measure => simp [intOf]; omega
            · have hkt2 : kt n0 i0 p a k = prt x y := by rw [hkt]; exact if_neg (by rw [← HQ.out]; exact hp)
              rw [hkt2] at hta hkn
              have hlit : Hid (yr (ll n0 i0 p a h) (k + 1) = prt x y) := hta
              have hkn2 : Hid (sum (prt x y) = kn n0 i0 p a (k + 1)) := hkn.symm
              have hsl := sum_lt (prt x y)
              have cP := hid (fun w' => refPairText_o x y (by omega) (by omega) w')
              have hp5 := prt_length x y
              have cS := hid (fun bo c (w' : World) (hr : YRow w' bo (prt x y)) => refSum_any bo c (prt x y) (by omega) (prt_byt x y) w' hr)
              have t1 : ((q : Int)).tmod 2 = 0 := by rw [Int.tmod_eq_emod_of_nonneg (by omega)]; omega
              have t4 : ¬ (m : Int) ≤ (q : Int) + 1 := by omega
              have t5 : decide ((m : Int) ≤ (q : Int) + 1) = false := decide_eq_false t4
              have t6 : ¬ ((q : Int)).tmod 2 = 1 := by omega
              clear hta hkt hkn hkt2 HU HM HQ HG2 hp5 hN hNd HK hun
              generalize prt x y = t2 at *
              generalize sum t2 = s2 at *
              go_wp2_with (first
                | (go_at_call 29; refine (cP.out _).mono ?_; rintro e w4 ⟨⟨g4, c4, rfl, hg4, hg5, hc4, hr4⟩, hB4⟩; have HR4 := hid hr4; have HG4 := hid hg4; have HG5 := hid hg5; have HC4 := hid hc4; obtain ⟨us4, hown4, hrows4⟩ := HW.out; have hlow := hid (fun j e => (World.ownsRow.lt hown4 j e).2); have HO4 := hid (v_below hown4 hB4); have HRW4 := hid (fun j hj => (hrows4 j hj).below hB4); have HB4 := hid (below_trans HB.out hB4); have hsz4 := HB4.out.size; clear hr4 hg4 hg5 hc4 hown4 hrows4 hB4)
                | (at_builtin; refine wpList_append_own0 _ rfl _ _ 22 rfl w.heap.size 37 i1 (.slice none 0 0) 1 24 Try.underlying22 hi1 hz0 hz1 hz2 rfl (by decide) vn (k + 1) us4 rfl (HO4.out.alloc _) ⟨w4.heap.size, 0, none⟩ 1 1 [.slice (some ⟨g4, 0, none⟩) t2.length c4] rfl rfl v_one (by simp [Value.oneCell']) (by omega) (by unfold maxLen; omega) (by omega) (by simp; omega) ?_; intro g5 c5 w5 hO5 hG5 hor5 hlt5; have HW5 := hid (LTab.snoc (A := ll n0 i0 p a h) HO4.out HRW4.out (by rw [hlit.out]; exact .inr (vat_new HR4.out HG4.out HG5.out HC4.out hlow.out)) hO5 hG5 hor5); have HR5 := hid (row_past HR4.out HG4.out HG5.out hlow.out hG5); have HB5 := hid (v_snoc HB4.out (Nat.le_refl _) HO4.out hG5); clear hO5 hG5 hor5 hlt5)
                | (go_at_call 22; refine (cS.out _ c4 _ HR5.out).mono ?_; rintro e w6 ⟨rfl, hB6⟩; have HW6 := hid (HW5.out.below hB6); have HB6 := hid (below_trans HB5.out hB6); clear hB6))
              go_roundw
              case rel => exact ⟨k + 1, (m + 1) / 2, q / 2, u + 1, s2, _, by simp, by simp, rfl, rfl, by simp, by omega, by omega, by omega, hqq, by omega, hsl, hup, hm2, hq2, hu2, hkn2, HW6, HB6⟩
              case measure => simp [intOf]; omega
          · have hu2 : Hid (u = us n0 i0 (k + 1)) := by show _ = _; rw [us_not (fun e => hN (hnp2.1 e)), ← HU.out]
            have hk2 : Hid (x = kn n0 i0 p a (k + 1)) := by show _ = nk _ _ _ _ _ (k + 1); rw [nk_not (fun e => hN (hnp2.1 e))]; exact HK.out
            have hlit : Hid (yr (ll n0 i0 p a h) (k + 1) = []) := ll_none hkh (fun e => hN (hnp2.1 e))
            have hp : ¬ q % 2 = 1 := fun e => hN (.inl e)
            have t1 : ((q : Int)).tmod 2 = 0 := by rw [Int.tmod_eq_emod_of_nonneg (by omega)]; omega
            have t4 : (m : Int) ≤ (q : Int) + 1 := by omega
            have t5 : decide ((m : Int) ≤ (q : Int) + 1) = true := decide_eq_true t4
            obtain ⟨us4, hown4, hrows4⟩ := HW.out
            have HO4 := hid hown4
            have HRW4 := hid hrows4
            have HB4 := HB
            obtain ⟨w4, hw4⟩ : ∃ w4, w4 = wr := ⟨_, rfl⟩
            rw [← hw4] at HO4 HRW4 HB4 hsz ⊢
            clear hnp2 HU HM HQ HG2 HK hN hown4 hrows4 hp HW HB hw4
            go_wp2_with (at_builtin; refine wpList_append_own0 _ rfl _ _ 22 rfl w.heap.size 37 i1 (.slice none 0 0) 1 24 Try.underlying22 hi1 hz0 hz1 hz2 rfl (by decide) vn (k + 1) us4 rfl (HO4.out.alloc _) ⟨w4.heap.size, 0, none⟩ 1 1 [.slice none 0 0] rfl rfl v_one (by simp [Value.oneCell']) (by omega) (by unfold maxLen; omega) (by omega) (by simp; omega) ?_; intro g5 c5 w5 hO5 hG5 hor5 hlt5; have HW5 := hid (LTab.snoc (A := ll n0 i0 p a h) HO4.out HRW4.out (by rw [hlit.out]; exact .inl ⟨rfl, rfl⟩) hO5 hG5 hor5); have HB5 := hid (v_snoc HB4.out (Nat.le_refl _) HO4.out hG5); clear hO5 hG5 hor5 hlt5)
            go_roundw
            case rel => exact ⟨k + 1, (m + 1) / 2, q / 2, u, x, _, by simp, by simp, rfl, rfl, rfl, by omega, by omega, by omega, hqq, by omega, hxl, HUp, hm2, hq2, hu2, hk2, HW5, HB5⟩
            case measure => simp [intOf]; omega
        · have hgo' : ¬ (1 : Int) < (m : Int) := by omega
          have hkh : k = h := by
            rcases Nat.lt_or_ge k h with e | e
            · have h2 := HT.out.2 k e
              have h3 := HM.out
              omega
            · omega
          subst hkh
          have hgM : g = true ↔ np = u := by rw [HG2.out, ← HU.out]
          obtain ⟨ao2, C2, hv, _⟩ := LTab.len HW.out
          have HV := hid hv
          cases g with
          | true =>
            obtain rfl : np = u := hgM.1 rfl
            have hfin : Hid (LeadR n0 i0 p a k w.heap.size true (.returned (.tuple #[.int .i64 (x : Int), vn, .bool true])) wr) := ⟨_, vn, ao2, k + 1, C2, HV.out, rfl, fun _ => ⟨by rw [← HK.out], HW.out⟩⟩
            clear hgM hv
            go_wp2
            go_ret3
            exact ⟨hfin.out, HB.out⟩
          | false =>
            have hM0 : ¬ np = u := fun e => by have := hgM.2 e; cases this
            have hM2 : ¬ u = np := fun e => hM0 e.symm
            have hM3 : ¬ (u : Int) = (np : Int) := by omega
            have hM1 : ((u : Int) == (np : Int)) = false := beq_eq_false_iff_ne.2 hM3
            have hfin : Hid (LeadR n0 i0 p a k w.heap.size false (.returned (.tuple #[.int .i64 (x : Int), vn, .bool false])) wr) := ⟨_, vn, ao2, k + 1, C2, HV.out, rfl, fun e => (by cases e)⟩
            clear hgM hv
            go_wp2
            go_ret3
            exact ⟨hfin.out, HB.out⟩

end Go.Proofs.Ythjmmibfgphlhaa.Calls143
