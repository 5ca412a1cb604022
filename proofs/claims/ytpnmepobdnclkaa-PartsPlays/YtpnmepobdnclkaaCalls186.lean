/-
  Package parts: what shares a value among all parties, each time with the next numbers that are drawn.
-/
import Derived.Test.YtpnmepobdnclkaaCalls181
import Derived.Test.YtpnmepobdnclkaaCalls184
import Derived.Test.YtpnmepobdnclkaaCalls185
namespace Go.Proofs.Ytpnmepobdnclkaa.Calls186
set_option linter.unusedVariables false
open Go.ChangeShapes Go.WideShapes Go.ChangeAt Go.RowKit Go.Deep Go.Proofs.Ytpnmepobdnclkaa.Base Go.Proofs.Ytpnmepobdnclkaa.Base2 Go.Proofs.Ytpnmepobdnclkaa.Num Go.Proofs.Ytpnmepobdnclkaa.Num13 Go.Proofs.Ytpnmepobdnclkaa.Num16 Go.Proofs.Ytpnmepobdnclkaa.Num17 Go.Proofs.Ytpnmepobdnclkaa.Num34 Go.Proofs.Ytpnmepobdnclkaa.Num35 Go.Proofs.Ytpnmepobdnclkaa.Num39 Go.Proofs.Ytpnmepobdnclkaa.Num61 Go.Proofs.Ytpnmepobdnclkaa.Num69 Go.Proofs.Ytpnmepobdnclkaa.Base4 Go.Proofs.Ytpnmepobdnclkaa.Calls69 Go.Proofs.Ytpnmepobdnclkaa.Calls182 Go.Proofs.Ytpnmepobdnclkaa.Calls183 Go.Proofs.Ytpnmepobdnclkaa.Calls184 Go.Proofs.Ytpnmepobdnclkaa.Calls185
open Go.Proofs.Ytpnmepobdnclkaa.Num7 (ev)
open Go.Proofs.Ytpnmepobdnclkaa.Calls71 (al)
open Go.Proofs.Ytpnmepobdnclkaa.Calls87 (ib pb)
open Go.Proofs.Ytpnmepobdnclkaa.Calls88 (Gd shl shl_length shl_py)
open Go.Proofs.Ytpnmepobdnclkaa.Calls90 (InM bd_of_in)
open Go.Proofs.Ytpnmepobdnclkaa.Calls58 (below_set)
open Go.Proofs.Ytpnmepobdnclkaa.Calls59 (own1_made)
open Go.Proofs.Ytpnmepobdnclkaa.Calls181 (RetPEO Split_own g_trans g_set g_drewN g_below)

theorem g_refl (w : World) (row : Option Nat) : w.grownBy w row := ⟨rfl, rfl, rfl, Nat.le_refl _, fun _ _ _ => rfl⟩

/-- The splitter's boxes: p, t, and what is left of what is drawn, behind u. -/
def Spl (W : World) (b P t : Nat) (R : List Int) (u : Nat) : Prop :=
  BoxC W b 2 #[.int .i64 (P : Int)] ∧ BoxC W (b + 1) 3 #[.int .i64 (t : Int)] ∧
    ∃ ro cr, BoxC W (b + 2) 22 #[.slice ro (R.length - u) cr] ∧ R.length - u ≤ cr ∧ IRow W ro (R.drop u) ∧ ∀ ad, ro = some ad → R.drop u ≠ [] → ad.block < b

theorem irow_blk {W W' : World} {n : Nat} {ao : Option Addr} {l : List Int} (h : IRow W ao l) (hB : Below n W W') (hn : ∀ ad, ao = some ad → l ≠ [] → ad.block < n) : IRow W' ao l := by
  refine ⟨h.1, fun ad e j hj => ?_⟩
  have c := h.2 ad e j hj
  have hb := hn ad e (fun e' => by rw [e'] at hj; simp at hj)
  refine (hB.cell (p := ad.add j) ?_).trans c
  rw [add_block]; exact hb

theorem irow_kept {W W' : World} {row : Option Nat} {ao : Option Addr} {l : List Int} (h : IRow W ao l) (hg : W.grownBy W' row) (hn : ∀ ad, ao = some ad → l ≠ [] → some ad.block ≠ row) : IRow W' ao l := by
  refine ⟨h.1, fun ad e j hj => ?_⟩
  have c := h.2 ad e j hj
  refine hg.cell c ?_
  rw [add_block]
  exact hn ad e (fun e' => by rw [e'] at hj; simp at hj)

theorem Spl.below {W W' : World} {n b P t : Nat} {R : List Int} {u : Nat} (h : Spl W b P t R u) (hB : Below n W W') (hn : b + 3 ≤ n) : Spl W' b P t R u := by
  obtain ⟨h1, h2, ro, cr, h3, h4, h5, h6⟩ := h
  exact ⟨h1.below hB (by omega), h2.below hB (by omega), ro, cr, h3.below hB (by omega), h4, irow_blk h5 hB (fun ad e hne => by have := h6 ad e hne; omega), h6⟩

theorem Spl.lt {W : World} {b P t : Nat} {R : List Int} {u : Nat} (h : Spl W b P t R u) : b + 3 ≤ W.heap.size := by
  obtain ⟨_, _, ro, cr, h3, _⟩ := h
  have := h3.lt
  omega

theorem splitter_any (P t : Nat) (ro : Option Addr) (cr : Nat) (R : List Int) (hcr : R.length ≤ cr) (w : World) (hrow : IRow w ro R) (hlt : ∀ ad, ro = some ad → R ≠ [] → ad.block < w.heap.size) :
    Calls Try.prog 27 #[.int .i64 (P : Int), .int .i64 (t : Int), .slice ro R.length cr] w fun e w' => e = .returned (.func (.func 40) #[] #[.pointer (some ⟨w.heap.size + 1, 0, none⟩), .pointer (some ⟨w.heap.size + 2, 0, none⟩), .pointer (some ⟨w.heap.size, 0, none⟩)]) ∧
      Spl w' w.heap.size P t R 0 ∧ w'.heap.size = w.heap.size + 3 ∧ Below w.heap.size w w' := by
  have hS : Hid (Spl (((w.alloc (.cells #[.int .i64 (P : Int)] 2)).alloc (.cells #[.int .i64 (t : Int)] 3)).alloc (.cells #[.slice ro R.length cr] 22)) w.heap.size P t R 0) := by
    have b1 := ((BoxC.new w 2 #[.int .i64 (P : Int)]).alloc (.cells #[.int .i64 (t : Int)] 3)).alloc (.cells #[.slice ro R.length cr] 22)
    have b2 := (BoxC.new (w.alloc (.cells #[.int .i64 (P : Int)] 2)) 3 #[.int .i64 (t : Int)]).alloc (.cells #[.slice ro R.length cr] 22)
    have b3 := BoxC.new ((w.alloc (.cells #[.int .i64 (P : Int)] 2)).alloc (.cells #[.int .i64 (t : Int)] 3)) 22 #[.slice ro R.length cr]
    simp only [World.size_alloc] at b2 b3
    exact ⟨b1, b2, ro, cr, b3, hcr, irow_blk hrow (((Below.refl _ w).alloc (Nat.le_refl _) _).alloc (by rw [World.size_alloc]; omega) _ |>.alloc (by rw [World.size_alloc, World.size_alloc]; omega) _) hlt, hlt⟩
  have hB : Hid (Below w.heap.size w (((w.alloc (.cells #[.int .i64 (P : Int)] 2)).alloc (.cells #[.int .i64 (t : Int)] 3)).alloc (.cells #[.slice ro R.length cr] 22))) :=
    ((Below.refl _ w).alloc (Nat.le_refl _) _).alloc (by rw [World.size_alloc]; omega) _ |>.alloc (by rw [World.size_alloc, World.size_alloc]; omega) _
  generalize R.length = n at *
  clear hrow hlt
  go_enter Try.func27, Try.ntmps27
  go_wp2
  go_ret
  exact ⟨rfl, hS.out, by simp only [World.size_alloc], hB.out⟩

theorem spl_next {W : World} {b P t : Nat} {R : List Int} {v : Nat} {old : Value} {ro : Option Addr} {cr : Nat} (h1 : BoxC W b 2 #[.int .i64 (P : Int)]) (h2 : BoxC W (b + 1) 3 #[.int .i64 (t : Int)]) (h3 : BoxC W (b + 2) 22 #[old])
    (hc : R.length - v ≤ cr) (hr : IRow W ro (R.drop v)) (hlt : ∀ ad, ro = some ad → R.drop v ≠ [] → ad.block < b) : Spl (W.setCell ⟨b + 2, 0, none⟩ (.slice ro (R.length - v) cr)) b P t R v := by
  have h4 := h3.set 0 (.slice ro (R.length - v) cr)
  refine ⟨h1.other (by omega) 0 _, h2.other (by omega) 0 _, ro, cr, by simpa using h4, hc, irow_blk hr (n := b + 2) ?_ (fun ad e hne => by have := hlt ad e hne; omega), hlt⟩
  exact (Below.refl (b + 2) W).setCell (p := ⟨b + 2, 0, none⟩) (Nat.le_refl _) _

theorem irow_cut {W : World} {ad : Addr} {R : List Int} {u t N m cr : Nat} (hN : N = R.length - u) (hm : m = min N t) (hcr : N ≤ cr) (h : IRow W (some ad) (R.drop u)) : IRow W (if cr = m then some ad else some (ad.add m)) (R.drop (u + t)) := by
  by_cases h0 : R.length ≤ u + t
  · rw [List.drop_eq_nil_of_le h0]; exact irow_nil _ _
  · rw [if_neg (by omega)]
    refine ⟨fun e => (by cases e), fun a e j hj => ?_⟩
    obtain rfl : ad.add m = a := by simpa using e
    rw [List.length_drop] at hj
    rw [Base2.add_add]
    have h2 := h.2 ad rfl (m + j) (by rw [List.length_drop]; omega)
    rw [h2]
    have e1 : co (R.drop u) (m + j) = co (R.drop (u + t)) j := by
      unfold co
      simp only [List.getD, List.getElem?_drop]
      rw [show u + (m + j) = u + t + j by omega]
    rw [e1]

theorem tk_is {R : List Int} {u t N m : Nat} (hN : N = R.length - u) (hm : m = min N t) : mk t (ov (fun _ => 0) (co (R.drop u)) 0 m) = tk R u t := by
  unfold tk
  refine mk_congr fun j hj => ?_
  unfold ov co
  by_cases h : j < m
  · rw [if_pos (by omega)]
    simp only [List.getD, List.getElem?_drop, Nat.sub_zero]
  · rw [if_neg (by omega)]
    simp only [List.getD]
    rw [List.getElem?_eq_none (by omega)]
    rfl

theorem tk_in {P : Nat} {R : List Int} (hP : 1 ≤ P) (h : InM (P : Int) R R.length) (u t : Nat) : InM (P : Int) (tk R u t) (tk R u t).length := fun j hj => by
  rw [tk_length] at hj
  unfold tk
  rw [co_mk, if_pos hj]
  by_cases e : u + j < R.length
  · exact h _ e
  · unfold co
    rw [List.getD_eq_getElem?_getD, List.getElem?_eq_none (by omega)]
    exact ⟨Int.le_refl _, by show (0 : Int) < _; omega⟩

theorem prow_blk {W W' : World} {ao : Option Addr} {l : List (Int × Int)} (h : PRow W ao l) (hB : Below W.heap.size W W') : PRow W' ao l := pb h hB

/-- The shares of a value, by Split. -/
theorem split_is (P : Nat) (hP : Pr P) (hP2 : P ≤ 251) (t : Nat) (ht : t ≤ 4) (N : Nat) (hN : N = 2 * t + 1) (hn : N < P) (R : List Int) (hRI : InM (P : Int) R R.length) (u : Nat) (s : Int) (hs : 0 ≤ s ∧ s < (P : Int)) (g : Nat) (W : World) (hO : Own1 W g g t t (ov (fun _ => 0) (co (R.drop u)) 0 (min (R.length - u) t))) :
    Calls Try.prog 41 #[.int .i64 (P : Int), .int .i64 s, .slice (some ⟨g, 0, none⟩) t t, .int .i64 (N : Int)] W fun e w' => (∃ po cp, e = .returned (.tuple #[.slice po N cp, .int .i64 0]) ∧ N ≤ cp ∧ Hid (PRow w' po (shl P s (tk R u t) N))) ∧ Below W.heap.size W w' := by
  have hrow := hO.row
  rw [tk_is rfl rfl] at hrow
  have hl := tk_length R u t
  have hp1 := hP.1
  have h := Split_own P hP hP2 s N (some ⟨g, 0, none⟩) t (tk R u t) (by omega) ⟨hs, bd_of_in (tk_in (by omega) hRI u t), by omega, by omega⟩ W hrow
  rw [hl] at h
  refine h.mono ?_
  rintro e w' ⟨⟨po, cp, rfl, h2, h3, _⟩, hB⟩
  rw [shl_length] at h2 ⊢
  exact ⟨⟨po, cp, rfl, h2, h3⟩, hB⟩

set_option maxRecDepth 100000 in
set_option maxHeartbeats 2000000 in
theorem split1_any (P : Nat) (hP : Pr P) (hP2 : P ≤ 251) (t : Nat) (ht : t ≤ 4) (hn : 2 * t + 1 < P) (R : List Int) (hR : R.length ≤ 9223372036854775807) (hRI : InM (P : Int) R R.length) (b u : Nat) (s : Int) (hs : 0 ≤ s ∧ s < (P : Int)) (w : World) (hS : Spl w b P t R u) :
    Calls Try.prog 40 #[.int .i64 s, .pointer (some ⟨b + 1, 0, none⟩), .pointer (some ⟨b + 2, 0, none⟩), .pointer (some ⟨b, 0, none⟩)] w fun e w' => RetO w.heap.size (2 * t + 1) (shr P R t s u) e w' ∧ Spl w' b P t R (u + t) ∧ w.grownBy w' (some (b + 2)) := by
  obtain ⟨i0, hi, hz0, hz1, hz2⟩ := info_ex
  have hlt := hS.lt
  obtain ⟨h1, h2, ro, cr, h3, h4, h5, h6⟩ := hS
  have c1 := h1.cell 0
  have c2 := h2.cell 0
  have c3 := h3.cell 0
  have c4 := h3.frozen 0
  obtain ⟨N, hN⟩ : ∃ N, N = R.length - u := ⟨_, rfl⟩
  rw [← hN] at h4 c3
  have hN2 : N ≤ 9223372036854775807 := by omega
  simp at c1 c2 c3
  obtain ⟨m, hm⟩ : ∃ m, m = min N t := ⟨_, rfl⟩
  have hmb : m ≤ N ∧ m ≤ t ∧ (m : Int) ≤ (N : Int) ∧ (m : Int) ≤ (t : Int) ∧ m ≤ cr ∧ (m : Int) ≤ (cr : Int) := by omega
  obtain ⟨V, hV⟩ : ∃ V, V = 2 * t + 1 := ⟨_, rfl⟩
  have hVi : 2 * (t : Int) + 1 = (V : Int) := by omega
  have cT := fun w => parties_any (t : Int) (by omega) (by omega) w
  rw [hVi] at cT
  have cS : Hid (∀ W, Own1 W w.heap.size w.heap.size t t (ov (fun _ => 0) (co (R.drop u)) 0 m) → Calls Try.prog 41 #[.int .i64 (P : Int), .int .i64 s, .slice (some ⟨w.heap.size, 0, none⟩) t t, .int .i64 (V : Int)] W fun e w' => (∃ po cp, e = .returned (.tuple #[.slice po V cp, .int .i64 0]) ∧ V ≤ cp ∧ Hid (PRow w' po (shl P s (tk R u t) V))) ∧ Below W.heap.size W w') := fun W hO => by
    rw [hm, hN] at hO
    exact split_is P hP hP2 t ht V hV (by omega) R hRI u s hs w.heap.size W hO
  have hV9 : 1 ≤ V ∧ V ≤ 9 := by omega
  have hNt : N - m = R.length - (u + t) := by omega
  have HNT := hid hNt
  rw [← hV]
  have HN := hid hN
  have HM : Hid (m = Nat.min N t) := hm
  have H5 : Hid (∀ W, Below (b + 3) w W → ∀ ad, ro = some ad → ∀ j, j < m → W.cell? (ad.add j) = some (.int .i64 (co (R.drop u) j))) := fun W hB ad e j hj => by
    refine (irow_blk h5 hB (fun ad e hne => by have := h6 ad e hne; omega)).2 ad e j ?_
    rw [List.length_drop]; omega
  have H7 : Hid (∀ W, Below (b + 3) w W → ∀ ad, ro = some ad → Spl (W.setCell ⟨b + 2, 0, none⟩ (.slice (if cr = m then some ad else some (ad.add m)) (N - m) (cr - m))) b P t R (u + t)) := fun W hB ad e => by
    subst e
    have k1 := h1.below hB (by omega)
    have k2 := h2.below hB (by omega)
    have k3 := h3.below hB (by omega)
    have k5 := irow_blk h5 hB (fun ad e hne => by have := h6 ad e hne; omega)
    have k6 := spl_next (cr := cr - m) k1 k2 k3 (by rw [← hNt]; omega) (irow_cut hN hm h4 k5) (fun a e hne => by
      have hne2 : R.drop u ≠ [] := fun e2 => hne (by
        have : R.length ≤ u := by have := congrArg List.length e2; rw [List.length_drop] at this; simp at this; omega
        exact List.drop_eq_nil_of_le (by omega))
      have h7 := h6 ad rfl hne2
      have : a.block = ad.block := by
        by_cases e3 : cr = m
        · rw [if_pos e3] at e; rw [← Option.some.inj e]
        · rw [if_neg e3] at e; rw [← Option.some.inj e, add_block]
      omega)
    rwa [← hNt] at k6
  have H8 : Hid (ro = none → N = 0 ∧ ∀ W q, Below (b + 3) w W → Spl (W.setCell ⟨b + 2, 0, none⟩ (.slice none 0 q)) b P t R (u + t)) := fun e => by
    subst e
    have e0 := h5.1 rfl
    have e1 : R.length ≤ u := by have := congrArg List.length e0; rw [List.length_drop] at this; simp at this; omega
    refine ⟨by omega, fun W q hB => ?_⟩
    have k1 := h1.below hB (by omega)
    have k2 := h2.below hB (by omega)
    have k3 := h3.below hB (by omega)
    have k6 := spl_next (v := u + t) (ro := none) (cr := q) (R := R) k1 k2 k3 (by omega) (by rw [List.drop_eq_nil_of_le (by omega)]; exact irow_nil _ _) (fun ad e => by cases e)
    rwa [show R.length - (u + t) = 0 by omega] at k6
  have h3' : Hid (BoxC w (b + 2) 22 #[.slice ro N cr]) := by show BoxC _ _ _ _; rw [hN]; exact h3
  have hst : Hid (shr P R t s u = py (shl P s (tk R u t) V) ∨ True) := .inr trivial
  have HSH : Hid (∀ j, j < V → py (shl P s (tk R u t) V) j = shr P R t s u j) := fun j hj => shl_py hj
  have HSL : Hid ((shl P s (tk R u t) V).length = V) := shl_length _ _ _ _
  clear h1 h2 h3 hm hN h5 h6 hNt hV hst hVi
  go_enter Try.func40, Try.ntmps40
  go_wp2_with (at_make; refine wpList_make_full _ rfl _ _ 22 rfl w.heap.size 2 i0 (.int .i64 0) 1 Try.underlying22 hi hz0 hz1 .i64 .i64 (t : Int) (t : Int) t rfl rfl rfl rfl (by rw [hz2]; omega) (by unfold maxLen; omega) (Nat.le_refl _) ?_; intro w1 hown1 hgrow1; have hB1 : Hid (Below w.heap.size w w1) := (Below.refl _ w).grown hgrow1 (Nat.le_refl _) (fun j e => by cases e); have O1 := hid (own1_made hown1); clear hown1 hgrow1)
  have d3 := (h3'.out.below hB1.out (by omega)).cell 0
  have d4 := (h3'.out.below hB1.out (by omega)).frozen 0
  simp at d3
  rcases ro with _ | ad
  · obtain ⟨rfl, H9⟩ := H8.out rfl
    obtain rfl : m = 0 := by omega
    go_region_law (refine step_copyL rfl _ _ rfl w.heap.size w.heap.size t 0 0 (fun _ => 0) (co (R.drop u)) (some ⟨w.heap.size, 0, none⟩) none t t 0 cr (by simp [Act.eval]) (by simp [Act.eval]) O1.out HM.out (fun h => absurd h (by omega)) (by omega) ?_; intro w2 hO2 hB2; have HO2 := hid hO2; have HB2 : Hid (Below w.heap.size w w2) := (by first | exact hB1.out.drew.trans hB2 | exact hB1.out.trans hB2); have e3 := (h3'.out.below HB2.out (by omega)).cell 0; have e4 := (h3'.out.below HB2.out (by omega)).frozen 0; simp at e3; clear hO2 hB2)
    all_goals
      have HS := hid (H9 w2 cr (HB2.out.mono hlt))
      have HG2 : Hid (w.grownBy (w2.setCell ⟨b + 2, 0, none⟩ (Value.slice none 0 cr)) (some (b + 2))) := g_trans (g_below HB2.out) (g_set w2 (b + 2) 0 _)
      have HO3 : Hid (Own1 (w2.setCell ⟨b + 2, 0, none⟩ (.slice none 0 cr)) w.heap.size w.heap.size t t (ov (fun _ => 0) (co (R.drop u)) 0 0)) := HO2.out.other (g' := b + 2) (by omega) 0 _
      clear HO2 HB2 e3 e4
      generalize (Value.slice none 0 cr) = rv at *
      generalize w2.setCell ⟨b + 2, 0, none⟩ rv = W3 at *
      have HZ3 := hid HG2.out.size
      have e1 := HS.out.1.cell 0
      have e2 := HS.out.2.1.cell 0
      simp at e1 e2
      go_wp2
      go_region_held3 (fun w' => w'.cell? ⟨b, 0, none⟩ = some (.int .i64 (P : Int)) ∧ w'.cell? ⟨b + 1, 0, none⟩ = some (.int .i64 (t : Int))) (first | exact ⟨e1, e2⟩ | exact ⟨f1, f2⟩)
        (first
          | (go_at_call 29; refine (cT _).mono ?_; rintro e w' ⟨rfl, hw⟩; subst w')
          | (go_at_call 41; refine (cS.out _ (by first | exact HO3.out | exact HO3.out.drewN _)).mono ?_; rintro e w4 ⟨⟨po, cp, rfl, hcp, hrow⟩, hB4⟩; have HB4 : Hid (Below W3.heap.size W3 w4) := (by first | exact (Below.refl _ W3).drew.trans hB4 | exact hB4 | exact (below_drewN (Below.refl _ W3) _).trans hB4); have HS4 := hid (HS.out.below HB4.out HS.out.lt); have f1 := HS4.out.1.cell 0; have f2 := HS4.out.2.1.cell 0; simp at f1 f2; clear hB4))
      all_goals
        clear HO3 e1 e2 f1 f2
        have HG4 : Hid (w.grownBy w4 (some (b + 2))) := g_trans HG2.out (g_below HB4.out)
        have HZ4 := hid HG4.out.size
        clear HB4 HS HG2 HZ3
        go_wp2_with (at_make; refine wpList_make_full _ rfl _ _ 22 rfl w.heap.size 2 i0 (.int .i64 0) 1 Try.underlying22 hi hz0 hz1 .i64 .i64 (V : Int) (V : Int) V rfl rfl rfl rfl (by rw [hz2]; omega) (by unfold maxLen; omega) HZ4.out ?_; intro w5 hown5 hgrow5; have hB5 : Hid (Below w4.heap.size w4 w5) := (Below.refl _ w4).grown hgrow5 (Nat.le_refl _) (fun j e => by cases e); have O5 := hid (own1_made hown5); clear hown5 hgrow5)
        obtain ⟨g, hg⟩ : ∃ g, g = w4.heap.size := ⟨_, rfl⟩
        have HGg := hid hg
        have O6 : Hid (Own1 w5 w.heap.size g V V (fz (shr P R t s u) 0)) := by rw [hg, fz_zero]; exact O5.out
        rw [← hg]
        clear O5 hg
        go_loopw [33] (fun i wr => ∃ k : Nat, i = .int .i64 (k : Int) ∧ k ≤ V ∧ Hid (Own1 wr w.heap.size g V V (fz (shr P R t s u) k)) ∧ Hid (Below w4.heap.size w4 wr)) (fun i wr => ((V : Int) - intOf i).toNat)
        case atStart => exact ⟨0, rfl, by omega, O6, hB5⟩
        case round =>
          obtain ⟨k, rfl, hk, hO, hB⟩ := hrel
          by_cases hgo : k < V
          · have hgo' : (k : Int) < (V : Int) := by omega
            rcases po with _ | pd
            · have := hrow.out.1 rfl
              have h2 := HSL.out
              rw [this] at h2
              simp at h2
              omega
            · have hp := (prow_blk hrow.out hB.out).2 pd rfl k (by rw [HSL.out]; exact hgo)
              obtain ⟨q1, q2⟩ := hp
              rw [add_two] at q2
              have hv : Hid (((shl P s (tk R u t) V).getD k (0, 0)).2 = shr P R t s u k) := HSH.out k hgo
              have HOx : Hid (∀ o, Own1 (wr.alloc o) w.heap.size g V V (fz (shr P R t s u) k)) := fun o => hO.out.below (alloc_b wr o)
              have HBx : Hid (∀ o, Below w4.heap.size w4 (wr.alloc o)) := fun o => al hB.out o
              generalize ((shl P s (tk R u t) V).getD k (0, 0)).1 = x at *
              generalize ((shl P s (tk R u t) V).getD k (0, 0)).2 = y at *
              have x1 := (HOx.out (.cells #[.int .i64 x, .int .i64 y] 30)).cell hgo
              have x2 := (HOx.out (.cells #[.int .i64 x, .int .i64 y] 30)).frozen k
              have hO7 : Hid (Own1 ((wr.alloc (.cells #[.int .i64 x, .int .i64 y] 30)).setCell ⟨g, k, none⟩ (.int .i64 y)) w.heap.size g V V (fz (shr P R t s u) (k + 1))) := ((HOx.out _).set k _).congr (by rw [hv.out]; exact fz_next _ k)
              have hB7 : Hid (Below w4.heap.size w4 ((wr.alloc (.cells #[.int .i64 x, .int .i64 y] 30)).setCell ⟨g, k, none⟩ (.int .i64 y))) := below_set (HBx.out _) (by rw [HGg.out]; exact Nat.le_refl _) k _
              generalize fz (shr P R t s u) k k = u1 at *
              clear hv HOx HBx
              go_wp2
              go_roundw
              case rel => exact ⟨k + 1, by simp, by omega, hO7, hB7⟩
              case measure => exact measK hgo
          · have hgo' : ¬ (k : Int) < (V : Int) := by omega
            obtain rfl : k = V := by omega
            have hO8 : Hid (Own1 wr w.heap.size g k k (shr P R t s u)) := by
              have h := hO.out
              unfold Own1 at h ⊢
              rwa [fz_done] at h
            go_wp2
            go_ret
            exact ⟨⟨g, rfl, hO8.out⟩, HS4.out.below hB.out HS4.out.lt, g_trans HG4.out (g_below hB.out)⟩
  · have HS7 := hid (fun w2 (h : Below w.heap.size w w2) => H7.out w2 (h.mono hlt) ad rfl)
    clear H7 H8
    go_region_law (refine step_copyL rfl _ _ rfl w.heap.size w.heap.size t 0 m (fun _ => 0) (co (R.drop u)) (some ⟨w.heap.size, 0, none⟩) (some ad) t t N cr (by simp [Act.eval]) (by simp [Act.eval]) O1.out HM.out (fun _ => ⟨rfl, ad, rfl, H5.out _ (hB1.out.mono hlt).drew ad rfl⟩) (by omega) ?_; intro w2 hO2 hB2; have HO2 := hid hO2; have HB2 : Hid (Below w.heap.size w w2) := (by first | exact hB1.out.drew.trans hB2 | exact hB1.out.trans hB2); have e3 := (h3'.out.below HB2.out (by omega)).cell 0; have e4 := (h3'.out.below HB2.out (by omega)).frozen 0; simp at e3; clear hO2 hB2)
    all_goals
      have HS := hid (HS7.out w2 HB2.out)
      have HG2 : Hid (w.grownBy (w2.setCell ⟨b + 2, 0, none⟩ (Value.slice (if cr = m then some ad else some (ad.add m)) (N - m) (cr - m))) (some (b + 2))) := g_trans (g_below HB2.out) (g_set w2 (b + 2) 0 _)
      have HO3 : Hid (Own1 (w2.setCell ⟨b + 2, 0, none⟩ (.slice (if cr = m then some ad else some (ad.add m)) (N - m) (cr - m))) w.heap.size w.heap.size t t (ov (fun _ => 0) (co (R.drop u)) 0 m)) := HO2.out.other (g' := b + 2) (by omega) 0 _
      clear HO2 HB2 e3 e4
      generalize (Value.slice (if cr = m then some ad else some (ad.add m)) (N - m) (cr - m)) = rv at *
      generalize w2.setCell ⟨b + 2, 0, none⟩ rv = W3 at *
      have HZ3 := hid HG2.out.size
      have e1 := HS.out.1.cell 0
      have e2 := HS.out.2.1.cell 0
      simp at e1 e2
      go_wp2
      go_region_held3 (fun w' => w'.cell? ⟨b, 0, none⟩ = some (.int .i64 (P : Int)) ∧ w'.cell? ⟨b + 1, 0, none⟩ = some (.int .i64 (t : Int))) (first | exact ⟨e1, e2⟩ | exact ⟨f1, f2⟩)
        (first
          | (go_at_call 29; refine (cT _).mono ?_; rintro e w' ⟨rfl, hw⟩; subst w')
          | (go_at_call 41; refine (cS.out _ (by first | exact HO3.out | exact HO3.out.drewN _)).mono ?_; rintro e w4 ⟨⟨po, cp, rfl, hcp, hrow⟩, hB4⟩; have HB4 : Hid (Below W3.heap.size W3 w4) := (by first | exact (Below.refl _ W3).drew.trans hB4 | exact hB4 | exact (below_drewN (Below.refl _ W3) _).trans hB4); have HS4 := hid (HS.out.below HB4.out HS.out.lt); have f1 := HS4.out.1.cell 0; have f2 := HS4.out.2.1.cell 0; simp at f1 f2; clear hB4))
      all_goals
        clear HO3 e1 e2 f1 f2
        have HG4 : Hid (w.grownBy w4 (some (b + 2))) := g_trans HG2.out (g_below HB4.out)
        have HZ4 := hid HG4.out.size
        clear HB4 HS HG2 HZ3
        go_wp2_with (at_make; refine wpList_make_full _ rfl _ _ 22 rfl w.heap.size 2 i0 (.int .i64 0) 1 Try.underlying22 hi hz0 hz1 .i64 .i64 (V : Int) (V : Int) V rfl rfl rfl rfl (by rw [hz2]; omega) (by unfold maxLen; omega) HZ4.out ?_; intro w5 hown5 hgrow5; have hB5 : Hid (Below w4.heap.size w4 w5) := (Below.refl _ w4).grown hgrow5 (Nat.le_refl _) (fun j e => by cases e); have O5 := hid (own1_made hown5); clear hown5 hgrow5)
        obtain ⟨g, hg⟩ : ∃ g, g = w4.heap.size := ⟨_, rfl⟩
        have HGg := hid hg
        have O6 : Hid (Own1 w5 w.heap.size g V V (fz (shr P R t s u) 0)) := by rw [hg, fz_zero]; exact O5.out
        rw [← hg]
        clear O5 hg
        go_loopw [33] (fun i wr => ∃ k : Nat, i = .int .i64 (k : Int) ∧ k ≤ V ∧ Hid (Own1 wr w.heap.size g V V (fz (shr P R t s u) k)) ∧ Hid (Below w4.heap.size w4 wr)) (fun i wr => ((V : Int) - intOf i).toNat)
        case atStart => exact ⟨0, rfl, by omega, O6, hB5⟩
        case round =>
          obtain ⟨k, rfl, hk, hO, hB⟩ := hrel
          by_cases hgo : k < V
          · have hgo' : (k : Int) < (V : Int) := by omega
            rcases po with _ | pd
            · have := hrow.out.1 rfl
              have h2 := HSL.out
              rw [this] at h2
              simp at h2
              omega
            · have hp := (prow_blk hrow.out hB.out).2 pd rfl k (by rw [HSL.out]; exact hgo)
              obtain ⟨q1, q2⟩ := hp
              rw [add_two] at q2
              have hv : Hid (((shl P s (tk R u t) V).getD k (0, 0)).2 = shr P R t s u k) := HSH.out k hgo
              have HOx : Hid (∀ o, Own1 (wr.alloc o) w.heap.size g V V (fz (shr P R t s u) k)) := fun o => hO.out.below (alloc_b wr o)
              have HBx : Hid (∀ o, Below w4.heap.size w4 (wr.alloc o)) := fun o => al hB.out o
              generalize ((shl P s (tk R u t) V).getD k (0, 0)).1 = x at *
              generalize ((shl P s (tk R u t) V).getD k (0, 0)).2 = y at *
              have x1 := (HOx.out (.cells #[.int .i64 x, .int .i64 y] 30)).cell hgo
              have x2 := (HOx.out (.cells #[.int .i64 x, .int .i64 y] 30)).frozen k
              have hO7 : Hid (Own1 ((wr.alloc (.cells #[.int .i64 x, .int .i64 y] 30)).setCell ⟨g, k, none⟩ (.int .i64 y)) w.heap.size g V V (fz (shr P R t s u) (k + 1))) := ((HOx.out _).set k _).congr (by rw [hv.out]; exact fz_next _ k)
              have hB7 : Hid (Below w4.heap.size w4 ((wr.alloc (.cells #[.int .i64 x, .int .i64 y] 30)).setCell ⟨g, k, none⟩ (.int .i64 y))) := below_set (HBx.out _) (by rw [HGg.out]; exact Nat.le_refl _) k _
              generalize fz (shr P R t s u) k k = u1 at *
              clear hv HOx HBx
              go_wp2
              go_roundw
              case rel => exact ⟨k + 1, by simp, by omega, hO7, hB7⟩
              case measure => exact measK hgo
          · have hgo' : ¬ (k : Int) < (V : Int) := by omega
            obtain rfl : k = V := by omega
            have hO8 : Hid (Own1 wr w.heap.size g k k (shr P R t s u)) := by
              have h := hO.out
              unfold Own1 at h ⊢
              rwa [fz_done] at h
            go_wp2
            go_ret
            exact ⟨⟨g, rfl, hO8.out⟩, HS4.out.below hB.out HS4.out.lt, g_trans HG4.out (g_below hB.out)⟩

end Go.Proofs.Ytpnmepobdnclkaa.Calls186
