/-
  All that is mixed when a text's sum is made, as a row of structs; where two rows are apart for the last time.
-/
import Derived.Test.YtpmdfiebcaifmaaCalls128
import Derived.Deep.RegionHeld3
import Derived.Deep.RegionWith
namespace Go.Proofs.Ytpmdfiebcaifmaa.Calls129
set_option linter.unusedVariables false
open Go.ChangeShapes Go.WideShapes Go.ChangeAt Go.RowKit Go.Deep Go.Proofs.Ytpmdfiebcaifmaa.Base Go.Proofs.Ytpmdfiebcaifmaa.Base2 Go.Proofs.Ytpmdfiebcaifmaa.Base7 Go.Proofs.Ytpmdfiebcaifmaa.Base8 Go.Proofs.Ytpmdfiebcaifmaa.Num55 Go.Proofs.Ytpmdfiebcaifmaa.Calls125 Go.Proofs.Ytpmdfiebcaifmaa.Calls126 Go.Proofs.Ytpmdfiebcaifmaa.Calls127 Go.Proofs.Ytpmdfiebcaifmaa.Calls128

/-! ### rows of mixes -/

def flatM : List (Nat × Nat) → List Value
  | [] => []
  | x :: xs => .int .u32 (x.1 : Int) :: .int .u8 (x.2 : Int) :: flatM xs

theorem flatM_length (l : List (Nat × Nat)) : (flatM l).length = l.length * 2 := by
  induction l with
  | nil => rfl
  | cons x xs ih => simp [flatM, ih]; omega

theorem flatM_append (l m : List (Nat × Nat)) : flatM (l ++ m) = flatM l ++ flatM m := by
  induction l with
  | nil => rfl
  | cons x xs ih => simp [flatM, ih]

def mg (l : List (Nat × Nat)) (j : Nat) : Nat × Nat := l.getD j (0, 0)

theorem flatM_get (l : List (Nat × Nat)) : ∀ j, j < l.length → (flatM l)[j * 2]? = some (.int .u32 ((mg l j).1 : Int)) ∧ (flatM l)[j * 2 + 1]? = some (.int .u8 ((mg l j).2 : Int)) := by
  induction l with
  | nil => intro j h; simp at h
  | cons x xs ih =>
    intro j h
    cases j with
    | zero => simp [flatM, mg]
    | succ j =>
      have := ih j (by simpa using h)
      rw [show (j + 1) * 2 = j * 2 + 2 by omega]
      simpa [flatM, mg] using this

theorem flatM_one (l : List (Nat × Nat)) : ∀ u ∈ flatM l, u.oneCell' = true := by
  induction l with
  | nil => intro u h; cases h
  | cons x xs ih =>
    intro u h
    rcases List.mem_cons.1 h with rfl | h
    · rfl
    · rcases List.mem_cons.1 h with rfl | h
      · rfl
      · exact ih u h

/-- A slice of mixes reads as a list. -/
def MRow (W : World) (ao : Option Addr) (l : List (Nat × Nat)) : Prop := VRow W ao (flatM l)

theorem mrow_at {W : World} {ad : Addr} {l : List (Nat × Nat)} (h : MRow W (some ad) l) {j : Nat} (hj : j < l.length) :
    W.cell? (ad.add (j * 2)) = some (.int .u32 ((mg l j).1 : Int)) ∧ W.cell? { block := (ad.add (j * 2)).block, off := (ad.add (j * 2)).off + 1 } = some (.int .u8 ((mg l j).2 : Int)) := by
  obtain ⟨g1, g2⟩ := flatM_get l j hj
  have c1 := h.2 ad rfl _ _ g1
  have c2 := h.2 ad rfl _ _ g2
  rw [add_two] at c2
  exact ⟨c1, c2⟩

theorem mrow_none {W : World} {l : List (Nat × Nat)} (h : MRow W none l) {j : Nat} (hj : j < l.length) : False :=
  vrow_none h (j := j) (by rw [flatM_length]; omega)

theorem mrow_below {W W' : World} {ao : Option Addr} {l : List (Nat × Nat)} (h : MRow W ao l) (hb : Below W.heap.size W W') : MRow W' ao l := vrow_below h hb (Nat.le_refl _)

theorem infoM : (Try.prog.info? 33).map (fun i => (i.zero, i.size, i.bytes)) = some (some (.agg #[.int .u32 0, .int .u8 0]), 2, 8) := by kernel_rfl

theorem infoM_ex : ∃ i, Try.prog.info? 33 = some i ∧ i.zero = some (.agg #[.int .u32 0, .int .u8 0]) ∧ i.size = 2 ∧ i.bytes = 8 := by
  have h := infoM
  cases e : Try.prog.info? 33 with
  | none => rw [e] at h; simp at h
  | some i => rw [e] at h; simp at h; exact ⟨i, rfl, h.1, h.2.1, h.2.2⟩

/-- What a call's own row of any form reads as. -/
theorem m_owns {W : World} {base : Nat} {e : TypeId} {v : Value} {n : Nat} {l : List (Nat × Nat)} (h : W.ownsRow base e 2 v n (flatM l)) :
    ∃ ao cap, v = .slice ao l.length cap ∧ l.length ≤ cap ∧ MRow W ao l := by
  have hn : n = l.length := by have := h.1; rw [flatM_length] at this; omega
  subst hn
  rcases h.2 with ⟨rfl, hn⟩ | ⟨g, cap, cur, rfl, hb, hg, hnc, hcm, hcs, htake⟩
  · have e : l = [] := List.length_eq_zero_iff.1 (by omega)
    subst e
    exact ⟨none, 0, rfl, by simp, vrow_nil _ _⟩
  · refine ⟨some ⟨g, 0, none⟩, cap, rfl, hnc, fun h => (by cases h), fun ad h' j u hu => ?_⟩
    obtain rfl : (⟨g, 0, none⟩ : Addr) = ad := by simpa using h'
    have hj : j < (flatM l).length := (List.getElem?_eq_some_iff.1 hu).1
    rw [flatM_length] at hj
    have c1 := World.ownsRow.cellAt ⟨by rw [flatM_length], .inr ⟨g, cap, cur, rfl, hb, hg, hnc, hcm, hcs, htake⟩⟩ j (by omega)
    rw [v_zero, c1]
    exact hu

theorem pair_cells {W : World} {t : TypeId} {a b : Value} : ∀ j u, ([a, b] : List Value)[j]? = some u → (W.alloc (.cells #[a, b] t)).cell? ((⟨W.heap.size, 0, none⟩ : Addr).add j) = some u := by
  intro j u hj
  match j, hj with
  | 0, hj => simp at hj; subst hj; simp [Addr.add]
  | 1, hj => simp at hj; subst hj; simp [Addr.add]

/-! ### all that is mixed -/

def ms (P : List Nat) : Nat → List (Nat × Nat)
  | 0 => []
  | k + 1 => ms P k ++ [(run 0 (P.take k), yb P k)]

theorem ms_length (P : List Nat) : ∀ k, (ms P k).length = k
  | 0 => rfl
  | k + 1 => by show (ms P k ++ [_]).length = _; simp [ms_length P k]

theorem ms_get (P : List Nat) : ∀ k j, j < k → mg (ms P k) j = (run 0 (P.take j), yb P j)
  | k + 1, j, h => by
    show (ms P k ++ [_]).getD j (0, 0) = _
    by_cases e : j = k
    · subst e
      simp [List.getD, ms_length]
    · have := ms_get P k j (by omega)
      rw [← this]
      simp [mg, List.getD, List.getElem?_append_left, ms_length, show j < k by omega]

theorem flatM_ms (P : List Nat) (k : Nat) : flatM (ms P (k + 1)) = flatM (ms P k) ++ [.int .u32 ((run 0 (P.take k) : Nat) : Int), .int .u8 ((yb P k : Nat) : Int)] := flatM_append _ _

/-- The call has returned a slice that reads as the mixes l. -/
def RetM (l : List (Nat × Nat)) (e : Ending) (w' : World) : Prop := ∃ bo cb, e = .returned (.slice bo l.length cb) ∧ l.length ≤ cb ∧ MRow w' bo l

set_option maxRecDepth 100000 in
set_option maxHeartbeats 1000000 in
theorem mixes_any (o : Option Addr) (c : Nat) (l : List Nat) (hl : l.length ≤ 4096) (hb : Byt l) (w : World) (r : YRow w o l) :
    Calls Try.prog 21 #[.slice o l.length c] w fun e w' => RetM (ms (pad l) (pad l).length) e w' ∧ Below w.heap.size w w' := by
  obtain ⟨i0, hi, hz0, hz1, hz2⟩ := infoM_ex
  have cC := counted_any o c l hl w r
  have hpl := pad_length l
  have hpb := hid (pad_byt hb)
  obtain ⟨P, hP⟩ : ∃ P, P = pad l := ⟨_, rfl⟩
  rw [← hP] at cC hpl hpb ⊢
  obtain ⟨N, hN⟩ : ∃ N, N = P.length := ⟨_, rfl⟩
  have HN := hid hN
  unfold RetY at cC
  rw [← hN] at hpl cC ⊢
  obtain ⟨n, hn⟩ : ∃ n, n = l.length := ⟨_, rfl⟩
  rw [← hn] at cC hl hpl ⊢
  have hN2 : N ≤ 4100 := by omega
  clear hn hN hpl hP r hb
  go_enter Try.func21, Try.ntmps21
  go_wp2_with (go_at_call 17; refine cC.mono ?_; rintro e W ⟨⟨bo, cb, rfl, hcb, hr⟩, hB⟩; have HR := hid hr; have HB := hid hB; clear hr hB)
  clear cC
  go_loopw [3, 4, 10] (fun v h i wr => ∃ k q : Nat, h = .int .u32 (q : Int) ∧ i = .int .i64 (k : Int) ∧ k ≤ N ∧ q < 65536 ∧ Hid (q = run 0 (P.take k)) ∧ Hid (wr.ownsRow W.heap.size 33 2 v k (flatM (ms P k))) ∧ Hid (Below W.heap.size W wr)) (fun v h i wr => ((N : Int) - intOf i).toNat)
  case atStart => exact ⟨0, 0, rfl, rfl, by omega, by omega, rfl, World.ownsRow_nil _ _ _ _, Below.refl _ _⟩
  case round =>
    obtain ⟨k, q, rfl, rfl, hk, hq, HQ, HO, HBW⟩ := hrel
    by_cases hgo : k < N
    · have hgo' : (k : Int) < (N : Int) := by omega
      rcases bo with _ | ad
      · exact (yrow_none HR.out (j := k) (by rw [← HN.out]; exact hgo)).elim
      have c1 := yrow_cell (yb' HR.out HBW.out) (j := k) (by rw [← HN.out]; exact hgo)
      have hbk := hpb.out _ (yb_mem (l := P) (j := k) (by rw [← HN.out]; exact hgo))
      have hst := hid (run_take (P := P) (k := k) (by rw [← HN.out]; exact hgo))
      have cS := hid (fun w' => Step_any q (yb P k) (by omega) hbk w')
      have hsl := stp_lt q (yb P k)
      have HQ2 : Hid (stp q (yb P k) = run 0 (P.take (k + 1))) := by show _ = _; rw [hst.out, HQ.out]
      have hsn : Hid (flatM (ms P (k + 1)) = flatM (ms P k) ++ [.int .u32 (q : Int), .int .u8 ((yb P k : Nat) : Int)]) := by
        show _ = _
        rw [flatM_ms, HQ.out]
      have hBs := HBW.out.size
      clear HQ hst
      generalize stp q (yb P k) = s at *
      generalize yb P k = b at *
      go_wp2_with (first
        | (go_at_call 9; refine (cS.out _).mono ?_; rintro e w' ⟨rfl, hw⟩; subst w')
        | (at_builtin; refine wpList_append_own _ rfl _ _ 45 rfl W.heap.size 33 i0 (.agg #[.int .u32 0, .int .u8 0]) 2 8 Try.underlying45 hi hz0 hz1 hz2 rfl (by decide) _ _ _ rfl (HO.out.alloc _) ⟨wr.heap.size, 0, none⟩ 1 1 [.int .u32 (q : Int), .int .u8 (b : Int)] rfl rfl pair_cells (by simp [Value.oneCell']) (by unfold maxLen; omega) (by omega) (by simp; omega) ?_; intro v' w3 hown' hgrow _; have HO3 := hid hown'; have HB3 := hid (v_snoc HBW.out (Nat.le_refl _) HO.out hgrow); clear hown' hgrow))
      go_roundw
      case rel => exact ⟨k + 1, s, rfl, by simp, by omega, by omega, HQ2, by have := HO3.out; rw [← hsn.out] at this; exact this, HB3⟩
      case measure => exact measK hgo
    · obtain rfl : k = N := by omega
      have hfin := hid (m_owns HO.out)
      rw [ms_length] at hfin
      have hgo' : ¬ (k : Int) < (k : Int) := by omega
      go_wp2
      go_ret
      obtain ⟨ao, cap, rfl, hc, hR⟩ := hfin.out
      exact ⟨⟨ao, cap, by rw [ms_length]; rfl, by rw [ms_length]; exact hc, hR⟩, below_trans HB.out HBW.out⟩

/-! ### the last ones that are apart -/

/-- Two structs' cells held against each other. -/
theorem ne_mix {a b : Nat × Nat} (h : a ≠ b) : a.1 ≠ b.1 ∨ (a.1 = b.1 ∧ a.2 ≠ b.2) := by
  by_cases e : a.1 = b.1
  · exact .inr ⟨e, fun e2 => h (Prod.ext e e2)⟩
  · exact .inl e

set_option maxRecDepth 100000 in
set_option maxHeartbeats 2000000 in
theorem lastApart_any (ao bo : Option Addr) (ca cb : Nat) (A B : List (Nat × Nat)) (k x y x' y' : Nat) (hA : A.length ≤ 8192) (hB : B.length ≤ 8192) (hkA : k < A.length) (hkB : k < B.length)
    (hxa : mg A (A.length - 1 - k) = (x, y)) (hxb : mg B (B.length - 1 - k) = (x', y')) (hne : (x, y) ≠ (x', y')) (heq : ∀ j, j < k → mg A (A.length - 1 - j) = mg B (B.length - 1 - j)) (w : World) (ra : MRow w ao A) (rb : MRow w bo B) :
    Calls Try.prog 20 #[.slice ao A.length ca, .slice bo B.length cb] w fun e w' =>
      e = .returned (.tuple #[.agg #[.int .u32 (x : Int), .int .u8 (y : Int)], .agg #[.int .u32 (x' : Int), .int .u8 (y' : Int)]]) ∧ Below w.heap.size w w' := by
  rcases ao with _ | ad
  · exact (mrow_none ra hkA).elim
  rcases bo with _ | bd
  · exact (mrow_none rb hkB).elim
  have RA := hid ra
  have RB := hid rb
  have HXA := hid hxa
  have HXB := hid hxb
  have HEQ := hid heq
  have HNE := hid hne
  obtain ⟨n, hn⟩ : ∃ n, n = A.length := ⟨_, rfl⟩
  obtain ⟨m, hm⟩ : ∃ m, m = B.length := ⟨_, rfl⟩
  have HN := hid hn
  have HM := hid hm
  rw [← hn] at hA hkA HXA HEQ ⊢
  rw [← hm] at hB hkB HXB HEQ ⊢
  clear hn hm ra rb hne heq hxa hxb
  have hB2 := hid ((((Below.refl _ w).alloc (Nat.le_refl _) (.cells #[.int .u32 0, .int .u8 0] 33)).alloc (by simp) (.cells #[.int .u32 0, .int .u8 0] 33)))
  go_enter Try.func20, Try.ntmps20
  go_wp2
  obtain ⟨W2, hW2⟩ : ∃ W2, (w.alloc (.cells #[.int .u32 0, .int .u8 0] 33)).alloc (.cells #[.int .u32 0, .int .u8 0] 33) = W2 := ⟨_, rfl⟩
  have HX0 : Hid (BoxC W2 w.heap.size 33 #[.int .u32 0, .int .u8 0]) := by
    rw [← hW2]; exact (BoxC.new w 33 #[.int .u32 0, .int .u8 0]).alloc _
  have HX1 : Hid (BoxC W2 (w.heap.size + 1) 33 #[.int .u32 0, .int .u8 0]) := by
    rw [← hW2]
    have := BoxC.new (w.alloc (.cells #[.int .u32 0, .int .u8 0] 33)) 33 #[.int .u32 0, .int .u8 0]
    rw [World.size_alloc] at this
    exact this
  rw [hW2] at hB2 ⊢
  clear hW2
  go_loopw [6] (fun v wr => ∃ t : Nat, v = .int .i64 (t : Int) ∧ 1 ≤ t ∧ t ≤ k + 1 ∧ Hid (Below W2.heap.size W2 wr)) (fun v wr => (((k + 1 : Nat) : Int) - intOf v).toNat)
  case atStart => exact ⟨1, rfl, by omega, by omega, Below.refl _ _⟩
  case round =>
    obtain ⟨t, rfl, ht1, ht2, HB⟩ := hrel
    obtain ⟨i, hi⟩ : ∃ i : Nat, (n : Int) - (t : Int) = (i : Int) := ⟨n - t, by omega⟩
    obtain ⟨q, hq⟩ : ∃ q : Nat, (m : Int) - (t : Int) = (q : Int) := ⟨m - t, by omega⟩
    have hBw := hid (below_trans hB2.out HB.out)
    obtain ⟨c0, c1⟩ := mrow_at (mrow_below RA.out hBw.out) (j := i) (by rw [← HN.out]; omega)
    obtain ⟨d0, d1⟩ := mrow_at (mrow_below RB.out hBw.out) (j := q) (by rw [← HM.out]; omega)
    have hin : i < n := by omega
    have hqm : q < m := by omega
    by_cases hgo : t < k + 1
    · have e : mg A i = mg B q := by
        have := HEQ.out (t - 1) (by omega)
        rwa [show n - 1 - (t - 1) = i by omega, show m - 1 - (t - 1) = q by omega] at this
      rw [← e] at d0 d1
      generalize mg A i = p at *
      obtain ⟨u, v⟩ := p
      simp only at c0 c1 d0 d1
      go_wp2_with go_region
      go_roundw
      case rel => exact ⟨t + 1, by simp, by omega, by omega, HB.out.drew⟩
      case measure => simp only [intOf]; omega
    · have ht : t = k + 1 := by omega
      have ea := HXA.out
      have eb := HXB.out
      rw [show n - 1 - k = i by omega] at ea
      rw [show m - 1 - k = q by omega] at eb
      rw [ea] at c0 c1
      rw [eb] at d0 d1
      simp only at c0 c1 d0 d1
      have hw1 : IntKind.i64.wrap ((n : Int) - (t : Int)) = (i : Int) := by rw [hi]; exact wrap_in _ (by omega) (by omega)
      have hw2 : IntKind.i64.wrap ((m : Int) - (t : Int)) = (q : Int) := by rw [hq]; exact wrap_in _ (by omega) (by omega)
      have hp2 := HNE.out
      have hBw2 := hBw.out
      have cfact := hid (fun (W3 : World) (h : Below w.heap.size w W3) => mrow_at (mrow_below RA.out h) (j := i) (by rw [← HN.out]; omega))
      have dfact := hid (fun (W3 : World) (h : Below w.heap.size w W3) => mrow_at (mrow_below RB.out h) (j := q) (by rw [← HM.out]; omega))
      rw [ea] at cfact
      rw [eb] at dfact
      clear HEQ HXA HXB ea eb ht hgo HNE
      have hdb : (bd.add (q * 2)).block < w.heap.size := cell_lt (dfact.out w (Below.refl _ _)).1
      have hwsz : w.heap.size + 1 < W2.heap.size := HX1.out.lt
      rcases Classical.em (x = x') with e0 | e0
      · subst e0
        have hy : ¬ y = y' := fun e => hp2 (by rw [e])
        have e1 : ((y : Int) == (y' : Int)) = false := by simp; omega
        have e2 : ¬ (y : Int) = (y' : Int) := by omega
        have e3 : (y == y') = false := by simpa using hy
        clear hp2
        go_wp2
        go_region
        obtain ⟨W3, hW3⟩ : ∃ W3, wr.drew = W3 := ⟨_, rfl⟩
        have HB3 := hid HB.out.drew
        rw [hW3] at HB3 ⊢
        have hBw3 := hid (below_trans hB2.out HB3.out)
        clear hW3 c0 c1 d0 d1 HB hBw hBw2
        obtain ⟨c0, c1⟩ := cfact.out W3 hBw3.out
        obtain ⟨d0, d1⟩ := dfact.out W3 hBw3.out
        have hx0 := HX0.out.below HB3.out HX0.out.lt
        have hx1 := HX1.out.below HB3.out HX1.out.lt
        have b00 := hx0.cell 0
        have b01 := hx0.cell 1
        have f00 := hx0.frozen 0
        have f01 := hx0.frozen 1
        have b10 := hx1.cell 0
        have b11 := hx1.cell 1
        have f10 := hx1.frozen 0
        have f11 := hx1.frozen 1
        simp at b00 b01 b10 b11
        have hS := hid ((hBw3.out.setCell (p := ⟨w.heap.size, 0, none⟩) (by simp) (.int .u32 (x : Int))).setCell (p := ⟨w.heap.size, 1, none⟩) (by simp) (.int .u8 (y : Int)))
        obtain ⟨k0, k1⟩ := dfact.out _ hS.out
        have hx2 := (hx1.other (B' := w.heap.size) (by omega) 0 (.int .u32 (x : Int))).other (B' := w.heap.size) (by omega) 1 (.int .u8 (y : Int))
        have b12 := hx2.cell 0
        have b13 := hx2.cell 1
        have f12 := hx2.frozen 0
        have f13 := hx2.frozen 1
        simp at b12 b13 k0 k1
        have HX2 := hid hx2
        have g0 := ((hx0.set2 (.int .u32 (x : Int)) (.int .u8 (y : Int))).other (B' := w.heap.size + 1) (by omega) 0 (.int .u32 (x : Int))).other (B' := w.heap.size + 1) (by omega) 1 (.int .u8 (y' : Int))
        have g1 := hx2.set2 (.int .u32 (x : Int)) (.int .u8 (y' : Int))
        have r00 := g0.cell 0
        have r01 := g0.cell 1
        have r10 := g1.cell 0
        have r11 := g1.cell 1
        simp at r00 r01 r10 r11
        have R00 := hid r00
        have R01 := hid r01
        have R10 := hid r10
        have R11 := hid r11
        have hF := hid (((hS.out.setCell (p := ⟨w.heap.size + 1, 0, none⟩) (by simp) (.int .u32 (x : Int))).setCell (p := ⟨w.heap.size + 1, 1, none⟩) (by simp) (.int .u8 (y' : Int))).drew)
        clear r00 r01 r10 r11 g0 g1
        clear hx0 hx1 hx2
        go_wp2
        go_region
        go_wp2
        have r00 := R00.out
        have r01 := R01.out
        have r10 := R10.out
        have r11 := R11.out
        exact bodyPost_ret (v := .tuple #[.agg #[.int .u32 (x : Int), .int .u8 (y : Int)], .agg #[.int .u32 (x : Int), .int .u8 (y' : Int)]]) (by simp [results, Try.results20, go_sem, r00, r01, r10, r11]) rfl ⟨rfl, hF.out⟩
      · have e1 : ((x : Int) == (x' : Int)) = false := by simp; omega
        have e2 : ¬ (x : Int) = (x' : Int) := by omega
        have e3 : (x == x') = false := by simpa using e0
        clear hp2
        go_wp2
        go_region
        obtain ⟨W3, hW3⟩ : ∃ W3, wr.drew = W3 := ⟨_, rfl⟩
        have HB3 := hid HB.out.drew
        rw [hW3] at HB3 ⊢
        have hBw3 := hid (below_trans hB2.out HB3.out)
        clear hW3 c0 c1 d0 d1 HB hBw hBw2
        obtain ⟨c0, c1⟩ := cfact.out W3 hBw3.out
        obtain ⟨d0, d1⟩ := dfact.out W3 hBw3.out
        have hx0 := HX0.out.below HB3.out HX0.out.lt
        have hx1 := HX1.out.below HB3.out HX1.out.lt
        have b00 := hx0.cell 0
        have b01 := hx0.cell 1
        have f00 := hx0.frozen 0
        have f01 := hx0.frozen 1
        have b10 := hx1.cell 0
        have b11 := hx1.cell 1
        have f10 := hx1.frozen 0
        have f11 := hx1.frozen 1
        simp at b00 b01 b10 b11
        have hS := hid ((hBw3.out.setCell (p := ⟨w.heap.size, 0, none⟩) (by simp) (.int .u32 (x : Int))).setCell (p := ⟨w.heap.size, 1, none⟩) (by simp) (.int .u8 (y : Int)))
        obtain ⟨k0, k1⟩ := dfact.out _ hS.out
        have hx2 := (hx1.other (B' := w.heap.size) (by omega) 0 (.int .u32 (x : Int))).other (B' := w.heap.size) (by omega) 1 (.int .u8 (y : Int))
        have b12 := hx2.cell 0
        have b13 := hx2.cell 1
        have f12 := hx2.frozen 0
        have f13 := hx2.frozen 1
        simp at b12 b13 k0 k1
        have HX2 := hid hx2
        have g0 := ((hx0.set2 (.int .u32 (x : Int)) (.int .u8 (y : Int))).other (B' := w.heap.size + 1) (by omega) 0 (.int .u32 (x' : Int))).other (B' := w.heap.size + 1) (by omega) 1 (.int .u8 (y' : Int))
        have g1 := hx2.set2 (.int .u32 (x' : Int)) (.int .u8 (y' : Int))
        have r00 := g0.cell 0
        have r01 := g0.cell 1
        have r10 := g1.cell 0
        have r11 := g1.cell 1
        simp at r00 r01 r10 r11
        have R00 := hid r00
        have R01 := hid r01
        have R10 := hid r10
        have R11 := hid r11
        have hF := hid (((hS.out.setCell (p := ⟨w.heap.size + 1, 0, none⟩) (by simp) (.int .u32 (x' : Int))).setCell (p := ⟨w.heap.size + 1, 1, none⟩) (by simp) (.int .u8 (y' : Int))).drew)
        clear r00 r01 r10 r11 g0 g1
        clear hx0 hx1 hx2
        go_wp2
        go_region
        go_wp2
        have r00 := R00.out
        have r01 := R01.out
        have r10 := R10.out
        have r11 := R11.out
        exact bodyPost_ret (v := .tuple #[.agg #[.int .u32 (x : Int), .int .u8 (y : Int)], .agg #[.int .u32 (x' : Int), .int .u8 (y' : Int)]]) (by simp [results, Try.results20, go_sem, r00, r01, r10, r11]) rfl ⟨rfl, hF.out⟩

end Go.Proofs.Ytpmdfiebcaifmaa.Calls129
