/-
  What is mixed so many places from behind, and where two texts clash: the document's.
-/
import Derived.Test.YtpmdfiebcaifmaaCalls130
namespace Go.Proofs.Ytpmdfiebcaifmaa.Calls131
set_option linter.unusedVariables false
open Go.ChangeShapes Go.WideShapes Go.ChangeAt Go.RowKit Go.Deep Go.Proofs.Ytpmdfiebcaifmaa.Base Go.Proofs.Ytpmdfiebcaifmaa.Base2 Go.Proofs.Ytpmdfiebcaifmaa.Base7 Go.Proofs.Ytpmdfiebcaifmaa.Base8 Go.Proofs.Ytpmdfiebcaifmaa.Num55 Go.Proofs.Ytpmdfiebcaifmaa.Calls125 Go.Proofs.Ytpmdfiebcaifmaa.Calls126 Go.Proofs.Ytpmdfiebcaifmaa.Calls127 Go.Proofs.Ytpmdfiebcaifmaa.Calls128 Go.Proofs.Ytpmdfiebcaifmaa.Calls129 Go.Proofs.Ytpmdfiebcaifmaa.Calls130

set_option maxRecDepth 100000 in
set_option maxHeartbeats 1000000 in
theorem mixAt_any (o : Option Addr) (c : Nat) (l : List Nat) (k x y : Nat) (hl : l.length ≤ 4096) (hb : Byt l) (hk : k < (pad l).length) (hxy : mx (pad l) k = (x, y)) (w : World) (r : YRow w o l) :
    Calls Try.prog 22 #[.slice o l.length c, .int .i64 (k : Int)] w fun e w' => e = .returned (.agg #[.int .u32 (x : Int), .int .u8 (y : Int)]) ∧ Below w.heap.size w w' := by
  have hB : Hid (Below w.heap.size w (w.alloc (.cells #[.int .u32 0, .int .u8 0] 33))) := (Below.refl _ w).alloc (Nat.le_refl _) _
  have hX : Hid (BoxC (w.alloc (.cells #[.int .u32 0, .int .u8 0] 33)) w.heap.size 33 #[.int .u32 0, .int .u8 0]) := BoxC.new w _ _
  have cC := hid (fun (w' : World) (h : Below w.heap.size w w') => refPadded_any o c l hl w' (yb' r h))
  have hpl := pad_length l
  have hpb := hid (pad_byt hb)
  obtain ⟨P, hP⟩ : ∃ P, P = pad l := ⟨_, rfl⟩
  rw [← hP] at cC hpl hpb hk hxy
  obtain ⟨N, hN⟩ : ∃ N, N = P.length := ⟨_, rfl⟩
  have HN := hid hN
  have hx : Hid (x = run 0 (P.take (N - 1 - k))) := by show _ = _; rw [hN]; exact (congrArg Prod.fst hxy).symm
  have hy : Hid (y = yb P (N - 1 - k)) := by show _ = _; rw [hN]; exact (congrArg Prod.snd hxy).symm
  unfold RetY at cC
  rw [← hN] at hpl cC hk
  obtain ⟨n, hn⟩ : ∃ n, n = l.length := ⟨_, rfl⟩
  rw [← hn] at cC hl hpl ⊢
  have hN2 : N ≤ 4100 := by omega
  obtain ⟨t, ht⟩ : ∃ t : Nat, t = N - 1 - k := ⟨_, rfl⟩
  rw [← ht] at hx hy
  have htN : t < N := by omega
  have hti : (N : Int) - 1 - (k : Int) = (t : Int) := by omega
  have hkN : (k : Int) < (N : Int) := by omega
  clear hn hN hpl hP r hb hxy ht
  go_enter Try.func22, Try.ntmps22
  go_wp2_with (go_at_call 18; refine (cC.out _ hB.out).mono ?_; rintro e W ⟨⟨bo, cb, rfl, hcb, hr⟩, hB1⟩; have HR := hid hr; have HB := hid (below_trans hB.out hB1); have HX := hid (hX.out.below hB1 hX.out.lt); clear hr hB1)
  clear cC
  go_loop [6, 7] (fun h i => ∃ k q : Nat, h = .int .i64 (q : Int) ∧ i = .int .i64 (k : Int) ∧ k ≤ t ∧ q < 65536 ∧ Hid (q = run 0 (P.take k))) (fun h i => ((t : Int) - intOf i).toNat)
  case atStart => exact ⟨0, 0, rfl, rfl, by omega, by omega, rfl⟩
  case round =>
    obtain ⟨j, q, rfl, rfl, hj, hq, HQ⟩ := hrel
    rcases bo with _ | ad
    · exact (yrow_none HR.out (j := t) (by rw [← HN.out]; exact htN)).elim
    by_cases hgo : j < t
    · have hgo' : (j : Int) < (t : Int) := by omega
      have hjN : j < N := by omega
      have c1 := yrow_cell HR.out (j := j) (by rw [← HN.out]; omega)
      have hbk := hpb.out _ (yb_mem (l := P) (j := j) (by rw [← HN.out]; omega))
      have hst := hid (run_take (P := P) (k := j) (by rw [← HN.out]; omega))
      have cS := refStep_any q (yb P j) (by omega) hbk W
      have hsl := stp_lt q (yb P j)
      have HQ2 : Hid (stp q (yb P j) = run 0 (P.take (j + 1))) := by show _ = _; rw [hst.out, HQ.out]
      clear HQ hst
      generalize stp q (yb P j) = s at *
      generalize yb P j = b at *
      go_wp2_with (go_at_call 10; refine cS.mono ?_; rintro e w' ⟨rfl, hw⟩; subst w')
      go_round
      case rel => exact ⟨j + 1, s, rfl, by simp, by omega, by omega, HQ2⟩
      case measure => exact measK hgo
    · obtain rfl : j = t := by omega
      have hgo' : ¬ (j : Int) < (j : Int) := by omega
      have hq2 : Hid (q = x) := by show _ = _; rw [HQ.out, hx.out]
      obtain rfl := hq2.out
      have c1 := yrow_cell HR.out (j := j) (by rw [← HN.out]; omega)
      rw [← hy.out] at c1
      have hw : (q : Int) % 4294967296 = (q : Int) := by omega
      have c00 := HX.out.cell 0
      have c01 := HX.out.cell 1
      have f00 := HX.out.frozen 0
      have f01 := HX.out.frozen 1
      have z := HX.out.set2 (.int .u32 (q : Int)) (.int .u8 (y : Int))
      have z0 := z.cell 0
      have z1 := z.cell 1
      simp at c00 c01 z0 z1
      have Z0 := hid z0
      have Z1 := hid z1
      have hF := hid ((HB.out.setCell (p := ⟨w.heap.size, 0, none⟩) (by simp) (.int .u32 (q : Int))).setCell (p := ⟨w.heap.size, 1, none⟩) (by simp) (.int .u8 (y : Int)))
      clear HQ hq2 z z0 z1 hx hy
      go_wp2
      have z0 := Z0.out
      have z1 := Z1.out
      exact bodyPost_ret (v := .agg #[.int .u32 (q : Int), .int .u8 (y : Int)]) (by simp [results, Try.results22, go_sem, z0, z1]) rfl ⟨rfl, hF.out⟩

theorem ne_parts {x y x' y' : Nat} (h : (x, y) ≠ (x', y')) : x ≠ x' ∨ (x = x' ∧ y ≠ y') := by
  by_cases e : x = x'
  · exact .inr ⟨e, fun e2 => h (by rw [e, e2])⟩
  · exact .inl e

set_option maxRecDepth 100000 in
set_option maxHeartbeats 2000000 in
theorem refHashClash_any (ao bo : Option Addr) (ca cb : Nat) (a b : List Nat) (la : a.length ≤ 4096) (lb : b.length ≤ 4096) (ha : Byt a) (hb : Byt b) (k x y x' y' : Nat) (hk : Clash (pad a) (pad b) k) (hxa : mx (pad a) k = (x, y)) (hxb : mx (pad b) k = (x', y')) (w : World) (ra : YRow w ao a) (rb : YRow w bo b) :
    Calls Try.prog 15 #[.slice ao a.length ca, .slice bo b.length cb] w fun e w' =>
      e = .returned (.tuple #[.agg #[.int .u32 (x : Int), .int .u8 (y : Int)], .agg #[.int .u32 (x' : Int), .int .u8 (y' : Int)]]) ∧ Below w.heap.size w w' := by
  have lA := pad_length a
  have lB := pad_length b
  have hkA := hk.1
  have hkB := hk.2.1
  have cA := hid (fun (w' : World) (h : Below w.heap.size w w') (j : Nat) (hj : j ≤ k) => mixAt_any ao ca a j (mx (pad a) j).1 (mx (pad a) j).2 la ha (by omega) rfl w' (yb' ra h))
  have cB := hid (fun (w' : World) (h : Below w.heap.size w w') (j : Nat) (hj : j ≤ k) => mixAt_any bo cb b j (mx (pad b) j).1 (mx (pad b) j).2 lb hb (by omega) rfl w' (yb' rb h))
  have HE := hid (fun j (hj : j < k) => hk.2.2.2 j hj)
  have hne := hk.2.2.1
  rw [hxa, hxb] at hne
  have cAk := hid (fun (w' : World) (h : Below w.heap.size w w') => cA.out w' h k (Nat.le_refl _))
  have cBk := hid (fun (w' : World) (h : Below w.heap.size w w') => cB.out w' h k (Nat.le_refl _))
  rw [hxa] at cAk
  rw [hxb] at cBk
  have HNE := hid hne
  rw [lA] at hkA
  rw [lB] at hkB
  generalize a.length = n at *
  generalize b.length = m at *
  clear ra rb ha hb hk hxa hxb lA lB hne
  have hB : Hid (Below w.heap.size w ((w.alloc (.cells #[.int .u32 0, .int .u8 0] 33)).alloc (.cells #[.int .u32 0, .int .u8 0] 33))) := zb_below w
  have hX0 : Hid (BoxC ((w.alloc (.cells #[.int .u32 0, .int .u8 0] 33)).alloc (.cells #[.int .u32 0, .int .u8 0] 33)) w.heap.size 33 #[.int .u32 0, .int .u8 0]) := zb_box0 w
  have hX1 : Hid (BoxC ((w.alloc (.cells #[.int .u32 0, .int .u8 0] 33)).alloc (.cells #[.int .u32 0, .int .u8 0] 33)) (w.heap.size + 1) 33 #[.int .u32 0, .int .u8 0]) := zb_box1 w
  go_enter Try.func15, Try.ntmps15
  go_wp2
  obtain ⟨W, hW⟩ : ∃ W, (w.alloc (.cells #[.int .u32 0, .int .u8 0] 33)).alloc (.cells #[.int .u32 0, .int .u8 0] 33) = W := ⟨_, rfl⟩
  rw [hW] at hB hX0 hX1 ⊢
  clear hW
  go_loopw [6] (fun i wr => ∃ j : Nat, i = .int .i64 (j : Int) ∧ j ≤ k ∧ Hid (Below W.heap.size W wr)) (fun i wr => ((k : Int) - intOf i).toNat)
  case atStart => exact ⟨0, rfl, by omega, Below.refl _ _⟩
  case round =>
    obtain ⟨j, rfl, hj, HW⟩ := hrel
    have h1 : (j : Int) < (n : Int) + 4 := by omega
    have h2 : (j : Int) < (m : Int) + 4 := by omega
    have HBr := hid (below_trans hB.out HW.out)
    by_cases hgo : j < k
    · have e := HE.out j hgo
      have cAj := cA.out wr HBr.out j hj
      have cBj := hid (fun w' h => cB.out w' h j hj)
      rw [← e] at cBj
      generalize (mx (pad a) j).1 = u at *
      generalize (mx (pad a) j).2 = v at *
      clear e cA cB cAk cBk
      go_wp2_with (first
        | (go_at_call 22; refine cAj.mono ?_; rintro e W1 ⟨rfl, hB1⟩; have HB1 := hid (below_trans HBr.out hB1); have HW1 := hid (HW.out.trans (hB1.mono HW.out.size)); clear hB1 cAj)
        | (go_at_call 22; refine (cBj.out _ HB1.out).mono ?_; rintro e W2 ⟨rfl, hB1⟩; have HW2 := hid (HW1.out.trans (hB1.mono HW1.out.size)); clear hB1 cBj))
      go_roundw
      case rel => exact ⟨j + 1, by simp, by omega, HW2.out⟩
      case measure => exact measK hgo
    · obtain rfl : j = k := by omega
      have cA2 := hid cAk.out
      have cB2 := hid cBk.out
      clear cA cB HE hgo
      rcases ne_parts HNE.out with e0 | ⟨e0, hy⟩
      · have e1 : ((x : Int) == (x' : Int)) = false := by simp; omega
        have e2 : ¬ (x : Int) = (x' : Int) := by omega
        have e3 : (x == x') = false := by simpa using e0
        clear HNE
        go_wp2_with (first
          | (go_at_call 22; refine (cAk.out _ HBr.out).mono ?_; rintro e W1 ⟨rfl, hB1⟩; have HB1 := hid (below_trans HBr.out hB1); have HW1 := hid (HW.out.trans (hB1.mono HW.out.size)); clear hB1 cAk)
          | (go_at_call 22; refine (cBk.out _ HB1.out).mono ?_; rintro e W2 ⟨rfl, hB1⟩; have HB2 := hid (below_trans HB1.out hB1); have HW2 := hid (HW1.out.trans (hB1.mono HW1.out.size)); clear hB1 cBk)
          | (go_at_call 22; refine (cA2.out _ HB2.out).mono ?_; rintro e W3 ⟨rfl, hB1⟩; have HB3 := hid (below_trans HB2.out hB1); have HW3 := hid (HW2.out.trans (hB1.mono HW2.out.size)); clear hB1 cA2)
          | (go_at_call 22; refine (cB2.out _ HB3.out).mono ?_; rintro e W4 ⟨rfl, hB1⟩; have HB4 := hid (below_trans HB3.out hB1); have HW4 := hid (HW3.out.trans (hB1.mono HW3.out.size)); clear hB1 cB2; have HX0 := hid (hX0.out.below HW4.out hX0.out.lt); have HX1 := hid (hX1.out.below HW4.out hX1.out.lt); have c00 := HX0.out.cell 0; have c01 := HX0.out.cell 1; have c10 := HX1.out.cell 0; have c11 := HX1.out.cell 1; have f00 := HX0.out.frozen 0; have f01 := HX0.out.frozen 1; have f10 := HX1.out.frozen 0; have f11 := HX1.out.frozen 1))
        have HZ0 := ((HX0.out.set2 (.int .u32 (x : Int)) (.int .u8 (y : Int))).other (B' := w.heap.size + 1) (by omega) 0 (.int .u32 (x' : Int))).other (B' := w.heap.size + 1) (by omega) 1 (.int .u8 (y' : Int))
        have HZ1 := ((HX1.out.other (B' := w.heap.size) (by omega) 0 (.int .u32 (x : Int))).other (B' := w.heap.size) (by omega) 1 (.int .u8 (y : Int))).set2 (.int .u32 (x' : Int)) (.int .u8 (y' : Int))
        have z00 := HZ0.cell 0
        have z01 := HZ0.cell 1
        have z10 := HZ1.cell 0
        have z11 := HZ1.cell 1
        simp at z00 z01 z10 z11
        have hF := (((HB4.out.setCell (p := ⟨w.heap.size, 0, none⟩) (by simp) (.int .u32 (x : Int))).setCell (p := ⟨w.heap.size, 1, none⟩) (by simp) (.int .u8 (y : Int))).setCell (p := ⟨w.heap.size + 1, 0, none⟩) (by simp) (.int .u32 (x' : Int))).setCell (p := ⟨w.heap.size + 1, 1, none⟩) (by simp) (.int .u8 (y' : Int))
        exact bodyPost_ret (v := .tuple #[.agg #[.int .u32 (x : Int), .int .u8 (y : Int)], .agg #[.int .u32 (x' : Int), .int .u8 (y' : Int)]]) (by simp [results, Try.results15, go_sem, z00, z01, z10, z11]) rfl ⟨rfl, hF⟩
      · subst e0
        have e1 : ((y : Int) == (y' : Int)) = false := by simp; omega
        have e2 : ¬ (y : Int) = (y' : Int) := by omega
        have e3 : (y == y') = false := by simpa using hy
        clear HNE
        go_wp2_with (first
          | (go_at_call 22; refine (cAk.out _ HBr.out).mono ?_; rintro e W1 ⟨rfl, hB1⟩; have HB1 := hid (below_trans HBr.out hB1); have HW1 := hid (HW.out.trans (hB1.mono HW.out.size)); clear hB1 cAk)
          | (go_at_call 22; refine (cBk.out _ HB1.out).mono ?_; rintro e W2 ⟨rfl, hB1⟩; have HB2 := hid (below_trans HB1.out hB1); have HW2 := hid (HW1.out.trans (hB1.mono HW1.out.size)); clear hB1 cBk)
          | (go_at_call 22; refine (cA2.out _ HB2.out).mono ?_; rintro e W3 ⟨rfl, hB1⟩; have HB3 := hid (below_trans HB2.out hB1); have HW3 := hid (HW2.out.trans (hB1.mono HW2.out.size)); clear hB1 cA2)
          | (go_at_call 22; refine (cB2.out _ HB3.out).mono ?_; rintro e W4 ⟨rfl, hB1⟩; have HB4 := hid (below_trans HB3.out hB1); have HW4 := hid (HW3.out.trans (hB1.mono HW3.out.size)); clear hB1 cB2; have HX0 := hid (hX0.out.below HW4.out hX0.out.lt); have HX1 := hid (hX1.out.below HW4.out hX1.out.lt); have c00 := HX0.out.cell 0; have c01 := HX0.out.cell 1; have c10 := HX1.out.cell 0; have c11 := HX1.out.cell 1; have f00 := HX0.out.frozen 0; have f01 := HX0.out.frozen 1; have f10 := HX1.out.frozen 0; have f11 := HX1.out.frozen 1))
        have HZ0 := ((HX0.out.set2 (.int .u32 (x : Int)) (.int .u8 (y : Int))).other (B' := w.heap.size + 1) (by omega) 0 (.int .u32 (x : Int))).other (B' := w.heap.size + 1) (by omega) 1 (.int .u8 (y' : Int))
        have HZ1 := ((HX1.out.other (B' := w.heap.size) (by omega) 0 (.int .u32 (x : Int))).other (B' := w.heap.size) (by omega) 1 (.int .u8 (y : Int))).set2 (.int .u32 (x : Int)) (.int .u8 (y' : Int))
        have z00 := HZ0.cell 0
        have z01 := HZ0.cell 1
        have z10 := HZ1.cell 0
        have z11 := HZ1.cell 1
        simp at z00 z01 z10 z11
        have hF := (((HB4.out.setCell (p := ⟨w.heap.size, 0, none⟩) (by simp) (.int .u32 (x : Int))).setCell (p := ⟨w.heap.size, 1, none⟩) (by simp) (.int .u8 (y : Int))).setCell (p := ⟨w.heap.size + 1, 0, none⟩) (by simp) (.int .u32 (x : Int))).setCell (p := ⟨w.heap.size + 1, 1, none⟩) (by simp) (.int .u8 (y' : Int))
        exact bodyPost_ret (v := .tuple #[.agg #[.int .u32 (x : Int), .int .u8 (y : Int)], .agg #[.int .u32 (x : Int), .int .u8 (y' : Int)]]) (by simp [results, Try.results15, go_sem, z00, z01, z10, z11]) rfl ⟨rfl, hF⟩

end Go.Proofs.Ytpmdfiebcaifmaa.Calls131
