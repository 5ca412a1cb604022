/-
  What prove of package pratt answers: the line of a prime.
-/
import Derived.Test.YtmomlcibiklajaaCalls42
namespace Go.Proofs.Ytmomlcibiklajaa.Calls43
set_option linter.unusedVariables false
open Go.ChangeShapes Go.WideShapes Go.ChangeAt Go.RowKit Go.Deep Go.Proofs.Ytmomlcibiklajaa.Base Go.Proofs.Ytmomlcibiklajaa.Base2 Go.Proofs.Ytmomlcibiklajaa.Num Go.Proofs.Ytmomlcibiklajaa.Num13 Go.Proofs.Ytmomlcibiklajaa.Num31 Go.Proofs.Ytmomlcibiklajaa.Calls35 Go.Proofs.Ytmomlcibiklajaa.Calls36 Go.Proofs.Ytmomlcibiklajaa.Calls41 Go.Proofs.Ytmomlcibiklajaa.Calls42

theorem infoJ : (Try.prog.info? 3).map (fun i => (i.zero, i.size, i.bytes)) = some (some (.int .i64 0), 1, 8) := by kernel_rfl

theorem box_set3 {W : World} {B : Nat} {t : TypeId} {a b c : Value} (h : BoxC W B t #[a, b, c]) (a' b' c' : Value) : BoxC (((W.setCell ⟨B, 0, none⟩ a').setCell ⟨B, 1, none⟩ b').setCell ⟨B, 2, none⟩ c') B t #[a', b', c'] := by
  have := ((h.set 0 a').set 1 b').set 2 c'
  simpa using this

theorem prove_two (v u : Value) (w : World) :
    Calls Try.prog 21 #[.int .i64 2, v, u] w fun e w' => e = .returned (.agg #[.int .i64 2, .int .i64 0, .slice none 0 0]) ∧ Below w.heap.size w w' := by
  go_enter Try.func21, Try.ntmps21
  go_wp2
  exact bodyPost_ret (v := .agg #[.int .i64 2, .int .i64 0, .slice none 0 0]) (by simp [results, Try.results21, go_sem]) rfl ⟨rfl, (Below.refl _ w).alloc (Nat.le_refl _) _⟩

theorem places_in {R ks qs : List Nat} (h : Places R ks qs) {k : Nat} (hk : k < qs.length) : ks.take (k + 1) = ks.take k ++ [ks.getD k 0] := by
  have hk' : k < ks.length := by rw [h.1]; exact hk
  rw [List.take_add_one, List.getElem?_eq_getElem hk']
  simp [List.getD, hk']

/-- The line, its From a new row. -/
def Proved (p G : Nat) (ks : List Nat) (base : Nat) (e : Ending) (w' : World) : Prop :=
  ∃ bo cb, e = .returned (.agg #[.int .i64 (p : Int), .int .i64 (G : Int), .slice bo ks.length cb]) ∧ w'.ownsRow base 3 1 (.slice bo ks.length cb) ks.length (ivals (zs ks))

set_option maxRecDepth 100000 in
set_option maxHeartbeats 1000000 in
theorem prove_any (p G : Nat) (qs ks R : List Nat) (fo ro : Option Addr) (cf cr : Nat) (hp1 : 3 ≤ p) (hp2 : p ≤ 1048576) (hl : qs.length ≤ 1048576) (hq : ∀ q ∈ qs, 2 ≤ q ∧ q ≤ 1048576) (hG : LeastG p qs G) (hR : Asc R) (hRl : R.length ≤ 1048576) (hpl : Places R ks qs) (w : World) (hrow : IRow w fo (zs qs)) (hrR : IRow w ro (zs R)) :
    Calls Try.prog 21 #[.int .i64 (p : Int), .slice fo qs.length cf, .slice ro R.length cr] w fun e w' => Proved p G ks w.heap.size e w' ∧ Below w.heap.size w w' := by
  obtain ⟨i0, hi, hz0, hz1, hz2⟩ := info_parts infoJ
  have hB0 : Below w.heap.size w (w.alloc (.cells #[.int .i64 0, .int .i64 0, .slice none 0 0] 36)) := (Below.refl _ w).alloc (Nat.le_refl _) _
  have cL := leastLast_any fo cf qs p G hp1 hp2 hl hq hG (w.alloc (.cells #[.int .i64 0, .int .i64 0, .slice none 0 0] 36)) (irow_below hrow hB0 (Nat.le_refl _))
  have cS := fun (k : Nat) (hk : k < qs.length) W (hB : Below w.heap.size w W) => binary_any ro cr R hR hRl (qs.getD k 0) (ks.getD k 0) (hpl.2 k hk).1 (hpl.2 k hk).2 W (irow_below hrR hB (Nat.le_refl _))
  have hp2' : ¬ (p : Int) = 2 := by omega
  obtain ⟨n, hn⟩ : ∃ n, n = qs.length := ⟨_, rfl⟩
  have HN : Hid (n = qs.length) := hn
  have HP := hid hpl
  have HS := hid cS
  have HR0 := hid hrow
  have bA0 := hid (BoxC.new w 36 #[.int .i64 0, .int .i64 0, .slice none 0 0])
  rw [← hn] at hl cL ⊢
  rw [← hn] at HS
  clear hn cS hpl hq hG hR hrR hrow
  go_enter Try.func21, Try.ntmps21
  go_wp2_with (go_at_call 34; refine cL.mono ?_; rintro e w1 ⟨rfl, hB1⟩)
  have bA1 := hid (bA0.out.below hB1 (by simp))
  have hBw1 : Hid (Below w.heap.size w w1) := below_trans hB0 hB1
  have hs1 : w.heap.size + 1 ≤ w1.heap.size := by have := hB1.size; simpa using this
  have bB1 := hid (BoxC.new w1 36 #[.int .i64 (p : Int), .int .i64 (G : Int), .slice none 0 0])
  have bA2 := hid (bA1.out.alloc (.cells #[.int .i64 (p : Int), .int .i64 (G : Int), .slice none 0 0] 36))
  have hBw2 : Hid (Below w.heap.size w (w1.alloc (.cells #[.int .i64 (p : Int), .int .i64 (G : Int), .slice none 0 0] 36))) := hBw1.out.alloc (by omega) _
  have hs2 : (w1.alloc (.cells #[.int .i64 (p : Int), .int .i64 (G : Int), .slice none 0 0] 36)).heap.size = w1.heap.size + 1 := by simp
  obtain ⟨W2, hW2⟩ : ∃ W2, w1.alloc (.cells #[.int .i64 (p : Int), .int .i64 (G : Int), .slice none 0 0] 36) = W2 := ⟨_, rfl⟩
  rw [hW2] at bB1 bA2 hBw2 hs2 ⊢
  clear hW2 bA0 bA1 hB1 hB0 cL
  go_loopw [22] (fun i wr => ∃ (k : Nat) (v : Value), i = .int .i64 (k : Int) ∧ k ≤ n ∧ Hid (BoxC wr w1.heap.size 36 #[.int .i64 (p : Int), .int .i64 (G : Int), v]) ∧ Hid (BoxC wr w.heap.size 36 #[.int .i64 0, .int .i64 0, .slice none 0 0]) ∧ Hid (wr.ownsRow (w1.heap.size + 1) 3 1 v k (ivals (zs (ks.take k)))) ∧ w1.heap.size + 1 ≤ wr.heap.size ∧ Below w.heap.size w wr) (fun i wr => ((n : Int) - intOf i).toNat)
  case atStart => exact ⟨0, .slice none 0 0, rfl, by omega, bB1, bA2, World.ownsRow_nil _ _ _ _, by omega, hBw2.out⟩
  case round =>
    obtain ⟨k, v, rfl, hk, bB, bA, hown, hsr, hB⟩ := hrel
    have hkk : (ks.take k).length = k := by rw [List.length_take]; have := HP.out.1; have := HN.out; omega
    obtain ⟨bo, cb, hv, _⟩ := irow_owns hown.out (by rw [zs_length, hkk])
    subst hv
    rw [zs_length, hkk] at bB hown
    clear hkk
    by_cases hgo : k < n
    · have hgo' : (k : Int) < (n : Int) := by omega
      have hkl : Hid (k < qs.length) := by have := HN.out; show k < qs.length; omega
      rcases fo with _ | fd
      · exact (irow_none HR0.out (j := k) (by rw [zs_length]; exact hkl.out)).elim
      · have c := (irow_below HR0.out hB (Nat.le_refl _)).2 fd rfl k (by rw [zs_length]; exact hkl.out)
        rw [zs_get] at c
        have cB := HS.out k hgo wr hB
        have hsn : Hid (ivals (zs (ks.take (k + 1))) = ivals (zs (ks.take k)) ++ [.int .i64 ((ks.getD k 0 : Nat) : Int)]) := by
          show _ = _
          rw [places_in HP.out hkl.out, zs_snoc, ivals_snoc]
        obtain ⟨q, hqe⟩ : ∃ q, qs.getD k 0 = q := ⟨_, rfl⟩
        obtain ⟨t, hte⟩ : ∃ t, ks.getD k 0 = t := ⟨_, rfl⟩
        rw [hqe] at c cB
        rw [hte] at cB hsn
        clear hqe hte
        have k2 := bB.out.cell 2
        simp at k2
        have hown2 := hown.out
        have CB := hid cB
        clear hown cB
        have hkn : k ≤ 1048576 := by omega
        go_wp2_with (first
          | (go_at_call 35; refine CB.out.mono ?_; rintro e w3 ⟨rfl, hw⟩; subst w3)
          | (at_builtin; refine wpList_append_own0 _ rfl _ _ 34 rfl (w1.heap.size + 1) 3 i0 (.int .i64 0) 1 8 Try.underlying34 hi hz0 hz1 hz2 rfl (by decide) _ _ _ rfl (hown2.alloc _) ⟨wr.heap.size, 0, none⟩ 1 1 [.int .i64 (t : Int)] rfl rfl one_cell (by simp [Value.oneCell']) (by omega) (by unfold maxLen; omega) (by omega) (by simp; omega) ?_; intro g2 c2 w3 hown' hgrow hat hlt; have bB3 := hid ((bB.out.alloc (.cells #[.int .i64 (t : Int)] 3)).kept hgrow (fun e => by have := (hown2.lt w1.heap.size e.symm).1; omega)); have k23 := bB3.out.cell 2; have f23 := bB3.out.frozen 2; simp at k23))
        go_roundw
        case rel =>
          have hsz := hgrow.size
          simp at hsz
          refine ⟨k + 1, .slice (some ⟨g2, 0, none⟩) (k + 1) c2, by simp, by omega, ?_, ?_, ?_, ?_, ?_⟩
          · have h := bB3.out.set 2 (.slice (some ⟨g2, 0, none⟩) (k + 1) c2)
            simp at h
            exact h
          · exact (((bA.out.alloc (.cells #[.int .i64 (t : Int)] 3)).kept hgrow (fun e => by have := (hown2.lt w.heap.size e.symm).1; omega)).other (by omega) 2 _)
          · show World.ownsRow _ _ _ _ _ _ _
            rw [hsn.out]
            exact ownsRow_setCell_below hown' (by simp) _
          · simp; omega
          · exact ((hB.alloc hB.size _).trans (below_grown (hown2.alloc _) hgrow (by omega) (by simp; omega))).setCell (by simp; omega) _
        case measure => exact measK hgo
    · have hgo' : ¬ (k : Int) < (n : Int) := by omega
      have e : k = ks.length := by have := HP.out.1; have := HN.out; omega
      rw [e, List.take_length] at hown
      rw [e] at bB
      have H2 := hid hown.out
      clear hown
      have k0 := bB.out.cell 0
      have k1 := bB.out.cell 1
      have k2 := bB.out.cell 2
      simp at k0 k1 k2
      have a0 := bA.out.cell 0
      have a1 := bA.out.cell 1
      have a2 := bA.out.cell 2
      have f0 := bA.out.frozen 0
      have f1 := bA.out.frozen 1
      have f2 := bA.out.frozen 2
      simp at a0 a1 a2
      have b1 := hid (box_set3 bA.out (.int .i64 (p : Int)) (.int .i64 (G : Int)) (.slice bo ks.length cb))
      have r0 := b1.out.cell 0
      have r1 := b1.out.cell 1
      have r2 := b1.out.cell 2
      simp at r0 r1 r2
      clear e
      go_wp2
      refine bodyPost_ret (v := .agg #[.int .i64 (p : Int), .int .i64 (G : Int), .slice bo ks.length cb]) (by simp [results, Try.results21, go_sem, r0, r1, r2]) rfl ⟨⟨bo, cb, rfl, ?_⟩, ?_⟩
      · exact owns_mono (ownsRow_setCell_below (ownsRow_setCell_below (ownsRow_setCell_below H2.out (by simp; omega) _) (by simp; omega) _) (by simp; omega) _) (by omega)
      · exact ((hB.setCell (by simp) _).setCell (by simp) _).setCell (by simp) _

end Go.Proofs.Ytmomlcibiklajaa.Calls43
