/-
  The document's Short.
-/
import Derived.Test.YtfomanpehfdnbaaCalls120
import Derived.Test.YtfomanpehfdnbaaCalls122
namespace Go.Proofs.Ytfomanpehfdnbaa.Calls123
set_option linter.unusedVariables false
open Go.ChangeShapes Go.WideShapes Go.ChangeAt Go.RowKit Go.Deep Go.Proofs.Ytfomanpehfdnbaa.Base Go.Proofs.Ytfomanpehfdnbaa.Base2 Go.Proofs.Ytfomanpehfdnbaa.Base7 Go.Proofs.Ytfomanpehfdnbaa.Num44 Go.Proofs.Ytfomanpehfdnbaa.Num54 Go.Proofs.Ytfomanpehfdnbaa.Num65 Go.Proofs.Ytfomanpehfdnbaa.Calls120 Go.Proofs.Ytfomanpehfdnbaa.Calls122

theorem take_snoc (T : List Bool) {k : Nat} (h : k < T.length) : T.take (k + 1) = T.take k ++ [gb T k] := by
  rw [List.take_add_one]
  simp [gb, List.getD, h]

def sln : Value → Nat
  | .slice _ n _ => n
  | _ => 0

theorem sln_own {W : World} {base : Nat} {e : TypeId} {size : Nat} {v : Value} {n : Nat} {xs : List Value} (h : W.ownsRow base e size v n xs) : sln v = n := by
  rcases h.2 with ⟨rfl, hn⟩ | ⟨g, cap, cur, rfl, _⟩
  · exact hn.symm
  · rfl

/-- With k taps, and one more that is not set: there is such a rule just if the shortest one's isn't set. -/
theorem next_iff {l T : List Bool} (h : ShL l T) {k : Nat} (hk : k < T.length) : (!(gb T k)) = true ↔ ∃ t, Makes (gb l) T.length l.length t ∧ ∀ j, j < (T.take k ++ [false]).length → t j = gb (T.take k ++ [false]) j := by
  have hlen : (T.take k).length = k := by rw [List.length_take]; omega
  have hg : ∀ j, j < k → gb (T.take k ++ [false]) j = gb T j := fun j hj => by
    have : gb (T.take k ++ [false]) j = gb (T.take k) j := by simp [gb, List.getD, List.getElem?_append_left (show j < (T.take k).length by omega)]
    rw [this, gb_take hj]
  have hgk : gb (T.take k ++ [false]) k = false := by
    have : gb (T.take k ++ [false]) (T.take k).length = false := by simp [gb, List.getD]
    rwa [hlen] at this
  have hl2 : (T.take k ++ [false]).length = k + 1 := by rw [List.length_append, hlen]; rfl
  rw [hl2]
  constructor
  · intro e
    refine ⟨gb T, h.1.1, fun j hj => ?_⟩
    by_cases ej : j = k
    · subst ej
      rw [hgk]
      cases hx : gb T j with
      | false => rfl
      | true => rw [hx] at e; cases e
    · rw [hg j (by omega)]
  · rintro ⟨t, h1, h2⟩
    cases hx : gb T k with
    | false => rfl
    | true =>
      exfalso
      exact h.1.2 k hk hx ⟨t, h1, fun j hj => by rw [h2 j (by omega), hg j hj], by rw [h2 k (by omega), hgk]⟩

theorem start_iff {l T : List Bool} (h : ShL l T) {k : Nat} (hk : k ≤ T.length) : decide (k = T.length) = true ↔ ∃ t, Makes (gb l) k l.length t ∧ ∀ j, j < ([] : List Bool).length → t j = gb [] j := by
  constructor
  · intro e
    have e := of_decide_eq_true e
    subst e
    exact ⟨gb T, h.1.1, fun j hj => by simp at hj⟩
  · rintro ⟨t, h1, _⟩
    have := h.2 k t h1
    exact decide_eq_true (by omega)

set_option maxRecDepth 100000 in
set_option maxHeartbeats 1000000 in
theorem refShort_any (lo : Option Addr) (cl : Nat) (l T : List Bool) (hT : ShL l T) (hl : l.length ≤ 64) (w : World) (rl : BRow w lo l) :
    Calls Try.prog 12 #[.slice lo l.length cl] w fun e w' => RetB T e w' ∧ Below w.heap.size w w' := by
  obtain ⟨i0, hi, hz0, hz1', hz2⟩ := infoBo_ex
  have hTl := hT.le
  have HLr := hid (fun (w' : World) (h : Below w.heap.size w w') => brow_below rl h)
  have cS := hid (fun (k : Nat) (hk : k ≤ T.length) (w' : World) (h : Below w.heap.size w w') => rows_any lo none cl 0 l [] k hl (by omega) (by simp) w' (brow_below rl h) (brow_nil _ _) (decide (k = T.length)) (start_iff hT hk))
  have cN := hid (fun (k : Nat) (hk : k < T.length) (bo : Option Addr) (cb : Nat) (w' : World) (h : Below w.heap.size w w') (hb : BRow w' bo (T.take k ++ [false])) => rows_any lo bo cl cb l (T.take k ++ [false]) T.length hl hTl (by rw [List.length_append, List.length_take]; simp; omega) w' (brow_below rl h) hb (!(gb T k)) (next_iff hT hk))
  have hsn := hid (fun k (hk : k < T.length) => take_snoc T hk)
  have hlen : Hid (∀ k, k ≤ T.length → (T.take k).length = k) := fun k hk => by rw [List.length_take]; omega
  have hlen2 : Hid (∀ k, k ≤ T.length → (T.take k ++ [false]).length = k + 1) := fun k hk => by rw [List.length_append, List.length_take]; simp; omega
  obtain ⟨N, hN⟩ : ∃ N, N = l.length := ⟨_, rfl⟩
  obtain ⟨M, hM⟩ : ∃ M, M = T.length := ⟨_, rfl⟩
  have HM := hid hM
  rw [← hN, ← hM] at hTl
  rw [← hN] at hl cS cN ⊢
  rw [← hM] at cS cN hsn hlen hlen2
  have HT : Hid (T.take M = T) := by show _ = _; rw [hM, List.take_length]
  have h0 : T.take 0 = [] := rfl
  clear hN hM hT rl h0 HLr
  have c0 := cS.out 0 (by omega) w (Below.refl _ _)
  go_enter Try.func12, Try.ntmps12
  go_wp2
  go_loopw [3] (fun i wr => ∃ k : Nat, i = .int .i64 (k : Int) ∧ k ≤ M ∧ Hid (Below w.heap.size w wr)) (fun i wr => ((M : Int) - intOf i).toNat)
  case atStart => exact ⟨0, rfl, by omega, Below.refl _ _⟩
  case round =>
    obtain ⟨k, rfl, hk, HB⟩ := hrel
    have c1 := cS.out k hk wr HB.out
    by_cases hgo : k < M
    · have hd : decide (k = M) = false := by simp; omega
      rw [hd] at c1
      clear hd
      go_wp2_with (go_at_call 17; refine c1.mono ?_; rintro e w2 ⟨rfl, hB2⟩; clear c1 c0)
      go_roundw
      case rel => exact ⟨k + 1, by simp, by omega, below_trans HB.out hB2⟩
      case measure => exact measK hgo
    · obtain rfl : M = k := by omega
      have hd : decide (M = M) = true := by simp
      rw [hd] at c1
      clear hd
      go_wp2_with (go_at_call 17; refine c1.mono ?_; rintro e w2 ⟨rfl, hB2⟩; have HB2 := hid (below_trans HB.out hB2); clear c1 c0 hB2)
      go_loopw [4] (fun v wr => ∃ k : Nat, k ≤ M ∧ Hid (wr.ownsRow w.heap.size 4 1 v k (bv (T.take k))) ∧ Hid (Below w.heap.size w wr)) (fun v wr => M - sln v)
      case atStart => exact ⟨0, by omega, World.ownsRow_nil _ _ _ _, HB2⟩
      case round =>
        obtain ⟨k, hk, HO, HB⟩ := hrel
        obtain ⟨bo, cb, hv, hcb, hr⟩ := b_owns HO.out
        rw [hlen.out k hk] at hv hcb
        have HRw := hid hr
        subst hv
        clear hr
        by_cases hgk : k < M
        · have hgk' : (k : Int) < (M : Int) := by omega
          have cC := fun bo cb w' h hb => cN.out k hgk bo cb w' h hb
          rw [hlen2.out k hk] at cC
          have CC := hid cC
          have hs := HB.out.size
          have own0 := hid (owns_empty wr wr.heap.size 4 1 (Nat.le_refl _))
          have HRw1 := hid (vrow_below HRw.out ((Below.refl wr.heap.size wr).alloc (Nat.le_refl _) (.cells #[] 4)) (Nat.le_refl _))
          have hlk : k = (bv (T.take k)).length := by rw [bv_length, hlen.out k hk]
          have HLK := hid hlk
          clear cC hlk
          cases hx : gb T k with
          | true =>
            rw [hx] at CC
            have hs2 : Hid (bv (T.take (k + 1)) = bv (T.take k) ++ [.bool true]) := by show _ = _; rw [hsn.out k hgk, bv_snoc, hx]
            clear hx
            go_wp2_with (first
              | (at_builtin; refine wpList_copyV _ rfl _ _ 22 rfl wr.heap.size 4 i0 (.bool false) 1 Try.underlying22 hi hz0 hz1' hz2 rfl (by decide) (by decide) wr.heap.size rfl own0.out bo k cb (bv (T.take k)) rfl HLK.out HRw1.out (bv_one _) (by omega) (by simp) ?_
                 intro g3 c3 w3 hown3 hgrow3 hg3
                 have HO3 := hid hown3
                 have HB3 := hid (v_grow ((Below.refl wr.heap.size wr).alloc (Nat.le_refl _) (.cells #[] 4)) (Nat.le_refl _) own0.out hgrow3)
                 have hs3 := HB3.out.size
                 clear hown3 hgrow3 own0)
              | (at_builtin; refine wpList_append_own0 _ rfl _ _ 22 rfl wr.heap.size 4 i0 (.bool false) 1 1 Try.underlying22 hi hz0 hz1' hz2 rfl (by decide) _ k _ rfl (HO3.out.alloc _) ⟨w3.heap.size, 0, none⟩ 1 1 [.bool false] rfl rfl v_one (by simp [Value.oneCell']) (by omega) (by unfold maxLen; omega) (by omega) (by simp; omega) ?_
                 intro g4 c4 w4 hown4 hgrow4 hor4 hg4
                 have HO4 := hid hown4
                 have HB4 := hid (v_snoc HB3.out (Nat.le_refl _) HO3.out hgrow4)
                 have HBR4 : Hid (BRow w4 (some ⟨g4, 0, none⟩) (T.take k ++ [false])) := (by
                   have h1 := hown4
                   rw [← bv_snoc] at h1
                   obtain ⟨ao', cap', e1, e2, e3⟩ := b_owns h1
                   have e4 := (Value.slice.inj e1).1
                   rw [e4]; exact e3)
                 clear hown4 hgrow4 hor4 HO3)
              | (go_at_call 17; refine (CC.out _ _ _ (below_trans HB.out HB4.out) HBR4.out).mono ?_; rintro e w5 ⟨rfl, hB5⟩
                 have HB5 := hid (below_trans HB4.out hB5)
                 have HO5 := hid (v_below HO.out HB5.out)
                 have hs5 := HB5.out.size
                 clear hB5 HO4)
              | (at_builtin; refine wpList_append_own _ rfl _ _ 22 rfl w.heap.size 4 i0 (.bool false) 1 1 Try.underlying22 hi hz0 hz1' hz2 rfl (by decide) _ _ _ rfl (HO5.out.alloc _) ⟨w5.heap.size, 0, none⟩ 1 1 [.bool true] rfl rfl v_one (by simp [Value.oneCell']) (by unfold maxLen; omega) (by omega) (by simp; omega) ?_; intro v' w6 hown6 hgrow6 _; have HO6 := hid hown6; have HB6 := hid (v_snoc (below_trans HB.out HB5.out) (Nat.le_refl _) HO5.out hgrow6); clear hown6 hgrow6))
            go_roundw
            case rel => exact ⟨k + 1, by omega, by show World.ownsRow _ _ _ _ _ _ _; rw [hs2.out]; exact HO6.out, HB6⟩
            case measure =>
              rw [sln_own HO6.out]
              show M - (k + 1) < M - k
              omega
          | false =>
            rw [hx] at CC
            have hs2 : Hid (bv (T.take (k + 1)) = bv (T.take k) ++ [.bool false]) := by show _ = _; rw [hsn.out k hgk, bv_snoc, hx]
            clear hx
            go_wp2_with (first
              | (at_builtin; refine wpList_copyV _ rfl _ _ 22 rfl wr.heap.size 4 i0 (.bool false) 1 Try.underlying22 hi hz0 hz1' hz2 rfl (by decide) (by decide) wr.heap.size rfl own0.out bo k cb (bv (T.take k)) rfl HLK.out HRw1.out (bv_one _) (by omega) (by simp) ?_
                 intro g3 c3 w3 hown3 hgrow3 hg3
                 have HO3 := hid hown3
                 have HB3 := hid (v_grow ((Below.refl wr.heap.size wr).alloc (Nat.le_refl _) (.cells #[] 4)) (Nat.le_refl _) own0.out hgrow3)
                 have hs3 := HB3.out.size
                 clear hown3 hgrow3 own0)
              | (at_builtin; refine wpList_append_own0 _ rfl _ _ 22 rfl wr.heap.size 4 i0 (.bool false) 1 1 Try.underlying22 hi hz0 hz1' hz2 rfl (by decide) _ k _ rfl (HO3.out.alloc _) ⟨w3.heap.size, 0, none⟩ 1 1 [.bool false] rfl rfl v_one (by simp [Value.oneCell']) (by omega) (by unfold maxLen; omega) (by omega) (by simp; omega) ?_
                 intro g4 c4 w4 hown4 hgrow4 hor4 hg4
                 have HO4 := hid hown4
                 have HB4 := hid (v_snoc HB3.out (Nat.le_refl _) HO3.out hgrow4)
                 have HBR4 : Hid (BRow w4 (some ⟨g4, 0, none⟩) (T.take k ++ [false])) := (by
                   have h1 := hown4
                   rw [← bv_snoc] at h1
                   obtain ⟨ao', cap', e1, e2, e3⟩ := b_owns h1
                   have e4 := (Value.slice.inj e1).1
                   rw [e4]; exact e3)
                 clear hown4 hgrow4 hor4 HO3)
              | (go_at_call 17; refine (CC.out _ _ _ (below_trans HB.out HB4.out) HBR4.out).mono ?_; rintro e w5 ⟨rfl, hB5⟩
                 have HB5 := hid (below_trans HB4.out hB5)
                 have HO5 := hid (v_below HO.out HB5.out)
                 have hs5 := HB5.out.size
                 clear hB5 HO4)
              | (at_builtin; refine wpList_append_own _ rfl _ _ 22 rfl w.heap.size 4 i0 (.bool false) 1 1 Try.underlying22 hi hz0 hz1' hz2 rfl (by decide) _ _ _ rfl (HO5.out.alloc _) ⟨w5.heap.size, 0, none⟩ 1 1 [.bool false] rfl rfl v_one (by simp [Value.oneCell']) (by unfold maxLen; omega) (by omega) (by simp; omega) ?_; intro v' w6 hown6 hgrow6 _; have HO6 := hid hown6; have HB6 := hid (v_snoc (below_trans HB.out HB5.out) (Nat.le_refl _) HO5.out hgrow6); clear hown6 hgrow6))
            go_roundw
            case rel => exact ⟨k + 1, by omega, by show World.ownsRow _ _ _ _ _ _ _; rw [hs2.out]; exact HO6.out, HB6⟩
            case measure =>
              rw [sln_own HO6.out]
              show M - (k + 1) < M - k
              omega
        · have hgk' : ¬ (k : Int) < (M : Int) := by omega
          obtain rfl : M = k := by omega
          rw [HT.out] at HRw
          clear HO
          go_wp2
          go_ret
          exact ⟨⟨bo, cb, by rw [← HM.out]; rfl, by rw [← HM.out]; exact hcb, HRw.out⟩, HB.out⟩

end Go.Proofs.Ytfomanpehfdnbaa.Calls123
