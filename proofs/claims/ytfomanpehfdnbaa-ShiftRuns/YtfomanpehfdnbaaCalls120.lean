/-
  Package shift's Short.
-/
import Derived.Test.YtfomanpehfdnbaaCalls119
namespace Go.Proofs.Ytfomanpehfdnbaa.Calls120
set_option linter.unusedVariables false
open Go.ChangeShapes Go.WideShapes Go.ChangeAt Go.RowKit Go.Deep Go.Maps Go.Proofs.Ytfomanpehfdnbaa.Base Go.Proofs.Ytfomanpehfdnbaa.Base2 Go.Proofs.Ytfomanpehfdnbaa.Base7 Go.Proofs.Ytfomanpehfdnbaa.Num44 Go.Proofs.Ytfomanpehfdnbaa.Num54 Go.Proofs.Ytfomanpehfdnbaa.Num65 Go.Proofs.Ytfomanpehfdnbaa.Num66 Go.Proofs.Ytfomanpehfdnbaa.Calls118 Go.Proofs.Ytfomanpehfdnbaa.Calls119
open Go.Proofs.Ytfomanpehfdnbaa.Base3 (RV)

/-- The shortest rule of a list, as a list. -/
def ShL (l T : List Bool) : Prop := ShortIs (gb l) l.length T.length (gb T)

theorem shl_ex (l : List Bool) : ∃ T, ShL l T ∧ T.length ≤ l.length := by
  obtain ⟨T, t, h, h2⟩ := short_ex (gb l) l.length
  refine ⟨mb T t, ?_, by rw [mb_length]; exact h2⟩
  unfold ShL
  rw [mb_length]
  have hc : ∀ k, k < T → t k = gb (mb T t) k := fun k hk => (gb_mb hk).symm
  refine ⟨⟨(makes_congr hc).1 h.1.1, fun j hj htj => ?_⟩, h.2⟩
  rw [gb_mb hj] at htj
  rintro ⟨t', k1, k2, k3⟩
  exact h.1.2 j hj htj ⟨t', k1, fun k hk => by rw [k2 k hk, gb_mb (by omega)], k3⟩

theorem ShL.le {l T : List Bool} (h : ShL l T) : T.length ≤ l.length := by
  obtain ⟨t, ht⟩ := makes_all (gb l) l.length
  exact h.2 l.length t ht

theorem ShL.uniq {l T T' : List Bool} (h : ShL l T) (h' : ShL l T') : T = T' := by
  obtain ⟨h1, h2⟩ := ShortIs.uniq h h'
  exact gb_ext h1 h2

theorem Short_bad (ao : Option Addr) (cap : Nat) (l : List Bool) (hl : 64 < l.length) (w : World) :
    Calls Try.prog 11 #[.slice ao l.length cap] w fun e w' => e = .returned (.tuple #[.slice none 0 0, .int .i64 1]) ∧ Below w.heap.size w w' := by
  have h : (64 : Int) < (l.length : Int) := by omega
  generalize l.length = N at *
  go_enter Try.func11, Try.ntmps11
  go_wp2
  go_ret2
  exact ⟨rfl, Below.refl _ _⟩

set_option maxRecDepth 100000 in
set_option maxHeartbeats 2000000 in
theorem Short_yes (ao : Option Addr) (cap : Nat) (l T : List Bool) (hT : ShL l T) (hl : l.length ≤ 64) (w : World) (hrow : BRow w ao l) :
    Calls Try.prog 11 #[.slice ao l.length cap] w fun e w' => RetBE T e w' ∧ Below w.heap.size w w' := by
  obtain ⟨i0, hi, hz0, hz1, hz2⟩ := infoBo_ex
  have hTl := hT.le
  have HT := hid hT
  have cE := hid (fun k (hk : k ≤ l.length) (w' : World) (hB : Below w.heap.size w w') => echelon_any ao cap l hl k hk w' (brow_below hrow hB))
  obtain ⟨N, hN⟩ : ∃ N, N = l.length := ⟨_, rfl⟩
  rw [← hN] at hl hTl cE ⊢
  obtain ⟨M, hM⟩ : ∃ M, M = T.length := ⟨_, rfl⟩
  have HM := hid hM
  rw [← hM] at hTl
  have hmin : Hid (∀ k, k < M → ¬ ∃ t, Makes (gb l) k N t) := fun k hk ⟨t, ht⟩ => by
    have := HT.out.2 k t (by rw [← hN]; exact ht)
    omega
  have hhas : Hid (∃ t, Makes (gb l) M N t) := ⟨gb T, by rw [hM, hN]; exact HT.out.1.1⟩
  have hget : Hid (∀ x y f, Ech (gb l) M N f → Lst f (M + 1) x y → ∀ j, j < M → pb x y (j + 1) = gb T j) := fun x y f h1 h2 j hj => by
    have := h2.short h1 (fun k hk => hmin.out k hk)
    rw [hN] at this
    exact (ShortIs.uniq this HT.out).2 j hj
  have cNo : Hid (∀ k, k < M → ∀ w', Below w.heap.size w w' → Calls Try.prog 14 #[.slice ao N cap, .int .i64 (k : Int)] w' fun e w'' => e = .returned (.tuple #[.map none, .bool false]) ∧ Below w'.heap.size w' w'') := fun k hk w' hB => (cE.out k (by omega) w' hB).mono fun e w'' h => ⟨by
    rcases h.1 with ⟨b, n, D, f, _, _, _, h4, _⟩ | ⟨h1, _⟩
    · exact absurd (ech_ex (by omega) h4) (hmin.out k hk)
    · exact h1, h.2⟩
  have cYes : Hid (∀ w', Below w.heap.size w w' → Calls Try.prog 14 #[.slice ao N cap, .int .i64 (M : Int)] w' fun e w'' => (∃ b n D f, e = .returned (.tuple #[.map (some b), .bool true]) ∧ w''.ownsMap Try.prog 3 RV b n D ∧ TbD D f ∧ Ech (gb l) M N f ∧ b < w''.heap.size) ∧ Below w'.heap.size w' w'') := fun w' hB => (cE.out M hTl w' hB).mono fun e w'' h => ⟨by
    rcases h.1 with h1 | ⟨_, h1⟩
    · exact h1
    · exact absurd hhas.out h1, h.2⟩
  clear hT cE hN hM hmin hhas hrow HT
  have hNi : ¬ (64 : Int) < (N : Int) := by omega
  obtain ⟨L, hL⟩ : ∃ L, L = gb l := ⟨_, rfl⟩
  rw [← hL] at hget cYes
  clear hL
  have key : ∀ k, k ≤ M → ∀ w', Below w.heap.size w w' → Calls Try.prog 14 #[.slice ao N cap, .int .i64 (k : Int)] w' fun e w'' => (∃ (m : Value) (fd : Bool), e = .returned (.tuple #[m, .bool fd]) ∧ ((k < M ∧ fd = false) ∨ (k = M ∧ fd = true ∧ ∃ b n D f, m = .map (some b) ∧ Hid (w''.ownsMap Try.prog 3 RV b n D) ∧ Hid (TbD D f) ∧ Hid (Ech L M N f) ∧ b < w''.heap.size))) ∧ Below w'.heap.size w' w'' := fun k hk w' hB => by
    by_cases e : k < M
    · exact (cNo.out k e w' hB).mono fun e' w'' h => ⟨⟨.map none, false, h.1, .inl ⟨e, rfl⟩⟩, h.2⟩
    · obtain rfl : k = M := by omega
      exact (cYes.out w' hB).mono fun e' w'' h => ⟨by
        obtain ⟨b, n, D, f, h1, h2, h3, h4, h5⟩ := h.1
        exact ⟨.map (some b), true, h1, .inr ⟨rfl, rfl, b, n, D, f, rfl, h2, h3, h4, h5⟩⟩, h.2⟩
  have HK := hid key
  have c0 := key 0 (by omega) w (Below.refl _ _)
  clear key cNo cYes
  go_enter Try.func11, Try.ntmps11
  go_wp2_with (go_at_call 14; refine c0.mono ?_; rintro e w1 ⟨⟨m, fd, rfl, hst⟩, hB1⟩; have HST := hid hst; clear hst c0)
  go_loopw [4, 5, 6] (fun i m fdv wr => ∃ (k : Nat) (fd : Bool), i = .int .i64 (k : Int) ∧ fdv = .bool fd ∧ k ≤ M ∧ Hid ((k < M ∧ fd = false) ∨ (k = M ∧ fd = true ∧ ∃ b n D f, m = .map (some b) ∧ Hid (wr.ownsMap Try.prog 3 RV b n D) ∧ Hid (TbD D f) ∧ Hid (Ech L M N f) ∧ b < wr.heap.size)) ∧ Hid (Below w.heap.size w wr)) (fun i m fdv wr => ((M : Int) - intOf i).toNat)
  case atStart => exact ⟨0, fd, rfl, rfl, by omega, HST, hB1⟩
  case round =>
    obtain ⟨k, fd, rfl, rfl, hk, HST, HB⟩ := hrel
    by_cases hgo : k < M
    · obtain rfl : fd = false := by
        rcases HST.out with ⟨_, h⟩ | ⟨h, _⟩
        · exact h
        · omega
      have c1 := HK.out (k + 1) (by omega) wr HB.out
      have e1 : ((k + 1 : Nat) : Int) = (k : Int) + 1 := by omega
      rw [e1] at c1
      clear HST e1
      go_wp2_with (go_at_call 14; refine c1.mono ?_; rintro e w2 ⟨⟨m2, fd2, rfl, hst⟩, hB2⟩; have HST2 := hid hst; clear hst c1)
      go_roundw
      case rel => exact ⟨k + 1, fd2, by simp, rfl, by omega, HST2, below_trans HB.out hB2⟩
      case measure => exact measK hgo
    · obtain rfl : k = M := by omega
      obtain ⟨rfl, b, n, D, f, rfl, HO, HTB, HE, hb⟩ : fd = true ∧ ∃ b n D f, u5 = .map (some b) ∧ Hid (wr.ownsMap Try.prog 3 RV b n D) ∧ Hid (TbD D f) ∧ Hid (Ech L k N f) ∧ b < wr.heap.size := by
        rcases HST.out with ⟨h, _⟩ | ⟨_, h⟩
        · omega
        · exact h
      have cL := least_any L k N (by omega) b n D f HTB.out HE.out wr HO.out
      clear HST
      go_wp2_with (first
        | (go_at_call 15; refine cL.mono ?_; rintro e w2 ⟨⟨x, y, rfl, hls⟩, hB2⟩
           have HLs := hid hls
           have X8 := hid (Bx.new w2 x y)
           have hBw := hid (below_trans HB.out hB2)
           have hBa := hid (hBw.out.alloc hBw.out.size (.cells #[.int .u64 (x : Int), .int .u64 (y : Int)] 38))
           have hs2 := hBw.out.size
           clear hls)
        | (at_make; refine wpList_make_full _ rfl _ _ 22 rfl (w2.heap.size + 1) 4 i0 (.bool false) 1 Try.underlying22 hi hz0 hz1 .i64 .i64 (k : Int) (k : Int) k rfl rfl rfl rfl (by rw [hz2]; omega) (by unfold maxLen; omega) (by simp) ?_; intro w3 hown3 hgrow3))
      have hO := hid (ownB_made (W := w3) (base := w2.heap.size + 1) (g := w2.heap.size + 1) (n := k) (by simpa using hown3))
      have hX := hid (BoxC.kept X8.out hgrow3 (by simp))
      have hBz := hid (hBa.out.grown hgrow3 hBa.out.size (fun j e => by cases e))
      have hpb := hid (fun j (hj : j < k) => hget.out x y f HE.out HLs.out j hj)
      have hwd := HLs.out.wd
      have hW := hid hwd
      clear hown3 hgrow3 X8 hBa hBw hwd hget HLs HO HTB HE HK cL
      obtain ⟨B8, hB8⟩ : ∃ B8, B8 = w2.heap.size := ⟨_, rfl⟩
      rw [← hB8] at hO hX hs2 ⊢
      clear hB8
      go_loopw [36] (fun i wr => ∃ (j : Nat), i = .int .i64 (j : Int) ∧ j ≤ k ∧ Hid (OwnB wr (B8 + 1) (B8 + 1) k k (fun i => if i < j then pb x y (i + 1) else false)) ∧ Hid (Bx wr B8 x y) ∧ Hid (Below w.heap.size w wr)) (fun i wr => ((k : Int) - intOf i).toNat)
      case atStart => exact ⟨0, rfl, by omega, hO, hX, hBz⟩
      case round =>
        clear hO hX hBz
        obtain ⟨j, rfl, hj, hO, hX, hBz⟩ := hrel
        by_cases hgj : j < k
        · have hgj' : (j : Int) < (k : Int) := by omega
          have c1 := fun w' => has_any x y (j + 1) hW.out (by omega) w'
          have e1 : ((j + 1 : Nat) : Int) = (j : Int) + 1 := by omega
          rw [e1] at c1
          clear e1
          have d0 := hX.out.c0
          have d1 := hX.out.c1
          obtain ⟨q, hq⟩ : ∃ q, q = pb x y (j + 1) := ⟨_, rfl⟩
          have HQ := hid hq
          rw [← hq] at c1
          clear hq
          go_wp2_with (go_at_call 16; refine (c1 _).mono ?_; rintro e w5 ⟨rfl, hB5⟩
                       have O5 := hO.out.below hB5
                       have o1 := O5.cell hgj
                       have o2 := O5.frozen j
                       have HO5 := hid O5
                       have HX5 := hid (hX.out.up hB5)
                       have HB5 := hid (below_trans hBz.out hB5)
                       clear O5 hB5)
          go_roundw
          case rel => exact ⟨j + 1, by simp, by omega, (HO5.out.set j q).congr (fun i hi => by
            unfold upb
            by_cases e : i = j
            · subst e; rw [if_pos rfl, if_pos (by omega), HQ.out]
            · rw [if_neg e]
              show (if i < j then pb x y (i + 1) else false) = _
              by_cases e2 : i < j
              · rw [if_pos e2, if_pos (by omega)]
              · rw [if_neg e2, if_neg (by omega)]), BoxC.other HX5.out (by omega) j _, v_set HB5.out (by omega) j _⟩
          case measure => exact measK hgj
        · have hgj' : ¬ (j : Int) < (k : Int) := by omega
          obtain rfl : j = k := by omega
          have hR := hid hO.out.row
          have hE : Hid (mb j (fun i => if i < j then pb x y (i + 1) else false) = T) := by
            show _ = _
            refine gb_ext (by rw [mb_length]; exact HM.out) (fun i hi => ?_)
            rw [mb_length] at hi
            rw [gb_mb hi, if_pos hi]
            exact hpb.out i hi
          clear hO hX
          go_wp2
          go_ret2
          refine ⟨⟨some ⟨B8 + 1, 0, none⟩, j, by rw [← HM.out]; rfl, by rw [← HM.out]; exact Nat.le_refl _, ?_⟩, hBz.out⟩
          have := hR.out
          rw [hE.out] at this
          exact this

end Go.Proofs.Ytfomanpehfdnbaa.Calls120
