/-
  Split of share, and the document's, with where their rows lie; what stays as it was while one row is written.
-/
import Derived.Test.YtpnmepobdnclkaaCalls89
import Derived.OwnWalk
namespace Go.Proofs.Ytpnmepobdnclkaa.Calls181
set_option linter.unusedVariables false
open Go.ChangeShapes Go.WideShapes Go.ChangeAt Go.RowKit Go.Deep Go.Proofs.Ytpnmepobdnclkaa.Base Go.Proofs.Ytpnmepobdnclkaa.Base2 Go.Proofs.Ytpnmepobdnclkaa.Num Go.Proofs.Ytpnmepobdnclkaa.Num7 Go.Proofs.Ytpnmepobdnclkaa.Num13 Go.Proofs.Ytpnmepobdnclkaa.Num16 Go.Proofs.Ytpnmepobdnclkaa.Num17 Go.Proofs.Ytpnmepobdnclkaa.Num34 Go.Proofs.Ytpnmepobdnclkaa.Num35 Go.Proofs.Ytpnmepobdnclkaa.Num39 Go.Proofs.Ytpnmepobdnclkaa.Base4 Go.Proofs.Ytpnmepobdnclkaa.Calls56 Go.Proofs.Ytpnmepobdnclkaa.Calls57 Go.Proofs.Ytpnmepobdnclkaa.Calls58 Go.Proofs.Ytpnmepobdnclkaa.Calls61 Go.Proofs.Ytpnmepobdnclkaa.Calls69 Go.Proofs.Ytpnmepobdnclkaa.Calls87 Go.Proofs.Ytpnmepobdnclkaa.Calls88
open Go.ChangeShapes Go.WideShapes Go.ChangeAt Go.RowKit Go.Deep Go.Proofs.Ytpnmepobdnclkaa.Base Go.Proofs.Ytpnmepobdnclkaa.Base2 Go.Proofs.Ytpnmepobdnclkaa.Num Go.Proofs.Ytpnmepobdnclkaa.Num7 Go.Proofs.Ytpnmepobdnclkaa.Num13 Go.Proofs.Ytpnmepobdnclkaa.Num16 Go.Proofs.Ytpnmepobdnclkaa.Num17 Go.Proofs.Ytpnmepobdnclkaa.Num34 Go.Proofs.Ytpnmepobdnclkaa.Num35 Go.Proofs.Ytpnmepobdnclkaa.Num39 Go.Proofs.Ytpnmepobdnclkaa.Base4 Go.Proofs.Ytpnmepobdnclkaa.Calls56 Go.Proofs.Ytpnmepobdnclkaa.Calls57 Go.Proofs.Ytpnmepobdnclkaa.Calls67 Go.Proofs.Ytpnmepobdnclkaa.Calls69 Go.Proofs.Ytpnmepobdnclkaa.Calls87
open Go.Proofs.Ytpnmepobdnclkaa.Calls88
open Go.Proofs.Ytpnmepobdnclkaa.Calls89 (add_bd)

/-- What a call's own row of points reads as, and where it lies. -/
theorem prow_fresh {W : World} {base : Nat} {e : TypeId} {v : Value} {n : Nat} {l : List (Int × Int)} (h : W.ownsRow base e 2 v n (flatP l)) :
    ∃ ao cap, v = .slice ao l.length cap ∧ l.length ≤ cap ∧ PRow W ao l ∧ ∀ ad, ao = some ad → base ≤ ad.block := by
  obtain ⟨ao, cap, rfl, h1, h2⟩ := prow_owns h
  refine ⟨ao, cap, rfl, h1, h2, fun ad e => ?_⟩
  subst e
  rcases h.2 with ⟨e, _⟩ | ⟨g, cap, cur, e, hb, _⟩
  · simp at e
  · have := (Value.slice.inj e).1
    rw [Option.some.inj this]; exact hb

/-- The returned slice, of the call's own, reads as r. -/
def RetPO (B : Nat) (r : List (Int × Int)) (e : Ending) (w' : World) : Prop := ∃ bo cb, e = .returned (.slice bo r.length cb) ∧ r.length ≤ cb ∧ PRow w' bo r ∧ ∀ ad, bo = some ad → B ≤ ad.block

def RetPEO (B : Nat) (r : List (Int × Int)) (e : Ending) (w' : World) : Prop := ∃ bo cb, e = .returned (.tuple #[.slice bo r.length cb, .int .i64 0]) ∧ r.length ≤ cb ∧ PRow w' bo r ∧ ∀ ad, bo = some ad → B ≤ ad.block

theorem g_trans {a w w' : World} {row : Option Nat} (h : a.grownBy w row) (k : w.grownBy w' row) : a.grownBy w' row :=
  ⟨k.os.trans h.os, k.tape.trans h.tape, k.output.trans h.output, Nat.le_trans h.size k.size, fun b hb hne => (k.block b (Nat.lt_of_lt_of_le hb h.size) hne).trans (h.block b hb hne)⟩

theorem g_set (w : World) (b i : Nat) (v : Value) : w.grownBy (w.setCell ⟨b, i, none⟩ v) (some b) :=
  ⟨rfl, rfl, rfl, by simp [World.setCell], fun k hk hne => Below.heap_setCell _ _ _ _ (fun e => hne (by rw [e]))⟩

theorem g_drewN (w : World) (d : Nat) (row : Option Nat) : w.grownBy (w.drewN d) row := ⟨rfl, rfl, rfl, Nat.le_refl _, fun _ _ _ => rfl⟩

theorem g_below {w w' : World} {row : Option Nat} (h : Below w.heap.size w w') : w.grownBy w' row := ⟨h.os, h.tape, h.output, h.size, fun b hb _ => h.block b hb⟩

/-- Points stay as they are while another block is written. -/
theorem prow_kept {W W' : World} {ao : Option Addr} {l : List (Int × Int)} {g : Nat} (h : PRow W ao l) (hg : W.grownBy W' (some g)) (hf : ∀ ad, ao = some ad → g < ad.block) : PRow W' ao l := by
  refine ⟨h.1, fun ad e j hj => ?_⟩
  obtain ⟨h1, h2⟩ := h.2 ad e j hj
  have hb := hf ad e
  have hne : ∀ i : Nat, some (ad.add i).block ≠ some g := fun i e' => by
    have : (ad.add i).block = ad.block := by unfold Addr.add; split <;> rfl
    rw [this] at e'
    have := Option.some.inj e'
    omega
  exact ⟨hg.cell h1 (hne _), hg.cell h2 (hne _)⟩

set_option maxRecDepth 100000 in
set_option maxHeartbeats 1000000 in
theorem Split_own (P : Nat) (hP : Pr P) (hP2 : P ≤ 251) (s : Int) (N : Nat) (mo : Option Addr) (cm : Nat) (m : List Int) (hm : m.length ≤ 12) (hg : Gd P s (N : Int) m) (w : World) (hrow : IRow w mo m) :
    Calls Try.prog 41 #[.int .i64 (P : Int), .int .i64 s, .slice mo m.length cm, .int .i64 (N : Int)] w fun e w' => RetPEO w.heap.size (shl P s m N) e w' ∧ Below w.heap.size w w' := by
  obtain ⟨i0, hi, hz0, hz1, hz2⟩ := infoPt_ex
  have hp1 : 1 ≤ P := by have := hP.1; omega
  have cC := checkSplit_any (P : Int) s (N : Int) mo cm m (by omega) 0 (SpC.of hP hP2 hm hg) w hrow
  have cQ := fun w' (hB : Below w.heap.size w w') => shPoly_any s mo cm m hm w' (ib hrow hB)
  have hN : N < P := by have := hg.2.2.2; omega
  have hcn : Cn P (tr (s :: m)) := tr_cn (gd_bd hg)
  have hal : (tr (s :: m)).length ≤ 13 := by have := tr_length (s :: m); simp at this; omega
  have cA := fun (o1 : Option Addr) (c1 k : Nat) (hk : k < N) w' (r : IRow w' o1 (tr (s :: m))) => At_yes P hP hP2 o1 c1 (tr (s :: m)) hal hcn ((k : Int) + 1) ⟨by omega, by omega⟩ w' r
  simp only [rs_tr hp1] at cA
  have hst := hid (fun k => shl_succ P s m k)
  have hlen := hid (fun k => shl_length P s m k)
  have hs0 : Hid (shl P s m 0 = []) := rfl
  obtain ⟨yv, hyv⟩ : ∃ yv : Nat → Int, ∀ k : Nat, ev (s :: m) ((k : Int) + 1) % (P : Int) = yv k := ⟨_, fun _ => rfl⟩
  simp only [hyv] at cA hst
  generalize shl P s m = L at *
  generalize tr (s :: m) = a at *
  generalize m.length = nm at *
  clear hrow hg hcn hyv hP
  go_enter Try.func41, Try.ntmps41
  go_wp2_with (first
    | (go_at_call 50; refine cC.mono ?_; rintro e w1 ⟨rfl, hB⟩)
    | (go_at_call 51; refine (cQ _ hB).mono ?_; rintro e W ⟨⟨bo, cb, rfl, hcb, hr⟩, hB2⟩; have HR := hid hr; have HB := hid (below_trans hB hB2); clear hr hB2))
  clear cC cQ hB
  go_loopw [12, 13] (fun v x wr => ∃ k : Nat, x = .int .i64 ((k : Int) + 1) ∧ k ≤ N ∧ Hid (wr.ownsRow W.heap.size 30 2 v k (flatP (L k))) ∧ Hid (Below W.heap.size W wr)) (fun v x wr => ((N : Int) + 1 - intOf x).toNat)
  case atStart => exact ⟨0, rfl, by omega, by show World.ownsRow _ _ _ _ _ _ _; rw [hs0.out]; exact World.ownsRow_nil _ _ _ _, Below.refl _ _⟩
  case round =>
    obtain ⟨k, rfl, hk, HO, HBr⟩ := hrel
    by_cases hgo : k < N
    · have hgo' : (k : Int) + 1 ≤ (N : Int) := by omega
      have cK := cA bo cb k hgo wr (ib HR.out HBr.out)
      have hsn : Hid (flatP (L (k + 1)) = flatP (L k) ++ [.int .i64 ((k : Int) + 1), .int .i64 (yv k)]) := by show _ = _; rw [hst.out k, flatP_snoc]
      generalize yv k = y at *
      have hBs := HBr.out.size
      go_wp2_with (first
        | (go_at_call 49; refine cK.mono ?_; rintro e w2 ⟨rfl, hB2⟩; have HO2 := hid (owns_below HO.out hB2); have HB2 := hid (below_trans HBr.out hB2); have hs2 := HB2.out.size; clear hB2)
        | (at_builtin; refine wpList_append_own _ rfl _ _ 28 rfl W.heap.size 30 i0 (.agg #[.int .i64 0, .int .i64 0]) 2 16 Try.underlying28 hi hz0 hz1 hz2 rfl (by decide) _ _ _ rfl (HO2.out.alloc _) ⟨w2.heap.size, 0, none⟩ 1 1 [.int .i64 ((k : Int) + 1), .int .i64 y] rfl rfl pair_cells (by simp [Value.oneCell']) (by unfold maxLen; omega) (by omega) (by simp; omega) ?_; intro v' w3 hown' hgrow _; have HO3 := hid hown'; have HB3 := hid (below_snoc HB2.out (Nat.le_refl _) HO2.out hgrow); clear hown' hgrow))
      go_roundw
      case rel => exact ⟨k + 1, by simp, by omega, by show World.ownsRow _ _ _ _ _ _ _; rw [hsn.out]; exact HO3.out, HB3⟩
      case measure => exact measX hgo
    · have hgo' : ¬ (k : Int) + 1 ≤ (N : Int) := by omega
      obtain rfl : k = N := by omega
      obtain ⟨po, pc, rfl, e2, e3, e4⟩ := prow_fresh HO.out
      have H3 := hid e3
      have H4 := hid e4
      clear e3 e4
      go_wp2
      go_ret2
      exact ⟨⟨po, pc, rfl, e2, H3.out, fun ad e => Nat.le_trans HB.out.size (H4.out ad e)⟩, below_trans HB.out HBr.out⟩

set_option maxRecDepth 100000 in
set_option maxHeartbeats 1000000 in
theorem refSplit_own (P : Nat) (hP : 2 ≤ P) (hP2 : P ≤ 251) (s : Int) (N : Nat) (mo : Option Addr) (cm : Nat) (m : List Int) (hm : m.length ≤ 12) (hg : Gd P s (N : Int) m) (w : World) (hrow : IRow w mo m) :
    Calls Try.prog 33 #[.int .i64 (P : Int), .int .i64 s, .slice mo m.length cm, .int .i64 (N : Int)] w fun e w' => RetPO w.heap.size (shl P s m N) e w' ∧ Below w.heap.size w w' := by
  obtain ⟨i0, hi, hz0, hz1, hz2⟩ := infoPt_ex
  have hp1 : 1 ≤ P := by omega
  have hp0 : ¬ (P : Int) = 0 := by omega
  have hN : N < P := by have := hg.2.2.2; omega
  have hst := hid (fun k => shl_succ P s m k)
  have hs0 : Hid (shl P s m 0 = []) := rfl
  obtain ⟨nm, hnm⟩ : ∃ nm, nm = m.length := ⟨_, rfl⟩
  have HNM : Hid (nm = m.length) := hnm
  have hdone : Hid (∀ x, sy P s m x nm = ev (s :: m) x % (P : Int)) := fun x => by rw [hnm]; exact sy_done P s m x
  have HR := hid hrow
  have HG := hid hg
  rw [← hnm] at hm ⊢
  clear hnm hrow hg
  go_enter Try.func33, Try.ntmps33
  go_wp2
  go_loopw [9, 10] (fun v x wr => ∃ k : Nat, x = .int .i64 ((k : Int) + 1) ∧ k ≤ N ∧ Hid (wr.ownsRow w.heap.size 30 2 v k (flatP (shl P s m k))) ∧ Hid (Below w.heap.size w wr)) (fun v x wr => ((N : Int) + 1 - intOf x).toNat)
  case atStart => exact ⟨0, rfl, by omega, by show World.ownsRow _ _ _ _ _ _ _; rw [hs0.out]; exact World.ownsRow_nil _ _ _ _, Below.refl _ _⟩
  case round =>
    obtain ⟨k, rfl, hk, HO, HB⟩ := hrel
    by_cases hgo : k < N
    · have hgo' : (k : Int) + 1 ≤ (N : Int) := by omega
      obtain ⟨X, hX⟩ : ∃ X : Int, X = (k : Int) + 1 := ⟨_, rfl⟩
      have HX := hid hX
      have hxb : 0 ≤ X ∧ X < (P : Int) := by omega
      have hXN : X ≤ (N : Int) := by omega
      rw [← hX]
      clear hX hgo'
      have hsz := HB.out.size
      go_wp2
      go_loop [11, 12, 23] (fun vy vq vi => ∃ (j : Nat) (y q : Int), vy = .int .i64 y ∧ vq = .int .i64 q ∧ vi = .int .i64 (j : Int) ∧ j ≤ nm ∧ (0 ≤ y ∧ y < (P : Int)) ∧ (0 ≤ q ∧ q < (P : Int)) ∧ Hid (y = sy P s m X j) ∧ Hid (q = sp P X j)) (fun vy vq vi => ((nm : Int) - intOf vi).toNat)
      case atStart => exact ⟨0, s, 1, rfl, rfl, rfl, by omega, HG.out.1, ⟨by omega, by omega⟩, (sy_zero HG.out.1 m X).symm, (sp_zero hP X).symm⟩
      case round =>
        obtain ⟨j, y, q, rfl, rfl, rfl, hj, hy, hq, HY, HQ⟩ := hrel
        by_cases hgj : j < nm
        · have hgj' : (j : Int) < (nm : Int) := by omega
          have hjl : Hid (j < m.length) := by have := HNM.out; show j < m.length; omega
          rcases mo with _ | ad
          · exact (irow_none HR.out hjl.out).elim
          · have d0 := (ib HR.out HB.out).2 ad rfl j hjl.out
            have hc := HG.out.2.1.at hp1 j
            have e1 : q * X % (P : Int) = sp P X (j + 1) := by rw [HQ.out]; exact sp_step P X j
            have hq2 := sp_bd hp1 X (j + 1)
            have e2 : (y + co m j * sp P X (j + 1)) % (P : Int) = sy P s m X (j + 1) := by rw [HY.out]; exact sy_step hp1 s m X hjl.out
            have hy2 := sy_bd hp1 s m X (j + 1)
            have b1 := mul_bd hq hxb hP2
            have b2 := mul_bd hc hq2 hP2
            obtain ⟨q2, hq2e⟩ : ∃ q2, q2 = sp P X (j + 1) := ⟨_, rfl⟩
            obtain ⟨y2, hy2e⟩ : ∃ y2, y2 = sy P s m X (j + 1) := ⟨_, rfl⟩
            rw [← hq2e] at e1 hq2 e2 b2
            rw [← hy2e] at e2 hy2
            have HQ2 := hid hq2e
            have HY2 := hid hy2e
            generalize co m j = c at *
            have b3 := add_bd hy b2 hP2
            clear hq2e hy2e
            obtain ⟨b11, b12⟩ := b1
            obtain ⟨b21, b22⟩ := b2
            obtain ⟨b31, b32⟩ := b3
            go_wp2
            go_round
            case rel => exact ⟨j + 1, y2, q2, by first | rfl | rw [e2], by rw [e1], by simp, by omega, hy2, hq2, HY2, HQ2⟩
            case measure => exact measK hgj
        · have hgj' : ¬ (j : Int) < (nm : Int) := by omega
          obtain rfl : j = nm := by omega
          have hsn : Hid (flatP (shl P s m (k + 1)) = flatP (shl P s m k) ++ [.int .i64 X, .int .i64 y]) := by show _ = _; rw [hst.out k, flatP_snoc, HY.out, hdone.out X, HX.out]
          go_wp2_with (at_builtin; refine wpList_append_own _ rfl _ _ 28 rfl w.heap.size 30 i0 (.agg #[.int .i64 0, .int .i64 0]) 2 16 Try.underlying28 hi hz0 hz1 hz2 rfl (by decide) _ _ _ rfl (HO.out.alloc _) ⟨wr.heap.size, 0, none⟩ 1 1 [.int .i64 X, .int .i64 y] rfl rfl pair_cells (by simp [Value.oneCell']) (by unfold maxLen; omega) (by omega) (by simp; omega) ?_; intro v' w3 hown' hgrow _; have HO3 := hid hown'; have HB3 := hid (below_snoc HB.out (Nat.le_refl _) HO.out hgrow); clear hown' hgrow)
          go_roundw
          case rel => exact ⟨k + 1, by rw [HX.out]; simp, by omega, by show World.ownsRow _ _ _ _ _ _ _; rw [hsn.out]; exact HO3.out, HB3⟩
          case measure => rw [HX.out]; exact measX hgo
    · have hgo' : ¬ (k : Int) + 1 ≤ (N : Int) := by omega
      obtain rfl : k = N := by omega
      obtain ⟨po, pc, rfl, e2, e3, e4⟩ := prow_fresh HO.out
      have H3 := hid e3
      have H4 := hid e4
      clear e3 e4
      go_wp2
      go_ret
      exact ⟨⟨po, pc, rfl, e2, H3.out, H4.out⟩, HB.out⟩

end Go.Proofs.Ytpnmepobdnclkaa.Calls181
