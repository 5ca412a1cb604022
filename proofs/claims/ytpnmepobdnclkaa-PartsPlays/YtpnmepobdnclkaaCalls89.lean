/-
  The document's shares, and when two lists of points are the same.
-/
import Derived.Test.YtpnmepobdnclkaaCalls61
import Derived.Test.YtpnmepobdnclkaaCalls88
namespace Go.Proofs.Ytpnmepobdnclkaa.Calls89
set_option linter.unusedVariables false
open Go.ChangeShapes Go.WideShapes Go.ChangeAt Go.RowKit Go.Deep Go.Proofs.Ytpnmepobdnclkaa.Base Go.Proofs.Ytpnmepobdnclkaa.Base2 Go.Proofs.Ytpnmepobdnclkaa.Num Go.Proofs.Ytpnmepobdnclkaa.Num7 Go.Proofs.Ytpnmepobdnclkaa.Num13 Go.Proofs.Ytpnmepobdnclkaa.Num16 Go.Proofs.Ytpnmepobdnclkaa.Num17 Go.Proofs.Ytpnmepobdnclkaa.Num34 Go.Proofs.Ytpnmepobdnclkaa.Num35 Go.Proofs.Ytpnmepobdnclkaa.Num39 Go.Proofs.Ytpnmepobdnclkaa.Base4 Go.Proofs.Ytpnmepobdnclkaa.Calls56 Go.Proofs.Ytpnmepobdnclkaa.Calls57 Go.Proofs.Ytpnmepobdnclkaa.Calls58 Go.Proofs.Ytpnmepobdnclkaa.Calls61 Go.Proofs.Ytpnmepobdnclkaa.Calls69 Go.Proofs.Ytpnmepobdnclkaa.Calls87 Go.Proofs.Ytpnmepobdnclkaa.Calls88

theorem add_bd {a b : Int} {P : Nat} (ha : 0 ≤ a ∧ a < (P : Int)) (hb : 0 ≤ b ∧ b ≤ 63001) (hP : P ≤ 251) : 0 ≤ a + b ∧ a + b ≤ 1048576 := by omega

set_option maxRecDepth 100000 in
set_option maxHeartbeats 1000000 in
theorem refSplit_any (P : Nat) (hP : 2 ≤ P) (hP2 : P ≤ 251) (s : Int) (N : Nat) (mo : Option Addr) (cm : Nat) (m : List Int) (hm : m.length ≤ 12) (hg : Gd P s (N : Int) m) (w : World) (hrow : IRow w mo m) :
    Calls Try.prog 33 #[.int .i64 (P : Int), .int .i64 s, .slice mo m.length cm, .int .i64 (N : Int)] w fun e w' => RetP (shl P s m N) e w' ∧ Below w.heap.size w w' := by
  obtain ⟨i0, hi, hz0, hz1, hz2⟩ := infoPt_ex
  have hp1 : 1 ≤ P := by omega
  have hp0 : ¬ (P : Int) = 0 := by omega
  have hN : N < P := by have := hg.2.2.2; omega
  have hst := hid (fun k => shl_succ P s m k)
  have hs0 : Hid (shl P s m 0 = []) := rfl
  obtain ⟨nm, hnm⟩ : ∃ nm, nm = m.length := ⟨_, rfl⟩
  have HNM : Hid (nm = m.length) := hnm
  have hdone : Hid (∀ x, sy P s m x nm = ev (s :: m) x % (P : Int)) := fun x => by rw [hnm]; exact sy_done P s m x
  have HR := hid hrow
  have HG := hid hg
  rw [← hnm] at hm ⊢
  clear hnm hrow hg
  go_enter Try.func33, Try.ntmps33
  go_wp2
  go_loopw [9, 10] (fun v x wr => ∃ k : Nat, x = .int .i64 ((k : Int) + 1) ∧ k ≤ N ∧ Hid (wr.ownsRow w.heap.size 30 2 v k (flatP (shl P s m k))) ∧ Hid (Below w.heap.size w wr)) (fun v x wr => ((N : Int) + 1 - intOf x).toNat)
  case atStart => exact ⟨0, rfl, by omega, by show World.ownsRow _ _ _ _ _ _ _; rw [hs0.out]; exact World.ownsRow_nil _ _ _ _, Below.refl _ _⟩
  case round =>
    obtain ⟨k, rfl, hk, HO, HB⟩ := hrel
    by_cases hgo : k < N
    · have hgo' : (k : Int) + 1 ≤ (N : Int) := by omega
      obtain ⟨X, hX⟩ : ∃ X : Int, X = (k : Int) + 1 := ⟨_, rfl⟩
      have HX := hid hX
      have hxb : 0 ≤ X ∧ X < (P : Int) := by omega
      have hXN : X ≤ (N : Int) := by omega
      rw [← hX]
      clear hX hgo'
      have hsz := HB.out.size
      go_wp2
      go_loop [11, 12, 23] (fun vy vq vi => ∃ (j : Nat) (y q : Int), vy = .int .i64 y ∧ vq = .int .i64 q ∧ vi = .int .i64 (j : Int) ∧ j ≤ nm ∧ (0 ≤ y ∧ y < (P : Int)) ∧ (0 ≤ q ∧ q < (P : Int)) ∧ Hid (y = sy P s m X j) ∧ Hid (q = sp P X j)) (fun vy vq vi => ((nm : Int) - intOf vi).toNat)
      case atStart => exact ⟨0, s, 1, rfl, rfl, rfl, by omega, HG.out.1, ⟨by omega, by omega⟩, (sy_zero HG.out.1 m X).symm, (sp_zero hP X).symm⟩
      case round =>
        obtain ⟨j, y, q, rfl, rfl, rfl, hj, hy, hq, HY, HQ⟩ := hrel
        by_cases hgj : j < nm
        · have hgj' : (j : Int) < (nm : Int) := by omega
          have hjl : Hid (j < m.length) := by have := HNM.out; show j < m.length; omega
          rcases mo with _ | ad
          · exact (irow_none HR.out hjl.out).elim
          · have d0 := (ib HR.out HB.out).2 ad rfl j hjl.out
            have hc := HG.out.2.1.at hp1 j
            have e1 : q * X % (P : Int) = sp P X (j + 1) := by rw [HQ.out]; exact sp_step P X j
            have hq2 := sp_bd hp1 X (j + 1)
            have e2 : (y + co m j * sp P X (j + 1)) % (P : Int) = sy P s m X (j + 1) := by rw [HY.out]; exact sy_step hp1 s m X hjl.out
            have hy2 := sy_bd hp1 s m X (j + 1)
            have b1 := mul_bd hq hxb hP2
            have b2 := mul_bd hc hq2 hP2
            obtain ⟨q2, hq2e⟩ : ∃ q2, q2 = sp P X (j + 1) := ⟨_, rfl⟩
            obtain ⟨y2, hy2e⟩ : ∃ y2, y2 = sy P s m X (j + 1) := ⟨_, rfl⟩
            rw [← hq2e] at e1 hq2 e2 b2
            rw [← hy2e] at e2 hy2
            have HQ2 := hid hq2e
            have HY2 := hid hy2e
            generalize co m j = c at *
            have b3 := add_bd hy b2 hP2
            clear hq2e hy2e
            obtain ⟨b11, b12⟩ := b1
            obtain ⟨b21, b22⟩ := b2
            obtain ⟨b31, b32⟩ := b3
            go_wp2
            go_round
            case rel => exact ⟨j + 1, y2, q2, by first | rfl | rw [e2], by rw [e1], by simp, by omega, hy2, hq2, HY2, HQ2⟩
            case measure => exact measK hgj
        · have hgj' : ¬ (j : Int) < (nm : Int) := by omega
          obtain rfl : j = nm := by omega
          have hsn : Hid (flatP (shl P s m (k + 1)) = flatP (shl P s m k) ++ [.int .i64 X, .int .i64 y]) := by show _ = _; rw [hst.out k, flatP_snoc, HY.out, hdone.out X, HX.out]
          go_wp2_with (at_builtin; refine wpList_append_own _ rfl _ _ 28 rfl w.heap.size 30 i0 (.agg #[.int .i64 0, .int .i64 0]) 2 16 Try.underlying28 hi hz0 hz1 hz2 rfl (by decide) _ _ _ rfl (HO.out.alloc _) ⟨wr.heap.size, 0, none⟩ 1 1 [.int .i64 X, .int .i64 y] rfl rfl pair_cells (by simp [Value.oneCell']) (by unfold maxLen; omega) (by omega) (by simp; omega) ?_; intro v' w3 hown' hgrow _; have HO3 := hid hown'; have HB3 := hid (below_snoc HB.out (Nat.le_refl _) HO.out hgrow); clear hown' hgrow)
          go_roundw
          case rel => exact ⟨k + 1, by rw [HX.out]; simp, by omega, by show World.ownsRow _ _ _ _ _ _ _; rw [hsn.out]; exact HO3.out, HB3⟩
          case measure => rw [HX.out]; exact measX hgo
    · have hgo' : ¬ (k : Int) + 1 ≤ (N : Int) := by omega
      obtain rfl : k = N := by omega
      obtain ⟨po, pc, rfl, e2, e3⟩ := prow_owns HO.out
      have H3 := hid e3
      clear e3
      go_wp2
      go_ret
      exact ⟨⟨po, pc, rfl, e2, H3.out⟩, HB.out⟩

end Go.Proofs.Ytpnmepobdnclkaa.Calls89
