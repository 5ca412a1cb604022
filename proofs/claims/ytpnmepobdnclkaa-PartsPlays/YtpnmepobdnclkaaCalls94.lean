/-
  Some of the points, by a mask.
-/
import Derived.Test.YtpnmepobdnclkaaCalls88
namespace Go.Proofs.Ytpnmepobdnclkaa.Calls94
set_option linter.unusedVariables false
open Go.ChangeShapes Go.WideShapes Go.ChangeAt Go.RowKit Go.Deep Go.Proofs.Ytpnmepobdnclkaa.Base Go.Proofs.Ytpnmepobdnclkaa.Base2 Go.Proofs.Ytpnmepobdnclkaa.Num16 Go.Proofs.Ytpnmepobdnclkaa.Num34 Go.Proofs.Ytpnmepobdnclkaa.Base4 Go.Proofs.Ytpnmepobdnclkaa.Calls69 Go.Proofs.Ytpnmepobdnclkaa.Calls87 Go.Proofs.Ytpnmepobdnclkaa.Calls88

/-- Is the bit set? -/
def bitM (M i : Nat) : Bool := decide (((M : Int) / 2 ^ i).tmod 2 = 1)

/-- Those of the first k whose bits are set. -/
def fewL (M : Nat) (l : List (Int × Int)) : Nat → List (Int × Int)
  | 0 => []
  | k + 1 => if bitM M k = true then fewL M l k ++ [l.getD k (0, 0)] else fewL M l k

theorem fewL_len (M : Nat) (l : List (Int × Int)) (k : Nat) : (fewL M l k).length ≤ k := by
  induction k with
  | zero => exact Nat.le_refl _
  | succ k ih =>
    show (if bitM M k = true then fewL M l k ++ [l.getD k (0, 0)] else fewL M l k).length ≤ k + 1
    split
    · simp; omega
    · omega

set_option maxRecDepth 100000 in
set_option maxHeartbeats 1000000 in
theorem few_any (ao : Option Addr) (cap : Nat) (l : List (Int × Int)) (hl : l.length ≤ 251) (M : Nat) (hM : M < 4294967296) (w : World) (hrow : PRow w ao l) :
    Calls Try.prog 19 #[.slice ao l.length cap, .int .u32 (M : Int)] w fun e w' => RetP (fewL M l (min l.length 32)) e w' ∧ Below w.heap.size w w' := by
  obtain ⟨i0, hi, hz0, hz1, hz2⟩ := infoPt_ex
  obtain ⟨N, hN⟩ : ∃ N, N = l.length := ⟨_, rfl⟩
  have HN : Hid (N = l.length) := hN
  obtain ⟨T, hT⟩ : ∃ T, T = min N 32 := ⟨_, rfl⟩
  have HT := hid hT
  have hT1 : T ≤ N := by omega
  have hT2 : T ≤ 32 := by omega
  rw [← hN] at hl ⊢
  rw [← hT]
  clear hN hT
  go_enter Try.func19, Try.ntmps19
  go_wp2
  go_loopw [5, 6] (fun v i wr => ∃ (k n : Nat), i = .int .i64 (k : Int) ∧ k ≤ T ∧ n ≤ k ∧ Hid (n = (fewL M l k).length) ∧ Hid (wr.ownsRow w.heap.size 30 2 v n (flatP (fewL M l k))) ∧ Hid (Below w.heap.size w wr)) (fun v i wr => ((T : Int) - intOf i).toNat)
  case atStart => exact ⟨0, 0, rfl, by omega, by omega, rfl, World.ownsRow_nil _ _ _ _, Below.refl _ _⟩
  case round =>
    obtain ⟨k, n, rfl, hk, hn, HL, HO, HB⟩ := hrel
    by_cases hgo : k < T
    · have hgo' : (k : Int) < (N : Int) := by omega
      have hgo2 : (k : Int) < 32 := by omega
      have hkl : Hid (k < l.length) := by have := HN.out; show k < l.length; omega
      rcases ao with _ | ad
      · exact (prow_none hrow hkl.out).elim
      · obtain ⟨c1, c2⟩ := pcell (pb hrow HB.out) hkl.out
        have hsz := HB.out.size
        have hy : Hid (bitM M k = true → flatP (fewL M l (k + 1)) = flatP (fewL M l k) ++ [.int .i64 (px l k), .int .i64 (py l k)] ∧ (fewL M l (k + 1)).length = (fewL M l k).length + 1) := fun h => by
          rw [show fewL M l (k + 1) = fewL M l k ++ [(px l k, py l k)] from if_pos h, flatP_snoc]
          simp
        have hno : Hid (bitM M k = false → fewL M l (k + 1) = fewL M l k) := fun h => if_neg (by rw [h]; decide)
        generalize px l k = x at *
        generalize py l k = y at *
        cases hb : bitM M k with
        | true =>
          obtain ⟨y1, y2⟩ := hy.out hb
          have HY := hid y1
          have HY2 := hid y2
          clear y1 y2 hy hno
          have hbt : ((M : Int) / 2 ^ k).tmod 2 = 1 := of_decide_eq_true hb
          clear hb
          go_wp2_with (at_builtin; refine wpList_append_own _ rfl _ _ 28 rfl w.heap.size 30 i0 (.agg #[.int .i64 0, .int .i64 0]) 2 16 Try.underlying28 hi hz0 hz1 hz2 rfl (by decide) _ _ _ rfl (HO.out.alloc _) ⟨wr.heap.size, 0, none⟩ 1 1 [.int .i64 x, .int .i64 y] rfl rfl pair_cells (by simp [Value.oneCell']) (by unfold maxLen; omega) (by omega) (by simp; omega) ?_; intro v' w3 hown' hgrow _; have HO3 := hid hown'; have HB3 := hid (below_snoc HB.out (Nat.le_refl _) HO.out hgrow); clear hown' hgrow)
          go_roundw
          case rel => exact ⟨k + 1, n + 1, by simp, by omega, by omega, hid (by rw [HY2.out, HL.out]), hid (by rw [HY.out]; exact HO3.out), HB3⟩
          case measure => exact measK hgo
        | false =>
          have HF := hid (hno.out hb)
          clear hy hno
          have hbt : (((M : Int) / 2 ^ k).tmod 2 == 1) = false := by simpa using of_decide_eq_false hb
          clear hb
          go_wp2
          go_roundw
          case rel => exact ⟨k + 1, n, by simp, by omega, by omega, hid (by rw [HF.out, HL.out]), hid (by rw [HF.out]; exact HO.out), HB⟩
          case measure => exact measK hgo
    · obtain rfl : k = T := by omega
      obtain ⟨po, pc, rfl, e2, e3⟩ := prow_owns HO.out
      have H3 := hid e3
      clear e3
      by_cases h1 : k < N
      · have h1' : (k : Int) < (N : Int) := by omega
        have h2 : ¬ (k : Int) < 32 := by have := HT.out; omega
        go_wp2
        go_ret
        exact ⟨⟨po, pc, rfl, e2, H3.out⟩, HB.out⟩
      · have h1' : ¬ (k : Int) < (N : Int) := by omega
        go_wp2
        go_ret
        exact ⟨⟨po, pc, rfl, e2, H3.out⟩, HB.out⟩

end Go.Proofs.Ytpnmepobdnclkaa.Calls94
