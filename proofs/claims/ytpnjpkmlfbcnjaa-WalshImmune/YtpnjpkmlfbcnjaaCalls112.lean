/-
  Package walsh: Waves and Anf.
-/
import Derived.Test.YtpnjpkmlfbcnjaaCalls111
namespace Go.Proofs.Ytpnjpkmlfbcnjaa.Calls112
set_option linter.unusedVariables false
open Go.ChangeShapes Go.WideShapes Go.ChangeAt Go.RowKit Go.Deep Go.Proofs.Ytpnjpkmlfbcnjaa.Base Go.Proofs.Ytpnjpkmlfbcnjaa.Base2 Go.Proofs.Ytpnjpkmlfbcnjaa.Num34 Go.Proofs.Ytpnjpkmlfbcnjaa.Base4 Go.Proofs.Ytpnjpkmlfbcnjaa.Base6 Go.Proofs.Ytpnjpkmlfbcnjaa.Num41 Go.Proofs.Ytpnjpkmlfbcnjaa.Num42 Go.Proofs.Ytpnjpkmlfbcnjaa.Num57 Go.Proofs.Ytpnjpkmlfbcnjaa.Num58 Go.Proofs.Ytpnjpkmlfbcnjaa.Calls110 Go.Proofs.Ytpnjpkmlfbcnjaa.Calls111

theorem pairA : PairOk 24 (fun a => -32 ≤ a ∧ a ≤ 32) pA qA := by
  intro a b ha hb w
  go_enter Try.func24, Try.ntmps24
  go_wp2
  go_ret2
  exact ⟨rfl, rfl⟩

theorem xor_two (a b : Int) (ha : a = 0 ∨ a = 1) (hb : b = 0 ∨ b = 1) : bits .xor .i64 a b = (a + b) % 2 := by
  rcases ha with rfl | rfl <;> rcases hb with rfl | rfl <;> decide +kernel

theorem pairX : PairOk 25 (fun a => a = 0 ∨ a = 1) pX qX := by
  intro a b ha hb w
  have hx := xor_two a b ha hb
  have ha1 : 0 ≤ a ∧ a ≤ 1 := by omega
  have hb1 : 0 ≤ b ∧ b ≤ 1 := by omega
  clear ha hb
  show Calls _ _ _ _ fun e w' => e = .returned (.tuple #[.int .i64 a, .int .i64 ((a + b) % 2)]) ∧ w' = w
  go_enter Try.func25, Try.ntmps25
  go_wp2
  go_ret2
  exact ⟨rfl, rfl⟩

theorem sn_bd (f x : Nat) : -1 ≤ sn (bv f x) ∧ sn (bv f x) ≤ 1 := by
  unfold sn
  have := bv_two f x
  omega

/-- The first k as signs, the others as bits. -/
def sgk (f k y : Nat) : Int := if y < k then sn (bv f y) else bv f y

theorem sgk_step (f k : Nat) : up1 (sgk f k) k (sn (bv f k)) = sgk f (k + 1) := by
  funext y
  unfold sgk up1
  by_cases e : y = k
  · rw [if_pos e, if_pos (by omega), e]
  · rw [if_neg e]
    show (if y < k then _ else _) = _
    by_cases e2 : y < k
    · rw [if_pos e2, if_pos (by omega)]
    · rw [if_neg e2, if_neg (by omega)]

set_option maxRecDepth 100000 in
theorem Waves_yes (n N f : Nat) (hf : f < 4294967296) (hF : FnOk (n : Int) f) (hn : n ≤ 5) (hN : N = 2 ^ n) (w : World) :
    Calls Try.prog 9 #[.int .i64 (n : Int), .int .u32 (f : Int)] w fun e w' => e = .returned (.tuple #[.slice (some ⟨w.heap.size, 0, none⟩) N N, .int .i64 0]) ∧ OwnE 3 w' w.heap.size w.heap.size N N (wf n f) ∧ Below w.heap.size w w' := by
  have cO := outside_any (n : Int) f hf false (by simp [hF]) w
  have cV := values_any f n N hf hn hN w
  have cT := fun W (h : OwnE 3 W w.heap.size w.heap.size N N (fun x => sn (bv f x))) => turn_any 24 _ pA qA (enters_of Try.func24 (by decide) rfl) pairA (fun x => sn (bv f x)) n N w.heap.size w.heap.size hn hN (fun k x hk => by
    have := tn_big (g := fun x => sn (bv f x)) (fun x => sn_bd f x) k x
    have h2 : (2 : Int) ^ k ≤ 32 := by
      rcases (show k = 0 ∨ k = 1 ∨ k = 2 ∨ k = 3 ∨ k = 4 by omega) with rfl | rfl | rfl | rfl | rfl <;> decide
    omega) W h
  have hD : Hid (∀ i, i < N → tn pA qA (fun x => sn (bv f x)) n i = wf n f i) := fun i hi => tn_wv n _ i (by rw [← hN]; exact hi)
  have hNN := pow_n hn hN
  clear hF hN
  go_enter Try.func9, Try.ntmps9
  go_wp2_with (first
    | (go_at_call 21; refine cO.mono ?_; rintro e w' ⟨rfl, hw⟩; subst w')
    | (go_at_call 22; refine cV.mono ?_; rintro e w1 ⟨rfl, hO, hB⟩; clear cV cO))
  have O1 : Hid (OwnE 3 w1 w.heap.size w.heap.size N N (sgk f 0)) := hO.congr (fun i _ => by unfold sgk; rw [if_neg (by omega)])
  have B1 := hid hB
  clear hO hB
  go_loopw [17] (fun i wr => ∃ k : Nat, i = .int .i64 (k : Int) ∧ k ≤ N ∧ Hid (OwnE 3 wr w.heap.size w.heap.size N N (sgk f k)) ∧ Hid (Below w.heap.size w wr)) (fun i wr => ((N : Int) - intOf i).toNat)
  case atStart => exact ⟨0, rfl, by omega, O1, B1⟩
  case round =>
    obtain ⟨k, rfl, hk, hO, hB⟩ := hrel
    by_cases hgo : k < N
    · have hgo' : (k : Int) < (N : Int) := by omega
      have hc := hO.out.cell hgo
      have hfr := hO.out.frozen k
      have e0 : sgk f k k = bv f k := by unfold sgk; rw [if_neg (by omega)]
      rw [e0] at hc
      have hO2 := hid (hO.out.set k (sn (bv f k)))
      have hB2 := hid (below_set hB.out (Nat.le_refl _) k (.int .i64 (sn (bv f k))))
      rw [sgk_step] at hO2
      have h2 := bv_two f k
      have hsn : sn (bv f k) = 1 - 2 * bv f k := rfl
      rw [hsn] at hO2 hB2
      generalize bv f k = b at *
      have hb : 0 ≤ b ∧ b ≤ 1 := by omega
      clear h2 hsn e0 cT
      go_wp2
      go_roundw
      case rel => exact ⟨k + 1, by simp, by omega, hO2, hB2⟩
      case measure => exact measK hgo
    · have hgo' : ¬ (k : Int) < (N : Int) := by omega
      obtain rfl : k = N := by omega
      have cT2 := cT wr (hO.out.congr (fun i hi => by unfold sgk; rw [if_pos hi]))
      clear cT
      go_wp2_with (go_at_call 23; refine cT2.mono ?_; rintro e w2 ⟨rfl, hO2, hB2⟩)
      go_ret2
      exact ⟨rfl, hO2.congr hD.out, hB.out.trans hB2⟩

theorem Waves_no (n : Int) (f : Nat) (hf : f < 4294967296) (hF : ¬ FnOk n f) (w : World) :
    Calls Try.prog 9 #[.int .i64 n, .int .u32 (f : Int)] w fun e w' => e = .returned (.tuple #[.slice none 0 0, .int .i64 2]) ∧ w' = w := by
  have cO := outside_any n f hf true (by simp [hF]) w
  clear hF
  go_enter Try.func9, Try.ntmps9
  go_wp2_with (go_at_call 21; refine cO.mono ?_; rintro e w' ⟨rfl, hw⟩; subst w')
  go_ret2
  exact ⟨rfl, rfl⟩

theorem pow_pow5 {n : Nat} (hn : n ≤ 5) : 2 ^ 2 ^ n ≤ 4294967296 := by
  rcases (show n = 0 ∨ n = 1 ∨ n = 2 ∨ n = 3 ∨ n = 4 ∨ n = 5 by omega) with rfl | rfl | rfl | rfl | rfl | rfl <;> decide +kernel

theorem bs_u32 {h : Nat → Nat} (hh : ∀ x, h x < 2) {k : Nat} (hk : k ≤ 32) : bs h k < 4294967296 := by
  have h1 := bs_lt hh k
  have h2 : 2 ^ k ≤ 2 ^ 32 := Nat.pow_le_pow_right (by omega) hk
  have h3 : 2 ^ 32 = 4294967296 := by decide
  omega

set_option maxRecDepth 100000 in
theorem Anf_yes (n N f : Nat) (hf : f < 4294967296) (hF : FnOk (n : Int) f) (hn : n ≤ 5) (hN : N = 2 ^ n) (w : World) :
    Calls Try.prog 12 #[.int .i64 (n : Int), .int .u32 (f : Int)] w fun e w' => e = .returned (.tuple #[.int .u32 ((an n f : Nat) : Int), .int .i64 0]) ∧ Below w.heap.size w w' := by
  have cO := outside_any (n : Int) f hf false (by simp [hF]) w
  have cV := values_any f n N hf hn hN w
  have cT := fun W (h : OwnE 3 W w.heap.size w.heap.size N N (bv f)) => turn_any 25 _ pX qX (enters_of Try.func25 (by decide) rfl) pairX (bv f) n N w.heap.size w.heap.size hn hN (fun k x _ => tn_two (n := n) (fun x => bv_two f x) k x) W h
  have hD : Hid (∀ i, i < N → tn pX qX (bv f) n i = ((ab n f i : Nat) : Int)) := fun i hi => by rw [ab_int]; exact tn_bl n _ i (by rw [← hN]; exact hi) (fun x => bv_two f x)
  have hE : Hid (bs (ab n f) N = an n f) := by show _ = bs (ab n f) (2 ^ n); rw [hN]
  have hNN := pow_n hn hN
  clear hF hN
  go_enter Try.func12, Try.ntmps12
  go_wp2_with (first
    | (go_at_call 21; refine cO.mono ?_; rintro e w' ⟨rfl, hw⟩; subst w')
    | (go_at_call 22; refine cV.mono ?_; rintro e w1 ⟨rfl, hO, hB⟩; clear cV cO; have cT1 := cT w1 hO; clear cT)
    | (go_at_call 23; refine cT1.mono ?_; rintro e w2 ⟨rfl, hO2, hB2⟩; clear cT1))
  have O1 : Hid (OwnE 3 w2 w.heap.size w.heap.size N N (fun x => ((ab n f x : Nat) : Int))) := hO2.congr hD.out
  have B1 := hid (hB.trans hB2)
  clear hO hB hO2 hB2
  go_loopw [7, 20] (fun u i wr => ∃ k : Nat, u = .int .u32 ((bs (ab n f) k : Nat) : Int) ∧ i = .int .i64 (k : Int) ∧ k ≤ N ∧ Hid (wr = w2)) (fun u i wr => ((N : Int) - intOf i).toNat)
  case atStart => exact ⟨0, rfl, rfl, by omega, rfl⟩
  case round =>
    obtain ⟨k, rfl, rfl, hk, hW⟩ := hrel
    by_cases hgo : k < N
    · have hgo' : (k : Int) < (N : Int) := by omega
      have hc := O1.out.cell hgo
      rw [← hW.out] at hc
      have hl := ab_lt n f k
      have hu := bs_u32 (ab_lt n f) (k := k) (by omega)
      have ho := bs_or (ab_lt n f) k
      have hu2 := bs_u32 (ab_lt n f) (k := k + 1) (by omega)
      have hz : ab n f k * 2 ^ k < 4294967296 := by
        have : bs (ab n f) (k + 1) = bs (ab n f) k + ab n f k * 2 ^ k := rfl
        omega
      have hv : Hid (bits .or .u32 ((bs (ab n f) k : Nat) : Int) (((ab n f k : Nat) : Int) * 2 ^ k % 4294967296) = ((bs (ab n f) (k + 1) : Nat) : Int)) := by
        show _ = _
        have e : ((ab n f k * 2 ^ k : Nat) : Int) = ((ab n f k : Nat) : Int) * 2 ^ k := by simp
        rw [← e]
        generalize ab n f k * 2 ^ k = z at *
        rw [show (z : Int) % 4294967296 = (z : Int) by omega, u32_or_nat _ _ hu hz, ho]
      clear ho hz hu2
      generalize ab n f k = b at *
      go_wp2
      go_roundw
      case rel => exact ⟨k + 1, by rw [← hv.out], by simp, by omega, hW⟩
      case measure => exact measK hgo
    · have hgo' : ¬ (k : Int) < (N : Int) := by omega
      obtain rfl : k = N := by omega
      rw [hE.out]
      go_wp2
      go_ret2
      exact ⟨rfl, by rw [hW.out]; exact B1.out⟩

theorem Anf_no (n : Int) (f : Nat) (hf : f < 4294967296) (hF : ¬ FnOk n f) (w : World) :
    Calls Try.prog 12 #[.int .i64 n, .int .u32 (f : Int)] w fun e w' => e = .returned (.tuple #[.int .u32 0, .int .i64 2]) ∧ w' = w := by
  have cO := outside_any n f hf true (by simp [hF]) w
  clear hF
  go_enter Try.func12, Try.ntmps12
  go_wp2_with (go_at_call 21; refine cO.mono ?_; rintro e w' ⟨rfl, hw⟩; subst w')
  go_ret2
  exact ⟨rfl, rfl⟩

end Go.Proofs.Ytpnjpkmlfbcnjaa.Calls112
