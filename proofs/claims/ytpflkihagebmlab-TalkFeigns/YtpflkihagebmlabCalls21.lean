/-
  Carmichael's function as package power answers it: of a prime's power, and of any modulus.
-/
import Derived.Test.YtpflkihagebmlabCalls3
import Derived.Test.YtpflkihagebmlabCalls13
import Derived.Test.YtpflkihagebmlabCalls19
namespace Go.Proofs.Ytpflkihagebmlab.Calls21
set_option linter.unusedVariables false
open Go.ChangeShapes Go.WideShapes Go.ChangeAt Go.RowKit Go.Proofs.Ytpflkihagebmlab.Num Go.Proofs.Ytpflkihagebmlab.Num4 Go.Proofs.Ytpflkihagebmlab.Num6 Go.Proofs.Ytpflkihagebmlab.Num8 Go.Proofs.Ytpflkihagebmlab.Num13 Go.Proofs.Ytpflkihagebmlab.Calls8 Go.Proofs.Ytpflkihagebmlab.Calls9 Go.Proofs.Ytpflkihagebmlab.Calls11 Go.Proofs.Ytpflkihagebmlab.Calls13 Go.Proofs.Ytpflkihagebmlab.Calls19
open Go.Proofs.Ytpflkihagebmlab.Math (gg gg_abs)
open Go.Proofs.Ytpflkihagebmlab.Calls1 (abs_any)
open Go.Proofs.Ytpflkihagebmlab.Calls2 (extend_any)
open Go.Proofs.Ytpflkihagebmlab.Calls3 (two_yes ll ll_bd)

theorem Gcd_b (a b : Int) (w : World) (ha1 : -2147483648 ≤ a) (ha2 : a ≤ 2147483648) (hb1 : -2147483648 ≤ b) (hb2 : b ≤ 2147483648) :
    Calls Try.prog 61 #[.int .i64 a, .int .i64 b] w fun e w' =>
      e = .returned (.tuple #[.int .i64 (gg a b), .int .i64 0]) ∧ Below w.heap.size w w' := by
  have H := gg_abs a b
  rw [← H]; clear H
  go_enter Try.func61, Try.ntmps61
  go_wp2_with (first
    | (go_at_call 33; refine (two_yes a b _ ha1 ha2 hb1 hb2).mono ?_; rintro e w' ⟨rfl, rfl⟩)
    | (go_at_call 49; refine (abs_any _ _ (by omega) (by omega)).mono ?_; rintro e w' ⟨rfl, rfl⟩)
    | (go_at_call 48; refine (extend_any _ _ _ (by omega) (by omega) (by omega) (by omega)).mono ?_; rintro e w' ⟨x, rfl, hx1, hx2, hx3, rfl⟩; clear hx3))
  go_ret2
  exact ⟨rfl, (Below.refl _ _).alloc (Nat.le_refl _) _⟩

theorem ll_nat {a b : Nat} (ha : 1 ≤ a) : ll (a : Int) (b : Int) = (Nat.lcm a b : Int) := by
  unfold ll gg
  rw [Int.gcd_natCast_natCast, Int.natAbs_natCast, Int.natAbs_natCast]
  have hd := Nat.gcd_dvd_left a b
  have e : Nat.lcm a b = a / Nat.gcd a b * b := by
    unfold Nat.lcm
    exact Nat.div_mul_right_comm hd b |>.symm
  rw [e]; push_cast; rfl

theorem Lcm_i (a b : Int) (w : World) (h1 : a ≠ 0) (h2 : b ≠ 0) (ha1 : -2147483648 ≤ a) (ha2 : a ≤ 2147483648) (hb1 : -2147483648 ≤ b) (hb2 : b ≤ 2147483648) :
    Calls Try.prog 67 #[.int .i64 a, .int .i64 b] w fun e w' =>
      e = .returned (.tuple #[.int .i64 (ll a b), .int .i64 0]) ∧ Below w.heap.size w w' := by
  have h1' : (a == 0) = false := by simpa using h1
  have h2' : (b == 0) = false := by simpa using h2
  obtain ⟨g1, q0, q1, l0, l1⟩ := ll_bd (Or.inl h1) ha1 ha2 hb1 hb2
  have H := gg_abs a b
  unfold ll at l0 l1 ⊢
  rw [← H] at g1 q0 q1 l0 l1 ⊢
  clear H
  go_enter Try.func67, Try.ntmps67
  go_wp2_with (first
    | (go_at_call 33; refine (two_yes a b _ ha1 ha2 hb1 hb2).mono ?_; rintro e w' ⟨rfl, rfl⟩)
    | (go_at_call 49; refine (abs_any _ _ (by omega) (by omega)).mono ?_; rintro e w' ⟨rfl, rfl⟩)
    | (go_at_call 48; refine (extend_any _ _ _ (by omega) (by omega) (by omega) (by omega)).mono ?_; rintro e w' ⟨x, rfl, hx1, hx2, hx3, rfl⟩; clear hx3))
  go_quiet ((go_at_call 49; exact Calls.quiet_of_same (abs_any _ _ (by omega) (by omega))))
  go_wp2
  go_ret2
  exact ⟨rfl, below_drewN ((Below.refl _ _).alloc (Nat.le_refl _) _) _⟩

theorem Lcm_b (a b : Nat) (w : World) (ha1 : 1 ≤ a) (ha2 : a ≤ 2147483648) (hb1 : 1 ≤ b) (hb2 : b ≤ 2147483648) :
    Calls Try.prog 67 #[.int .i64 (a : Int), .int .i64 (b : Int)] w fun e w' =>
      e = .returned (.tuple #[.int .i64 (Nat.lcm a b : Int), .int .i64 0]) ∧ Below w.heap.size w w' := by
  rw [← ll_nat ha1]
  exact Lcm_i a b w (by omega) (by omega) (by omega) (by omega) (by omega) (by omega)

set_option maxRecDepth 100000 in
theorem lambdaOfPower_any (p k : Nat) (hp : Pr p) (hk : 1 ≤ k) (hk2 : k ≤ 20) (hb : p ^ k ≤ 1048576) (hp2 : p ≤ 1048576) (w : World) :
    Calls Try.prog 68 #[.agg #[.int .i64 (p : Int), .int .i64 (k : Int)]] w fun e w' => e = .returned (.int .i64 (lamP p k : Int)) ∧ Below w.heap.size w w' := by
  have h2 := hp.1
  have HB := hid hb
  clear hb
  go_enter Try.func68, Try.ntmps68
  go_wp2
  go_loop [3, 10] (fun c i => ∃ c' j : Nat, c = .int .i64 (c' : Int) ∧ i = .int .i64 (j : Int) ∧ j ≤ k - 1 ∧ c' ≤ 1048576 ∧ Hid (c' = (p - 1) * p ^ j)) (fun c i => ((k : Int) - intOf i).toNat)
  case atStart => exact ⟨p - 1, 0, by rw [show (p : Int) - 1 = ((p - 1 : Nat) : Int) by omega], rfl, by omega, by omega, by show _ = _; simp⟩
  case round =>
    obtain ⟨c, j, rfl, rfl, hj, hc, hI⟩ := hrel
    by_cases hgo : j < k - 1
    · have hgo' : (j : Int) < (k : Int) - 1 := by omega
      have hN : Hid (c * p = (p - 1) * p ^ (j + 1)) := by show _ = _; rw [hI.out, Nat.pow_succ, Nat.mul_assoc]
      have hcb : c * p ≤ 1048576 := by rw [hN.out]; exact inner_bd h2 (by omega) HB.out
      have hcc : ((c * p : Nat) : Int) = (c : Int) * (p : Int) := by simp
      have hcb2 : (c : Int) * (p : Int) ≤ 1048576 := by omega
      have hcb3 : 0 ≤ (c : Int) * (p : Int) := by omega
      have hC := hid hcc
      clear hcc
      go_wp2
      go_round
      case rel => exact ⟨c * p, j + 1, by rw [hC.out], by simp, by omega, hcb, hN⟩
      case measure => simp only [intOf]; omega
    · have hgo' : ¬ (j : Int) < (k : Int) - 1 := by omega
      have hj2 : j = k - 1 := by omega
      by_cases hp2 : p = 2
      · subst hp2
        by_cases hk3 : 2 < k
        · have hk3' : 2 < (k : Int) := by omega
          have e : Hid (c / 2 = lamP 2 k) := by show _ = _; rw [lamP_two ⟨rfl, hk3⟩, hI.out, hj2]
          clear hk3
          go_wp2
          go_ret
          exact ⟨ret_int (by rw [← e.out]; simp), (Below.refl _ _).alloc (Nat.le_refl _) _⟩
        · have hk3' : ¬ 2 < (k : Int) := by omega
          have e : Hid (c = lamP 2 k) := by show _ = _; rw [lamP_other (fun h => hk3 h.2), hI.out, hj2]
          clear hk3
          go_wp2
          go_ret
          exact ⟨ret_int (by rw [← e.out]), (Below.refl _ _).alloc (Nat.le_refl _) _⟩
      · have hp2' : ((p : Int) == 2) = false := by
          have : ¬ (p : Int) = 2 := by omega
          simp [this]
        have e : Hid (c = lamP p k) := by show _ = _; rw [lamP_other (fun h => hp2 h.1), hI.out, hj2]
        clear hp2
        go_wp2
        go_ret
        exact ⟨ret_int (by rw [← e.out]), (Below.refl _ _).alloc (Nat.le_refl _) _⟩

theorem ints_get2 (l : List (Nat × Nat)) (j : Nat) : (ints l).getD j (0, 0) = (((l.getD j (0, 0)).1 : Int), ((l.getD j (0, 0)).2 : Int)) := by
  simp only [ints, List.getD, List.getElem?_map]
  cases l[j]? <;> simp

theorem alloc_below {B : Nat} {a w : World} (h : Below B a w) (hB : B ≤ w.heap.size) (o : Obj) : Below B a (w.alloc o) := h.alloc hB o

set_option maxRecDepth 100000 in
set_option maxHeartbeats 1000000 in
theorem lambda_any (m : Nat) (hm1 : 1 ≤ m) (hm2 : m ≤ 1048576) (w : World) :
    Calls Try.prog 65 #[.int .i64 (m : Int)] w fun e w' => (∃ L, IsLam m L ∧ e = .returned (.int .i64 (L : Int))) ∧ Below w.heap.size w w' := by
  go_enter Try.func65, Try.ntmps65
  go_wp2_with (go_at_call 66; refine (Factor_yes m hm1 hm2 _).mono ?_; rintro e w1 ⟨l, v, rfl, hF, hown, hB⟩; obtain ⟨ao, cap, rfl, hrow⟩ := prow_of_owns hown; have hblk := owns_block' hown; have HF := hid hF; clear hF; rw [ints_length])
  have hlen := fac_len HF.out hm2
  go_loopw [3, 15] (fun c i wr => ∃ L k : Nat, c = .int .i64 (L : Int) ∧ i = .int .i64 (k : Int) ∧ k ≤ l.length ∧ Hid (Lam l k L) ∧ Below w1.heap.size w1 wr) (fun c i wr => ((l.length : Int) - intOf i).toNat)
  case atStart => exact ⟨1, 0, rfl, rfl, by omega, Lam.start l, Below.refl _ _⟩
  case round =>
    obtain ⟨L, k, rfl, rfl, hk, hL, hBr⟩ := hrel
    have hL1 := hL.out.pos
    have hL2 := hL.out.le HF.out
    by_cases hgo : k < l.length
    · have hgo' : (k : Int) < (l.length : Int) := by omega
      rcases ao with _ | ad
      · have := hrow.1 rfl
        have e := ints_length l
        rw [this] at e
        simp at e
        omega
      · obtain ⟨c1, c2⟩ := (prow_below hrow hBr (fun ad' e => .inr (hblk ad' e).2)).2 ad rfl k (by rw [ints_length]; exact hgo)
        rw [add_two] at c2
        rw [ints_get2] at c1 c2
        have hNx := hid (hL.out.next HF.out hgo)
        obtain ⟨hp, hk1⟩ := elem_facts HF.out hgo
        have hx1 := elem_le HF.out hm1 hgo
        have hx2 := elem_exp HF.out hm2 hgo
        have hx3 := pow_le_of HF.out hgo
        obtain ⟨x, hx⟩ : ∃ x, l.getD k (0, 0) = x := ⟨_, rfl⟩
        rw [hx] at c1 c2 hNx hp hk1 hx1 hx2 hx3
        have q1 := lamP_le hp hk1
        have q2 := (lamP_ok hp hk1).pos
        have cP := fun w => lambdaOfPower_any x.1 x.2 hp hk1 hx2 (by omega) (by omega) w
        have cL := fun w => Lcm_b L (lamP x.1 x.2) w hL1 (by omega) q2 (by omega)
        clear hx hp q1 q2 hx3
        go_wp2_with (first | (go_at_call 68; refine (cP _).mono ?_; rintro e w2 ⟨rfl, hB2⟩) | (go_at_call 67; refine (cL _).mono ?_; rintro e w3 ⟨rfl, hB3⟩))
        go_roundw
        case rel => exact ⟨_, k + 1, rfl, by simp, by omega, hNx, hBr.trans ((below_trans (below_trans ((Below.refl _ _).alloc (Nat.le_refl _) _) hB2) hB3).mono hBr.size)⟩
        case measure => simp [intOf]; omega
    · have hgo' : ¬ (k : Int) < (l.length : Int) := by omega
      have e : k = l.length := by omega
      have hD := hid (Lam.done HF.out (by rw [← e]; exact hL.out))
      clear e
      go_wp2
      go_ret
      exact ⟨⟨L, hD.out, rfl⟩, below_trans hB hBr⟩

end Go.Proofs.Ytpflkihagebmlab.Calls21
