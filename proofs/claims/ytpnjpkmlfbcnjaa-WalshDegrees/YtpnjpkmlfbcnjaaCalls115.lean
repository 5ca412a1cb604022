/-
  The document's sums of products, and the degree.
-/
import Derived.Test.YtpnjpkmlfbcnjaaCalls114
namespace Go.Proofs.Ytpnjpkmlfbcnjaa.Calls115
set_option linter.unusedVariables false
open Go.ChangeShapes Go.WideShapes Go.ChangeAt Go.RowKit Go.Deep Go.Proofs.Ytpnjpkmlfbcnjaa.Base Go.Proofs.Ytpnjpkmlfbcnjaa.Base2 Go.Proofs.Ytpnjpkmlfbcnjaa.Num34 Go.Proofs.Ytpnjpkmlfbcnjaa.Base4 Go.Proofs.Ytpnjpkmlfbcnjaa.Base6 Go.Proofs.Ytpnjpkmlfbcnjaa.Num41 Go.Proofs.Ytpnjpkmlfbcnjaa.Num42 Go.Proofs.Ytpnjpkmlfbcnjaa.Num57 Go.Proofs.Ytpnjpkmlfbcnjaa.Num58 Go.Proofs.Ytpnjpkmlfbcnjaa.Calls110 Go.Proofs.Ytpnjpkmlfbcnjaa.Calls114

theorem bs_u32 {h : Nat → Nat} (hh : ∀ x, h x < 2) {k : Nat} (hk : k ≤ 32) : bs h k < 4294967296 := by
  have h1 := bs_lt hh k
  have h2 : 2 ^ k ≤ 2 ^ 32 := Nat.pow_le_pow_right (by omega) hk
  have h3 : 2 ^ 32 = 4294967296 := by decide
  omega

set_option maxRecDepth 100000 in
set_option maxHeartbeats 1000000 in
theorem refAnf_any (n N f : Nat) (hf : f < 4294967296) (hn : n ≤ 5) (hN : N = 2 ^ n) (w : World) :
    Calls Try.prog 13 #[.int .i64 (n : Int), .int .u32 (f : Int)] w fun e w' => e = .returned (.int .u32 ((an n f : Nat) : Int)) ∧ w' = w := by
  have hNN := pow_n hn hN
  have hP : (2 : Int) ^ n = (N : Int) := by rw [hN]; simp
  have hend := hid (fun u (hu : u < N) => as_end (f := f) (show u < 2 ^ n by rw [← hN]; exact hu))
  have hE : Hid (bs (ab n f) N = an n f) := by show _ = bs (ab n f) (2 ^ n); rw [hN]
  have cB := fun x (hx : x < N) w => bit_any f x hf (by omega) w
  clear hN
  go_enter Try.func13, Try.ntmps13
  go_wp2
  go_loopw [5, 6] (fun v i wr => ∃ u : Nat, v = .int .u32 ((bs (ab n f) u : Nat) : Int) ∧ i = .int .i64 (u : Int) ∧ u ≤ N ∧ Hid (wr = w)) (fun v i wr => ((N : Int) - intOf i).toNat)
  case atStart => exact ⟨0, rfl, rfl, by omega, rfl⟩
  case round =>
    obtain ⟨u, rfl, rfl, hu, HW⟩ := hrel
    by_cases hgo : u < N
    · have hgo' : (u : Int) < (N : Int) := by omega
      have hwr := HW.out
      subst hwr
      go_wp2
      go_loopw [7, 8] (fun s i w' => ∃ x : Nat, s = .int .i64 (asu f u x) ∧ i = .int .i64 (x : Int) ∧ x ≤ u + 1 ∧ 0 ≤ asu f u x ∧ asu f u x ≤ x ∧ Hid (w' = wr)) (fun s i w' => ((u : Int) + 1 - intOf i).toNat)
      case atStart => exact ⟨0, rfl, rfl, by omega, by show (0 : Int) ≤ 0; omega, by show (0 : Int) ≤ 0; omega, rfl⟩
      case round =>
        obtain ⟨x, rfl, rfl, hx, hw1, hw2, hW⟩ := hrel
        by_cases hgx : x ≤ u
        · have hgx' : (x : Int) ≤ (u : Int) := by omega
          have c1 := fun w => cB x (by omega) w
          obtain ⟨ha, hal⟩ := and_32 x (by omega) u (by omega)
          have hs := hid (as_step f u x)
          have hb := bv_two f x
          have hbe : ((bt f x : Nat) : Int) = bv f x := rfl
          rw [hbe] at c1
          clear hbe cB
          by_cases hz : x &&& u = x
          · have e : Hid (asu f u (x + 1) = asu f u x + bv f x) := by have := hs.out; rw [if_pos hz] at this; exact this
            rw [hz] at ha
            generalize asu f u x = a at *
            generalize bv f x = b at *
            have hb2 : 0 ≤ b ∧ b ≤ 1 := by omega
            clear hs hb hz
            go_wp2_with (go_at_call 20; refine (c1 _).mono ?_; rintro e w' ⟨rfl, hw⟩; subst w')
            go_roundw
            case rel => exact ⟨x + 1, by rw [e.out], by simp, by omega, by rw [e.out]; omega, by rw [e.out]; omega, hW⟩
            case measure => simp [intOf]; omega
          · have e : Hid (asu f u (x + 1) = asu f u x) := by have := hs.out; rw [if_neg hz] at this; exact this
            have hz' : ¬ (((x &&& u : Nat) : Int) = (x : Int)) := by omega
            have hz2 : ((((x &&& u : Nat) : Int)) == (x : Int)) = false := by simp; omega
            generalize x &&& u = y at *
            generalize asu f u x = a at *
            clear hs hb
            go_wp2
            go_roundw
            case rel => exact ⟨x + 1, by rw [e.out], by simp, by omega, by rw [e.out]; omega, by rw [e.out]; omega, hW⟩
            case measure => simp [intOf]; omega
        · have hgx' : ¬ (x : Int) ≤ (u : Int) := by omega
          obtain rfl : x = u + 1 := by omega
          have he := hend.out u hgo
          have hi := ab_int n f u
          rw [← he] at hi
          have hl := ab_lt n f u
          have hu1 := bs_u32 (ab_lt n f) (k := u) (by omega)
          have hu2 := bs_u32 (ab_lt n f) (k := u + 1) (by omega)
          have hst : Hid (bs (ab n f) (u + 1) = bs (ab n f) u + ab n f u * 2 ^ u) := rfl
          generalize asu f u (u + 1) = a at *
          obtain ⟨B2, hB2⟩ : ∃ B2, B2 = bs (ab n f) (u + 1) := ⟨_, rfl⟩
          have HB2 := hid hB2
          rw [← hB2] at hu2 hst
          clear hB2 he hend
          generalize bs (ab n f) u = B1 at *
          by_cases hz : ab n f u = 1
          · have hpu : (2 : Int) ^ u = ((2 ^ u : Nat) : Int) := by simp
            have e : Hid (B1 + 2 ^ u = B2) := by have := hst.out; rw [hz, Nat.one_mul] at this; exact this.symm
            have hle : B1 + 2 ^ u < 4294967296 := by rw [e.out]; exact hu2
            rw [hz] at hi
            have hz' : (a % 2 == 1) = true := by rw [← hi]; rfl
            generalize 2 ^ u = P at *
            clear hst hz hi
            go_wp2
            go_roundw
            case rel => exact ⟨u + 1, by rw [← HB2.out, ← e.out]; simp, by simp, by omega, hW⟩
            case measure => exact measK hgo
          · have h0 : ab n f u = 0 := by omega
            have e : Hid (B1 = B2) := by have := hst.out; rw [h0, Nat.zero_mul] at this; exact this.symm
            rw [h0] at hi
            have hz' : (a % 2 == 1) = false := by rw [← hi]; rfl
            clear hst hz hi h0
            go_wp2
            go_roundw
            case rel => exact ⟨u + 1, by rw [← HB2.out, ← e.out], by simp, by omega, hW⟩
            case measure => exact measK hgo
    · have hgo' : ¬ (u : Int) < (N : Int) := by omega
      obtain rfl : u = N := by omega
      rw [hE.out]
      go_wp2
      go_ret
      exact ⟨rfl, HW.out⟩

set_option maxRecDepth 100000 in
set_option maxHeartbeats 1000000 in
theorem refDegree_any (n N f : Nat) (hf : f < 4294967296) (hn : n ≤ 5) (hN : N = 2 ^ n) (ha : an n f < 4294967296) (w : World) :
    Calls Try.prog 15 #[.int .i64 (n : Int), .int .u32 (f : Int)] w fun e w' => e = .returned (.int .i64 (df n f)) ∧ w' = w := by
  have hNN := pow_n hn hN
  have hP : (2 : Int) ^ n = (N : Int) := by rw [hN]; simp
  have cA := refAnf_any n N f hf hn hN w
  have cB := fun x (hx : x < N) w => bit_any (an n f) x ha (by omega) w
  have hbt := hid (fun x (hx : x < N) => an_bit (f := f) (show x < 2 ^ n by rw [← hN]; exact hx))
  have hE : Hid (dg (ab n f) N = df n f) := by show _ = dg (ab n f) (2 ^ n); rw [hN]
  have cOn := fun x (hx : x < N) w => refOnes_any x (by omega) w
  clear hN
  generalize an n f = A at *
  go_enter Try.func15, Try.ntmps15
  go_wp2_with (go_at_call 13; refine cA.mono ?_; rintro e w1 ⟨rfl, hw⟩; subst w1; clear cA)
  go_loopw [6, 7] (fun d i wr => ∃ k : Nat, d = .int .i64 (dg (ab n f) k) ∧ i = .int .i64 (k : Int) ∧ k ≤ N ∧ Hid (wr = w)) (fun d i wr => ((N : Int) - intOf i).toNat)
  case atStart => exact ⟨0, rfl, rfl, by omega, rfl⟩
  case round =>
    obtain ⟨k, rfl, rfl, hk, hW⟩ := hrel
    by_cases hgo : k < N
    · have hgo' : (k : Int) < (N : Int) := by omega
      have c1 := fun w => cB k hgo w
      rw [hbt.out k hgo] at c1
      have c2 := fun w => cOn k hgo w
      have hl := ab_lt n f k
      have hdb := dg_bd (ab n f) k
      have ho := on_le 5 k
      have hstep : Hid (dg (ab n f) (k + 1) = if ab n f k = 1 ∧ dg (ab n f) k < ((on 5 k : Nat) : Int) then ((on 5 k : Nat) : Int) else dg (ab n f) k) := rfl
      obtain ⟨d2, hd2⟩ : ∃ d2, d2 = dg (ab n f) (k + 1) := ⟨_, rfl⟩
      have HD2 := hid hd2
      rw [← hd2] at hstep
      clear hd2 cOn cB
      generalize dg (ab n f) k = d at *
      generalize on 5 k = o at *
      by_cases hb : ab n f k = 1
      · rw [hb] at c1
        have c1' : ∀ w, Calls Try.prog 20 #[.int .u32 (A : Int), .int .i64 (k : Int)] w fun e w' => e = .returned (.int .i64 1) ∧ w' = w := c1
        by_cases hlt : d < (o : Int)
        · have e : Hid (d2 = (o : Int)) := by have := hstep.out; rw [if_pos ⟨hb, hlt⟩] at this; exact this
          clear hstep hb c1 hl
          go_wp2_with (first
            | (go_at_call 20; refine (c1' _).mono ?_; rintro e w' ⟨rfl, hw⟩; subst w')
            | (go_at_call 19; refine (c2 _).mono ?_; rintro e w' ⟨rfl, hw⟩; subst w'))
          go_roundw
          case rel => exact ⟨k + 1, by rw [← HD2.out, e.out], by simp, by omega, hW⟩
          case measure => exact measK hgo
        · have e : Hid (d2 = d) := by have := hstep.out; rw [if_neg (fun h => hlt h.2)] at this; exact this
          clear hstep hb c1 hl
          go_wp2_with (first
            | (go_at_call 20; refine (c1' _).mono ?_; rintro e w' ⟨rfl, hw⟩; subst w')
            | (go_at_call 19; refine (c2 _).mono ?_; rintro e w' ⟨rfl, hw⟩; subst w'))
          go_roundw
          case rel => exact ⟨k + 1, by rw [← HD2.out, e.out], by simp, by omega, hW⟩
          case measure => exact measK hgo
      · have e : Hid (d2 = d) := by have := hstep.out; rw [if_neg (fun h => hb h.1)] at this; exact this
        have hb2 : ab n f k = 0 := by omega
        rw [hb2] at c1
        have c1' : ∀ w, Calls Try.prog 20 #[.int .u32 (A : Int), .int .i64 (k : Int)] w fun e w' => e = .returned (.int .i64 0) ∧ w' = w := c1
        clear hstep hb hb2 c1 hl
        go_wp2_with (go_at_call 20; refine (c1' _).mono ?_; rintro e w' ⟨rfl, hw⟩; subst w')
        go_roundw
        case rel => exact ⟨k + 1, by rw [← HD2.out, e.out], by simp, by omega, hW⟩
        case measure => exact measK hgo
    · have hgo' : ¬ (k : Int) < (N : Int) := by omega
      obtain rfl : k = N := by omega
      rw [hE.out]
      go_wp2
      go_ret
      exact ⟨rfl, hW.out⟩

end Go.Proofs.Ytpnjpkmlfbcnjaa.Calls115
