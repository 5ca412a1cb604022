/-
  Rounds there: package feistel's, and the document's, bit by bit; the gates.
-/
import Derived.Test.YtngdhhhdnkkagaaCalls103
namespace Go.Proofs.Ytngdhhhdnkkagaa.Calls104
set_option linter.unusedVariables false
open Go.ChangeShapes Go.WideShapes Go.ChangeAt Go.RowKit Go.Deep Go.Proofs.Ytngdhhhdnkkagaa.Base Go.Proofs.Ytngdhhhdnkkagaa.Base2 Go.Proofs.Ytngdhhhdnkkagaa.Num16 Go.Proofs.Ytngdhhhdnkkagaa.Num17 Go.Proofs.Ytngdhhhdnkkagaa.Num34 Go.Proofs.Ytngdhhhdnkkagaa.Num51 Go.Proofs.Ytngdhhhdnkkagaa.Base4 Go.Proofs.Ytngdhhhdnkkagaa.Base5 Go.Proofs.Ytngdhhhdnkkagaa.Calls96 Go.Proofs.Ytngdhhhdnkkagaa.Calls103

theorem xor_i64 : ∀ a : Nat, a < 16 → ∀ b : Nat, b < 16 → bits .xor .i64 (a : Int) (b : Int) = ((a ^^^ b : Nat) : Int) := by decide +kernel

/-- The row at a place, and its number at a place. -/
theorem row_at {W : World} {ad : Addr} {L : List (List Int)} (h : RRow W (some ad) L) (hR : Ros L) {k : Nat} (hk : k < L.length) :
    ∃ bd cb, W.cell? (ad.add k) = some (.slice (some bd) 16 cb) ∧ 16 ≤ cb ∧ ∀ b, b < 16 → W.cell? (bd.add b) = some (.int .i64 ((ho (rw' L k) b : Nat) : Int)) := by
  obtain ⟨bo, cb, h1, h2, h3, h4⟩ := h.2 ad rfl k hk
  have hr := hR _ (rw_mem hk)
  rw [hr.1] at h1 h3
  rcases bo with _ | bd
  · have := h2.1 rfl
    have := hr.1
    simp_all
  · refine ⟨bd, cb, h1, h3, fun b hb => ?_⟩
    rw [← hr.eq hb]
    exact h2.2 bd rfl b (by rw [hr.1]; exact hb)

theorem rd_halves {r : List Int} {a b : Nat} (hb : b < 16) : rd r (a * 16 + b) = b * 16 + (a ^^^ ho r b) := by
  unfold rd; rw [(halves hb).1, (halves hb).2]

/-- On the way: both halves behind k rounds. -/
def SlR (N : Nat) (L : List (List Int)) (x : Nat) (l r i : Value) : Prop :=
  ∃ (k a b : Nat), l = .int .i64 (a : Int) ∧ r = .int .i64 (b : Int) ∧ i = .int .i64 (k : Int) ∧ k ≤ N ∧ a < 16 ∧ b < 16 ∧ Hid (sl (L.take k) x = a * 16 + b)

set_option maxRecDepth 100000 in
set_option maxHeartbeats 1000000 in
theorem seal_any (ao : Option Addr) (cap : Nat) (L : List (List Int)) (hR : Ros L) (hl : L.length ≤ 64) (x : Nat) (hx : x < 256) (w : World) (hrow : RRow w ao L) :
    Calls Try.prog 17 #[.slice ao L.length cap, .int .i64 (x : Int)] w fun e w' => e = .returned (.int .i64 ((sl L x : Nat) : Int)) ∧ Below w.heap.size w w' := by
  obtain ⟨N, hN⟩ : ∃ N, N = L.length := ⟨_, rfl⟩
  have HN : Hid (N = L.length) := hN
  rw [← hN] at hl ⊢
  clear hN
  go_enter Try.func17, Try.ntmps17
  go_wp2
  go_loopw [5, 6, 15] (fun l r i wr => SlR N L x l r i ∧ Hid (Below w.heap.size w wr)) (fun l r i wr => ((N : Int) - intOf i).toNat)
  case atStart => exact ⟨⟨0, x / 16, x % 16, rfl, rfl, rfl, by omega, by omega, by omega, by show sl [] x = _; show x = _; omega⟩, Below.refl _ _⟩
  case round =>
    obtain ⟨⟨k, a, b, rfl, rfl, rfl, hk, ha, hb, hS⟩, hB⟩ := hrel
    by_cases hgo : k < N
    · have hgo' : (k : Int) < (N : Int) := by omega
      have hkl : Hid (k < L.length) := by have := HN.out; show k < L.length; omega
      rcases ao with _ | ad
      · exact (rrow_none hrow hkl.out).elim
      · obtain ⟨bd, cb, c1, hcb, hc⟩ := row_at (rb hrow hB.out) hR hkl.out
        have c2 := hc b hb
        have hh := (hR _ (rw_mem hkl.out)).lt hb
        have hz := xor16 ha hh
        have hxz := xor_i64 a ha _ hh
        have hS2 : Hid (sl (L.take (k + 1)) x = b * 16 + (a ^^^ ho (rw' L k) b)) := by
          show _ = _
          rw [sl_take hkl.out, hS.out, rd_halves hb]; rfl
        generalize ho (rw' L k) b = h at *
        generalize a ^^^ h = z at *
        clear hc hS
        go_wp2
        go_region
        go_wp2
        go_roundw
        case rel => exact ⟨⟨k + 1, b, z, rfl, rfl, by simp, by omega, hb, hz, hS2⟩, hB.out.drew⟩
        case measure => exact measK hgo
    · have hgo' : ¬ (k : Int) < (N : Int) := by omega
      have e : Hid ((a : Int) * 16 + (b : Int) = ((sl L x : Nat) : Int)) := by
        have h := hS.out
        rw [List.take_of_length_le (by have := HN.out; omega)] at h
        show _ = _
        rw [h]; omega
      go_wp2
      go_ret
      exact ⟨ret_int e.out, hB.out⟩

/-! ### the document's -/

/-- On the way: what is left of both, and the bits that were found. -/
def XoR (a b : Nat) (u v n k : Value) : Prop :=
  ∃ (j p q m : Nat), u = .int .i64 (p : Int) ∧ v = .int .i64 (q : Int) ∧ n = .int .i64 (m : Int) ∧ k = .int .i64 (j : Int) ∧ j ≤ 8 ∧ p < 16 ∧ q < 16 ∧ m < 256 ∧ Hid (p = a / 2 ^ j ∧ q = b / 2 ^ j ∧ m = (a ^^^ b) % 2 ^ j)

theorem xo_next {a b j p q m : Nat} (ha : a < 16) (hb : b < 16) (hj : j < 8) (h : p = a / 2 ^ j ∧ q = b / 2 ^ j ∧ m = (a ^^^ b) % 2 ^ j) :
    p / 2 = a / 2 ^ (j + 1) ∧ q / 2 = b / 2 ^ (j + 1) ∧ (p % 2 = q % 2 → m = (a ^^^ b) % 2 ^ (j + 1)) ∧ (¬ p % 2 = q % 2 → m + 2 ^ j = (a ^^^ b) % 2 ^ (j + 1)) := by
  obtain ⟨rfl, rfl, rfl⟩ := h
  have := xor_step a ha b hb j hj
  refine ⟨by rw [Nat.div_div_eq_div_mul, Nat.pow_succ], by rw [Nat.div_div_eq_div_mul, Nat.pow_succ], fun e => ?_, fun e => ?_⟩
  · rw [this, if_pos e]; omega
  · rw [this, if_neg e]

set_option maxRecDepth 100000 in
set_option maxHeartbeats 4000000 in
theorem refXor_any (a b : Nat) (ha : a < 16) (hb : b < 16) (w : World) :
    Calls Try.prog 18 #[.int .i64 (a : Int), .int .i64 (b : Int)] w fun e w' => e = .returned (.int .i64 ((a ^^^ b : Nat) : Int)) ∧ w' = w := by
  go_enter Try.func18, Try.ntmps18
  go_wp2
  go_loop [0, 1, 5, 6] (fun u v n k => XoR a b u v n k) (fun u v n k => (8 - intOf k).toNat)
  case atStart => exact ⟨0, a, b, 0, rfl, rfl, rfl, rfl, by omega, by omega, by omega, by omega, by simp, by simp, by simp; omega⟩
  case round =>
    obtain ⟨j, p, q, m, rfl, rfl, rfl, rfl, hj, hp, hq, hm, hX⟩ := hrel
    by_cases hgo : j < 8
    · have hgo' : (j : Int) < 8 := by omega
      obtain ⟨n1, n2, n3, n4⟩ := xo_next ha hb hgo hX.out
      have HA := hid n1
      have HB := hid n2
      have hlt : (a ^^^ b) % 2 ^ (j + 1) < 256 := Nat.lt_of_le_of_lt (Nat.mod_le _ _) (Nat.lt_trans (xor16 ha hb) (by omega))
      by_cases e : p % 2 = q % 2
      · have H3 := hid (n3 e)
        have e' : (p : Int) % 2 = (q : Int) % 2 := by omega
        clear n1 n2 n3 n4 e hlt
        obtain ⟨s, hs⟩ : ∃ s : Int, s = (q : Int) % 2 := ⟨_, rfl⟩
        rw [← hs] at e'
        have e2 := hs.symm
        clear hs
        go_wp2
        go_round
        case rel => exact ⟨j + 1, p / 2, q / 2, m, by simp, by simp, rfl, by simp, by omega, by omega, by omega, hm, HA.out, HB.out, H3.out⟩
        case measure => simp [intOf]; omega
      · have H4 := hid (n4 e)
        have hm2 : m + 2 ^ j < 256 := by have := n4 e; omega
        have e' : ¬ (p : Int) % 2 = (q : Int) % 2 := by omega
        clear n1 n2 n3 n4 e hlt
        have hj8 : j = 0 ∨ j = 1 ∨ j = 2 ∨ j = 3 ∨ j = 4 ∨ j = 5 ∨ j = 6 ∨ j = 7 := by omega
        rcases hj8 with rfl | rfl | rfl | rfl | rfl | rfl | rfl | rfl
        all_goals (simp only [Nat.reducePow] at hm2)
        all_goals
          go_wp2
          go_round
          case rel => exact ⟨_, p / 2, q / 2, _, by simp, by simp, rfl, rfl, by decide, by omega, by omega, hm2, HA.out, HB.out, H4.out⟩
          case measure => simp [intOf]
    · obtain rfl : j = 8 := by omega
      have e : Hid ((m : Int) = ((a ^^^ b : Nat) : Int)) := by
        have h := hX.out.2.2
        rw [xor_done ha hb] at h
        show _ = _
        rw [h]
      go_wp2
      go_ret
      exact ⟨ret_int e.out, rfl⟩

/-- On the way: the number behind k rounds. -/
def RsR (N : Nat) (L : List (List Int)) (x : Nat) (u i : Value) : Prop :=
  ∃ (k y : Nat), u = .int .i64 (y : Int) ∧ i = .int .i64 (k : Int) ∧ k ≤ N ∧ y < 256 ∧ Hid (sl (L.take k) x = y)

set_option maxRecDepth 100000 in
set_option maxHeartbeats 1000000 in
theorem refSeal_any (ao : Option Addr) (cap : Nat) (L : List (List Int)) (hR : Ros L) (hl : L.length ≤ 64) (x : Nat) (hx : x < 256) (w : World) (hrow : RRow w ao L) :
    Calls Try.prog 11 #[.slice ao L.length cap, .int .i64 (x : Int)] w fun e w' => e = .returned (.int .i64 ((sl L x : Nat) : Int)) ∧ Below w.heap.size w w' := by
  obtain ⟨N, hN⟩ : ∃ N, N = L.length := ⟨_, rfl⟩
  have HN : Hid (N = L.length) := hN
  rw [← hN] at hl ⊢
  clear hN
  go_enter Try.func11, Try.ntmps11
  go_wp2
  go_loopw [1, 9] (fun u i wr => RsR N L x u i ∧ Hid (Below w.heap.size w wr)) (fun u i wr => ((N : Int) - intOf i).toNat)
  case atStart => exact ⟨⟨0, x, rfl, rfl, by omega, hx, rfl⟩, Below.refl _ _⟩
  case round =>
    obtain ⟨⟨k, y, rfl, rfl, hk, hy, hS⟩, hB⟩ := hrel
    by_cases hgo : k < N
    · have hgo' : (k : Int) < (N : Int) := by omega
      have hkl : Hid (k < L.length) := by have := HN.out; show k < L.length; omega
      rcases ao with _ | ad
      · exact (rrow_none hrow hkl.out).elim
      · obtain ⟨bd, cb, c1, hcb, hc⟩ := row_at (rb hrow hB.out) hR hkl.out
        obtain ⟨a, ha⟩ : ∃ a, a = y / 16 := ⟨_, rfl⟩
        obtain ⟨b, hb⟩ : ∃ b, b = y % 16 := ⟨_, rfl⟩
        have hb16 : b < 16 := by omega
        have ha16 : a < 16 := by omega
        have c2 := hc b hb16
        have hh := (hR _ (rw_mem hkl.out)).lt hb16
        have hz := xor16 ha16 hh
        have cX := fun w => refXor_any a _ ha16 hh w
        have hS2 : Hid (sl (L.take (k + 1)) x = b * 16 + (a ^^^ ho (rw' L k) b)) := by
          show _ = _
          rw [sl_take hkl.out, hS.out, ha, hb]; rfl
        have e1 : (y : Int) / 16 = (a : Int) := by omega
        have e2 : (y : Int) % 16 = (b : Int) := by omega
        generalize ho (rw' L k) b = h at *
        generalize a ^^^ h = z at *
        clear hc hS ha hb
        go_wp2_with (go_at_call 18; refine (cX _).mono ?_; rintro e w1 ⟨rfl, hw⟩; subst w1)
        go_roundw
        case rel => exact ⟨⟨k + 1, b * 16 + z, by simp, by simp, by omega, by omega, hS2⟩, by first | exact hB.out | exact hB.out.drew⟩
        case measure => exact measK hgo
    · have hgo' : ¬ (k : Int) < (N : Int) := by omega
      have e : Hid ((y : Int) = ((sl L x : Nat) : Int)) := by
        have h := hS.out
        rw [List.take_of_length_le (by have := HN.out; omega)] at h
        show _ = _
        rw [h]
      go_wp2
      go_ret
      exact ⟨ret_int e.out, hB.out⟩

end Go.Proofs.Ytngdhhhdnkkagaa.Calls104
