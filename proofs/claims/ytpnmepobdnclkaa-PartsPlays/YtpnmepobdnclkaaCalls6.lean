/-
  What leastFactor, Bezout and Inverse of the program answer at every input, and two helpers of the statements.
-/
import Derived.Test.YtpnmepobdnclkaaCalls5
namespace Go.Proofs.Ytpnmepobdnclkaa.Calls6
set_option linter.unusedVariables false
open Go.ChangeShapes Go.WideShapes Go.ChangeAt Go.RowKit Go.Proofs.Ytpnmepobdnclkaa.Math Go.Proofs.Ytpnmepobdnclkaa.Calls1 Go.Proofs.Ytpnmepobdnclkaa.Calls2 Go.Proofs.Ytpnmepobdnclkaa.Calls3 Go.Proofs.Ytpnmepobdnclkaa.Calls4 Go.Proofs.Ytpnmepobdnclkaa.Calls5

theorem hid {p : Prop} (h : p) : Hid p := h

/-! ### plain arithmetic -/

theorem sg_mul (a : Int) : sg a * a = (a.natAbs : Int) := by
  unfold sg; split
  · omega
  · split <;> omega

theorem mul_sg_bd {x a : Int} (h1 : -2147483648 ≤ x) (h2 : x ≤ 2147483648) : -2147483648 ≤ x * sg a ∧ x * sg a ≤ 2147483648 := by
  unfold sg; split
  · omega
  · split <;> omega

theorem quot_bd {a b : Int} (hb : b ≠ 0) : 1 ≤ gg a b ∧ 1 ≤ (b.natAbs : Int) / gg a b ∧ (b.natAbs : Int) / gg a b ≤ b.natAbs := by
  have g := gg_pos (a := a) (Or.inr hb)
  have d : gg a b ∣ (b.natAbs : Int) := Int.dvd_natAbs.mpr (gg_right a b)
  refine ⟨g, ?_, Int.ediv_le_self _ (by omega)⟩
  have := Int.ediv_pos_of_pos_of_dvd (a := (b.natAbs : Int)) (b := gg a b) (by omega) (by omega) d
  omega

theorem least_ok {a b x0 : Int} (hb : b ≠ 0) (h : (b.natAbs : Int) ∣ x0 * a.natAbs - gg a b) :
    0 ≤ (x0 * sg a) % ((b.natAbs : Int) / gg a b) ∧ (x0 * sg a) % ((b.natAbs : Int) / gg a b) < (b.natAbs : Int) / gg a b ∧
      b ∣ (x0 * sg a) % ((b.natAbs : Int) / gg a b) * a - gg a b := by
  obtain ⟨g, m1, m2⟩ := quot_bd (a := a) hb
  have d : gg a b ∣ (b.natAbs : Int) := Int.dvd_natAbs.mpr (gg_right a b)
  have em : (b.natAbs : Int) / gg a b * gg a b = (b.natAbs : Int) := Int.ediv_mul_cancel d
  obtain ⟨a', ea⟩ := gg_left a b
  generalize hG : gg a b = G at *
  generalize hM : (b.natAbs : Int) / G = m at *
  refine ⟨Int.emod_nonneg _ (by omega), Int.emod_lt_of_pos _ (by omega), ?_⟩
  apply Int.natAbs_dvd.mp
  have e1 : x0 * sg a * a = x0 * (a.natAbs : Int) := by rw [Int.mul_assoc, sg_mul]
  have e2 : (x0 * sg a) % m * a - G = (x0 * (a.natAbs : Int) - G) - m * (x0 * sg a / m) * a := by
    rw [Int.emod_def, Int.sub_mul, e1]; omega
  rw [e2]
  refine Int.dvd_sub h ⟨x0 * sg a / m * a', ?_⟩
  rw [← em]
  generalize x0 * sg a / m = k
  conv => lhs; rw [ea]
  ac_rfl

/-! ### the program -/

theorem leastFactor_any (a b : Int) (w : World) (hb : b ≠ 0) (ha1 : -2147483648 ≤ a) (ha2 : a ≤ 2147483648) (hb1 : -2147483648 ≤ b) (hb2 : b ≤ 2147483648) :
    Calls Try.prog 81 #[.int .i64 a, .int .i64 b] w fun e w' =>
      ∃ x : Int, e = .returned (.tuple #[.int .i64 (gg a b), .int .i64 x]) ∧ 0 ≤ x ∧ x < (b.natAbs : Int) / gg a b ∧ b ∣ x * a - gg a b ∧ w' = w := by
  obtain ⟨g1, m1, m2⟩ := quot_bd (a := a) hb
  have H := gg_abs a b
  have HL := fun (x0 : Int) (h : (b.natAbs : Int) ∣ x0 * a.natAbs - gg a.natAbs b.natAbs) => least_ok (a := a) (b := b) (x0 := x0) hb (by rw [← gg_abs a b]; exact h)
  rw [← H] at g1 m1 m2 HL ⊢
  have HL' := hid HL
  clear H HL
  have m0 : ¬ gg (a.natAbs : Int) (b.natAbs : Int) = 0 := by omega
  clear hb
  go_enter Try.func81, Try.ntmps81
  go_wp2_with (first
    | (go_at_call 86; refine (sign_any _ _).mono ?_; rintro e w' ⟨rfl, rfl⟩)
    | (go_at_call 85; refine (left_any _ _ _ (by omega) (by omega)).mono ?_; rintro e w' ⟨rfl, rfl⟩)
    | (go_at_call 84; refine (abs_any _ _ (by omega) (by omega)).mono ?_; rintro e w' ⟨rfl, rfl⟩)
    | (go_at_call 83; refine (extend_any _ _ _ (by omega) (by omega) (by omega) (by omega)).mono ?_; rintro e w' ⟨x, rfl, hx1, hx2, hx3, rfl⟩; have HX := hid hx3; clear hx3; obtain ⟨sl, su⟩ := mul_sg_bd (a := a) hx1 hx2))
  go_ret2
  obtain ⟨r1, r2, r3⟩ := HL'.out _ HX.out
  exact ⟨_, rfl, r1, r2, r3, rfl⟩

theorem prod_bd {x a m : Int} (h0 : 0 ≤ x) (h1 : x < m) (h2 : m ≤ 2147483648) (ha1 : -2147483648 ≤ a) (ha2 : a ≤ 2147483648) :
    -4611686018427387904 ≤ x * a ∧ x * a ≤ 4611686018427387904 := by
  have u := Int.mul_le_mul_of_nonneg_left ha2 h0
  have l := Int.mul_le_mul_of_nonneg_left ha1 h0
  omega

theorem quo_bd {z b : Int} (h1 : -9000000000000000000 ≤ z) (h2 : z ≤ 9000000000000000000) : -9000000000000000000 ≤ z.tdiv b ∧ z.tdiv b ≤ 9000000000000000000 := by
  have h : (z.tdiv b).natAbs ≤ z.natAbs := by
    rw [Int.natAbs_tdiv]; exact Nat.div_le_self _ _
  omega

theorem one_yes (a : Int) (w : World) (ha1 : -2147483648 ≤ a) (ha2 : a ≤ 2147483648) :
    Calls Try.prog 80 #[.slice (some ⟨w.heap.size, 0, none⟩) 1 1] (w.alloc (.cells #[.int .i64 a] 2)) fun e w' => e = .returned (.bool true) ∧ w' = w.alloc (.cells #[.int .i64 a] 2) := by
  refine inRange_yes w.heap.size 1 (fun _ => a) _ (by omega) ?_ ?_
  · intro k hk
    match k, hk with
    | 0, _ => simp
  · intro k hk
    exact ⟨ha1, ha2⟩

theorem one_no (a : Int) (w : World) (h : a < -2147483648 ∨ 2147483648 < a) :
    Calls Try.prog 80 #[.slice (some ⟨w.heap.size, 0, none⟩) 1 1] (w.alloc (.cells #[.int .i64 a] 2)) fun e w' => e = .returned (.bool false) ∧ w' = w.alloc (.cells #[.int .i64 a] 2) := by
  refine inRange_no w.heap.size 1 (fun _ => a) _ (by omega) ?_ ?_
  · intro k hk
    match k, hk with
    | 0, _ => simp
  · exact ⟨0, by omega, h⟩

theorem Inverse_far (a m : Int) (w : World) (h : a < -2147483648 ∨ 2147483648 < a) :
    Calls Try.prog 74 #[.int .i64 a, .int .i64 m] w fun e w' =>
      e = .returned (.tuple #[.int .i64 0, .int .i64 2]) ∧ Grown w w' := by
  have H := hid h
  clear h
  go_enter Try.func74, Try.ntmps74
  go_wp2_with (go_at_call 80; refine (one_no a _ H.out).mono ?_; rintro e w' ⟨rfl, rfl⟩)
  go_ret2
  exact ⟨rfl, (Grown.refl _).alloc _ _⟩

theorem Inverse_mod (a m : Int) (w : World) (ha1 : -2147483648 ≤ a) (ha2 : a ≤ 2147483648) (h : m < 1 ∨ 1048576 < m) :
    Calls Try.prog 74 #[.int .i64 a, .int .i64 m] w fun e w' =>
      e = .returned (.tuple #[.int .i64 0, .int .i64 2]) ∧ Grown w w' := by
  by_cases h1 : m < 1
  · have d1 : decide (m < 1) = true := by simpa using h1
    clear h h1
    go_enter Try.func74, Try.ntmps74
    go_wp2_with (go_at_call 80; refine (one_yes a _ ha1 ha2).mono ?_; rintro e w' ⟨rfl, rfl⟩)
    go_ret2
    exact ⟨rfl, (Grown.refl _).alloc _ _⟩
  · have d1 : decide (m < 1) = false := by simpa using h1
    have d2 : decide (1048576 < m) = true := by simp; omega
    clear h h1
    go_enter Try.func74, Try.ntmps74
    go_wp2_with (go_at_call 80; refine (one_yes a _ ha1 ha2).mono ?_; rintro e w' ⟨rfl, rfl⟩)
    go_ret2
    exact ⟨rfl, (Grown.refl _).alloc _ _⟩

theorem Inverse_none (a m : Int) (w : World) (ha1 : -2147483648 ≤ a) (ha2 : a ≤ 2147483648) (h1 : 1 ≤ m) (h2 : m ≤ 1048576) (hg : gg a m ≠ 1) :
    Calls Try.prog 74 #[.int .i64 a, .int .i64 m] w fun e w' =>
      e = .returned (.tuple #[.int .i64 0, .int .i64 5]) ∧ Grown w w' := by
  have d1 : decide (m < 1) = false := by simp; omega
  have d2 : decide (1048576 < m) = false := by simp; omega
  have hg1 : (gg a m == 1) = false := by simpa using hg
  clear hg
  go_enter Try.func74, Try.ntmps74
  go_wp2_with (first
    | (go_at_call 80; refine (one_yes a _ ha1 ha2).mono ?_; rintro e w' ⟨rfl, rfl⟩)
    | (go_at_call 81; refine (leastFactor_any _ _ _ (by omega) ha1 ha2 (by omega) (by omega)).mono ?_; rintro e w' ⟨x, rfl, hx1, hx2, hx3, rfl⟩; clear hx3))
  go_ret2
  exact ⟨rfl, (Grown.refl _).alloc _ _⟩

theorem Inverse_yes (a m : Int) (w : World) (ha1 : -2147483648 ≤ a) (ha2 : a ≤ 2147483648) (h1 : 1 ≤ m) (h2 : m ≤ 1048576) (hg : gg a m = 1) :
    Calls Try.prog 74 #[.int .i64 a, .int .i64 m] w fun e w' =>
      ∃ x : Int, e = .returned (.tuple #[.int .i64 x, .int .i64 0]) ∧ 0 ≤ x ∧ x < m ∧ m ∣ x * a - 1 ∧ Grown w w' := by
  have d1 : decide (m < 1) = false := by simp; omega
  have d2 : decide (1048576 < m) = false := by simp; omega
  have hm : (m.natAbs : Int) / 1 = m := by omega
  have HG := hid hg
  have HM := hid hm
  clear hg hm
  go_enter Try.func74, Try.ntmps74
  go_wp2_with (first
    | (go_at_call 80; refine (one_yes a _ ha1 ha2).mono ?_; rintro e w' ⟨rfl, rfl⟩)
    | (go_at_call 81; refine (leastFactor_any _ _ _ (by omega) ha1 ha2 (by omega) (by omega)).mono ?_; rw [HG.out, HM.out]; rintro e w' ⟨x, rfl, hx1, hx2, hx3, rfl⟩; have HX := hid hx3; clear hx3))
  go_ret2
  exact ⟨x, rfl, hx1, hx2, HX.out, (Grown.refl _).alloc _ _⟩

end Go.Proofs.Ytpnmepobdnclkaa.Calls6
