/-
  Package crt: two rests joined, the limits of many, and what Solve answers.
-/
import Derived.Test.YtoohnfcikapmlaaCalls24
namespace Go.Proofs.Ytoohnfcikapmlaa.Calls25
set_option linter.unusedVariables false
open Go.ChangeShapes Go.WideShapes Go.ChangeAt Go.RowKit Go.Proofs.Ytoohnfcikapmlaa.Base Go.Proofs.Ytoohnfcikapmlaa.Num14 Go.Proofs.Ytoohnfcikapmlaa.Num27 Go.Proofs.Ytoohnfcikapmlaa.Calls24

theorem tdiv_of_dvd {a b : Int} (h : b ∣ a) : a.tdiv b = a / b := by
  rw [Int.tdiv_eq_ediv_of_dvd h]

set_option maxRecDepth 100000 in
theorem join_yes (A b : Int) (M n : Nat) (w : World) (hM : 1 ≤ M) (hA0 : 0 ≤ A) (hA1 : A < (M : Int)) (hr : OkR (b, (n : Int))) (hl : Nat.lcm M n ≤ 2147483648) (hd : ((Nat.gcd M n : Nat) : Int) ∣ b - A) :
    Calls Try.prog 29 #[.agg #[.int .i64 A, .int .i64 (M : Int)], .agg #[.int .i64 b, .int .i64 (n : Int)]] w fun e w' =>
      (∃ C : Int, e = .returned (.tuple #[.agg #[.int .i64 C, .int .i64 (Nat.lcm M n : Int)], .bool true]) ∧ Fits C (A, M) ∧ Fits C (b, n) ∧ 0 ≤ C ∧ C < ((Nat.lcm M n : Nat) : Int)) ∧ Below w.heap.size w w' := by
  obtain ⟨h1, h2, h3, h4⟩ := hr
  simp only at h1 h2 h3 h4
  have hn1 : 1 ≤ n := by omega
  have hn2 : n ≤ 1048576 := by omega
  have hM2 : M ≤ 2147483648 := Nat.le_trans (Nat.le_of_dvd (Nat.lcm_pos hM hn1) (Nat.dvd_lcm_left _ _)) hl
  have cB := fun w => Bezout_b M n w hM hM2 hn1 (by omega)
  have HD := hid hd
  have HL := hid hl
  clear hd hl
  go_enter Try.func29, Try.ntmps29
  go_wp2_with (first
    | (go_at_call 39; refine (cB _).mono ?_; rintro e w1 ⟨x, y, g, rfl, hg, hx0, hx1, hx2, hB1⟩; have HG := hid hg; have HX := hid hx2; obtain ⟨b0, b1, b2⟩ := boxes3 hB1; have B2 := hid b2; have c00 := b0.cell 0; have c01 := b0.cell 1; have c10 := b1.cell 0; have c11 := b1.cell 1; have c20 := b2.cell 0; have c21 := b2.cell 1; have f20 := b2.frozen 0; have f21 := b2.frozen 1; simp at c00 c01 c10 c11 c20 c21; obtain ⟨k1, k2, k3, k4, k5, k6, k7, k8, k9⟩ := join_bd hM hn1 hn2 hA0 hA1 HL.out hg h3 h4 hx0 hx1; have k0 : ¬ g = 0 := (by omega); have hd1 : (b - A).tmod g = 0 := (by rw [hg]; exact Int.tmod_eq_zero_of_dvd HD.out); have hd2 : (b - A).tdiv g = (b - A) / g := tdiv_of_dvd (by rw [hg]; exact HD.out); obtain ⟨j1, j2, j3, j4, j5⟩ := join_ok hM hn1 hA0 hA1 hg hx2 (by rw [hg]; exact HD.out); have J1 := hid j1; have J2 := hid j2; have J3 := hid j3; have m1 : (n : Int) / g * (M : Int) ≤ 2147483648 := (by rw [j1]; have hh := HL.out; omega); have m2 : 0 ≤ (n : Int) / g * (M : Int) := (by rw [j1]; exact Int.natCast_nonneg _); have m3 : 0 ≤ (b - A) / g * x % ((n : Int) / g) * (M : Int) := Int.mul_nonneg (Int.emod_nonneg _ (by omega)) (by omega); have m4 : A + (b - A) / g * x % ((n : Int) / g) * (M : Int) ≤ 2147483648 := Int.le_trans (Int.le_of_lt j5) (by have hh := HL.out; omega); have J4 := hid j4; have J5 := hid j5; clear hg hx2 b0 b1 b2 j1 j2 j3 j4 j5)
    | (go_at_call 40; refine (cleft_any _ _ _ (by omega) (by omega)).mono ?_; rintro e w' ⟨rfl, hw⟩; subst w'))
  have r := B2.out.set2 (.int .i64 (A + (b - A) / g * x % ((n : Int) / g) * (M : Int))) (.int .i64 ((n : Int) / g * (M : Int)))
  have r0 := r.cell 0
  have r1 := r.cell 1
  simp at r0 r1
  have hb0 : Below w.heap.size w w1 := by
    refine (((Below.refl _ w).alloc (Nat.le_refl _) _).alloc ?_ _).alloc ?_ _ |>.trans (hB1.mono ?_) <;> simp [Nat.add_assoc]
  refine bodyPost_ret (v := .tuple #[.agg #[.int .i64 (A + (b - A) / g * x % ((n : Int) / g) * (M : Int)), .int .i64 ((n : Int) / g * (M : Int))], .bool true]) (by simp [results, Try.results29, go_sem, r0, r1]) rfl ⟨⟨_, ?_, J2.out, J3.out, J4.out, J5.out⟩, (hb0.setCell (by simp [Nat.add_assoc]) _).setCell (by simp [Nat.add_assoc]) _⟩
  rw [J1.out]

set_option maxRecDepth 100000 in
theorem join_no (A b : Int) (M n : Nat) (w : World) (hM : 1 ≤ M) (hM2 : M ≤ 2147483648) (hA0 : 0 ≤ A) (hA1 : A < (M : Int)) (hr : OkR (b, (n : Int))) (hd : ¬ ((Nat.gcd M n : Nat) : Int) ∣ b - A) :
    Calls Try.prog 29 #[.agg #[.int .i64 A, .int .i64 (M : Int)], .agg #[.int .i64 b, .int .i64 (n : Int)]] w fun e w' =>
      e = .returned (.tuple #[.agg #[.int .i64 0, .int .i64 0], .bool false]) ∧ Below w.heap.size w w' := by
  obtain ⟨h1, h2, h3, h4⟩ := hr
  simp only at h1 h2 h3 h4
  have hn1 : 1 ≤ n := by omega
  have hn2 : n ≤ 1048576 := by omega
  have cB := fun w => Bezout_b M n w hM hM2 hn1 (by omega)
  have hg1 : 1 ≤ Nat.gcd M n := Nat.gcd_pos_of_pos_left _ hM
  have HD := hid hd
  clear hd
  go_enter Try.func29, Try.ntmps29
  go_wp2_with (first
    | (go_at_call 39; refine (cB _).mono ?_; rintro e w1 ⟨x, y, g, rfl, hg, hx0, hx1, hx2, hB1⟩; obtain ⟨b0, b1, b2⟩ := boxes3 hB1; have B2 := hid b2; have c00 := b0.cell 0; have c01 := b0.cell 1; have c10 := b1.cell 0; have c11 := b1.cell 1; have c20 := b2.cell 0; have c21 := b2.cell 1; have f20 := b2.frozen 0; have f21 := b2.frozen 1; simp at c00 c01 c10 c11 c20 c21; have k0 : ¬ g = 0 := (by omega); have hd1 : ¬ (b - A).tmod g = 0 := (by rw [hg]; exact fun h => HD.out (Int.dvd_of_tmod_eq_zero h)); clear hg hx2 b0 b1 b2 hx0 hx1))
  have r := B2.out.set2 (.int .i64 0) (.int .i64 0)
  have r0 := r.cell 0
  have r1 := r.cell 1
  simp at r0 r1
  have hb0 : Below w.heap.size w w1 := by
    refine (((Below.refl _ w).alloc (Nat.le_refl _) _).alloc ?_ _).alloc ?_ _ |>.trans (hB1.mono ?_) <;> simp [Nat.add_assoc]
  exact bodyPost_ret (v := .tuple #[.agg #[.int .i64 0, .int .i64 0], .bool false]) (by simp [results, Try.results29, go_sem, r0, r1]) rfl ⟨rfl, (hb0.setCell (by simp [Nat.add_assoc]) _).setCell (by simp [Nat.add_assoc]) _⟩

/-- The first k rests are within the limits. -/
def Firsts (l : List (Int × Int)) (k : Nat) : Prop := ∀ j, j < k → OkR (l.getD j (0, 0))

theorem Firsts.next {l : List (Int × Int)} {k : Nat} (h : Firsts l k) (hk : OkR (l.getD k (0, 0))) : Firsts l (k + 1) := fun j hj => by
  by_cases e : j = k
  · subst e; exact hk
  · exact h j (by omega)

theorem lc_pos_first {l : List (Int × Int)} {k : Nat} (h : Firsts l k) (hk : k ≤ l.length) : 1 ≤ lc (nats l) k := by
  induction k with
  | zero => exact Nat.le_refl _
  | succ k ih =>
    refine Nat.lcm_pos (ih (fun j hj => h j (by omega)) (by omega)) ?_
    rw [nats_get (by omega)]
    have := (h k (by omega)).1
    show 1 ≤ (l.getD k (0, 0)).2.toNat
    omega

set_option maxRecDepth 100000 in
theorem inRange_any (bo : Option Addr) (cb : Nat) (l : List (Int × Int)) (hl : l.length ≤ 8) (w : World) (hrow : PRow w bo l) (hblk : Lies w bo l) :
    Calls Try.prog 28 #[.slice bo l.length cb] w fun e w' => Says (InR l) e ∧ Below w.heap.size w w' := by
  go_enter Try.func28, Try.ntmps28
  go_wp2
  go_loopw [3, 8] (fun c i wr => ∃ k m : Nat, c = .int .i64 (m : Int) ∧ i = .int .i64 (k : Int) ∧ k ≤ l.length ∧ 1 ≤ m ∧ m ≤ 2147483648 ∧ Hid (m = lc (nats l) k) ∧ Hid (Firsts l k) ∧ Below w.heap.size w wr) (fun c i wr => ((l.length : Int) - intOf i).toNat)
  case atStart => exact ⟨0, 1, rfl, rfl, by omega, by omega, by omega, rfl, fun j hj => by omega, Below.refl _ _⟩
  case round =>
    obtain ⟨k, m, rfl, rfl, hk, hm1, hm2, hm, hF, hBr⟩ := hrel
    by_cases hgo : k < l.length
    · have hgo' : (k : Int) < (l.length : Int) := by omega
      rcases bo with _ | ad
      · exact (prow_none hrow hgo).elim
      · obtain ⟨c1, c2⟩ := prow_at (prow_below hrow hBr hblk) hgo
        obtain ⟨x, hx⟩ : ∃ x, l.getD k (0, 0) = x := ⟨_, rfl⟩
        rw [hx] at c1 c2
        have HX := hid hx
        clear hx
        by_cases hok : OkR x
        · obtain ⟨n, hn⟩ : ∃ n : Nat, x.2 = (n : Int) := ⟨x.2.toNat, by have := hok.1; omega⟩
          rw [hn] at c2
          have ho1 := hok.1
          have ho2 := hok.2.1
          rw [hn] at ho1 ho2
          have hlc : lc (nats l) (k + 1) = Nat.lcm m n := by rw [lc_next hgo (a := x.1) (n := n) (by rw [HX.out, ← hn]), hm.out]
          have hF2 := hid (hF.out.next (by rw [HX.out]; exact hok))
          have cR := fun w => isRest_yes x.1 (n : Int) w (by rw [← hn]; exact hok)
          have cL := fun w => Lcm_b m n w hm1 hm2 (by omega) (by omega)
          have HLC := hid hlc
          have hp : 1 ≤ Nat.lcm m n := Nat.lcm_pos hm1 (by omega)
          clear hok hn hlc
          by_cases hbig : Nat.lcm m n ≤ 2147483648
          · have hbig' : ((Nat.lcm m n : Nat) : Int) ≤ 2147483648 := by omega
            go_wp2_with (first | (go_at_call 38; refine (cR _).mono ?_; rintro e w2 ⟨rfl, hB2⟩; obtain ⟨k0, k1⟩ := box_cells hB2) | (go_at_call 30; refine (cL _).mono ?_; rintro e w3 ⟨rfl, hB3⟩))
            go_roundw
            case rel => exact ⟨k + 1, Nat.lcm m n, rfl, by simp, by omega, hp, hbig, HLC.out.symm, hF2, hBr.trans ((below_trans (below_trans ((Below.refl _ _).alloc (Nat.le_refl _) _) hB2) hB3).mono hBr.size)⟩
            case measure => exact measK hgo
          · have hbig' : ¬ ((Nat.lcm m n : Nat) : Int) ≤ 2147483648 := by omega
            have hno : Hid (¬ InR l) := fun h => hbig (by rw [← HLC.out]; exact h.lc_le (by omega))
            clear hbig
            go_wp2_with (first | (go_at_call 38; refine (cR _).mono ?_; rintro e w2 ⟨rfl, hB2⟩; obtain ⟨k0, k1⟩ := box_cells hB2) | (go_at_call 30; refine (cL _).mono ?_; rintro e w3 ⟨rfl, hB3⟩))
            go_ret
            exact ⟨Says.no hno.out, hBr.trans ((below_trans (below_trans ((Below.refl _ _).alloc (Nat.le_refl _) _) hB2) hB3).mono hBr.size)⟩
        · have hno : Hid (¬ InR l) := fun h => hok (by rw [← HX.out]; exact h.each k hgo)
          have cR := fun w => isRest_no x.1 x.2 w hok
          clear hok
          go_wp2_with (go_at_call 38; refine (cR _).mono ?_; rintro e w2 ⟨rfl, hB2⟩)
          go_ret
          exact ⟨Says.no hno.out, hBr.trans ((below_trans ((Below.refl _ _).alloc (Nat.le_refl _) _) hB2).mono hBr.size)⟩
    · have hgo' : ¬ (k : Int) < (l.length : Int) := by omega
      have e : k = l.length := by omega
      have hin : Hid (InR l) := ⟨by rw [← e]; exact hF.out, by rw [← e, ← hm.out]; exact hm2⟩
      clear e
      go_wp2
      go_ret
      exact ⟨Says.yes hin.out, hBr⟩

theorem inRange_yes (bo : Option Addr) (cb : Nat) (l : List (Int × Int)) (hl : l.length ≤ 8) (w : World) (hrow : PRow w bo l) (hblk : Lies w bo l) (h : InR l) :
    Calls Try.prog 28 #[.slice bo l.length cb] w fun e w' => e = .returned (.bool true) ∧ Below w.heap.size w w' :=
  (inRange_any bo cb l hl w hrow hblk).mono fun e w' ⟨h1, h2⟩ => ⟨h1.get h, h2⟩

theorem inRange_no (bo : Option Addr) (cb : Nat) (l : List (Int × Int)) (hl : l.length ≤ 8) (w : World) (hrow : PRow w bo l) (hblk : Lies w bo l) (h : ¬ InR l) :
    Calls Try.prog 28 #[.slice bo l.length cb] w fun e w' => e = .returned (.bool false) ∧ Below w.heap.size w w' :=
  (inRange_any bo cb l hl w hrow hblk).mono fun e w' ⟨h1, h2⟩ => ⟨h1.not h, h2⟩

theorem Solve_large (bo : Option Addr) (cb : Nat) (l : List (Int × Int)) (hl : 8 < l.length) (w : World) :
    Calls Try.prog 20 #[.slice bo l.length cb] w fun e w' => e = .returned (.tuple #[.agg #[.int .i64 0, .int .i64 0], .int .i64 1]) ∧ Below w.heap.size w w' := by
  have hl' : 8 < (l.length : Int) := by omega
  clear hl
  go_enter Try.func20, Try.ntmps20
  go_wp2
  exact bodyPost_ret (v := .tuple #[.agg #[.int .i64 0, .int .i64 0], .int .i64 1]) (by simp [results, Try.results20, go_sem]) rfl ⟨rfl, (Below.refl _ _).alloc (Nat.le_refl _) _⟩

theorem Solve_range (bo : Option Addr) (cb : Nat) (l : List (Int × Int)) (hl : l.length ≤ 8) (w : World) (hrow : PRow w bo l) (hblk : Lies w bo l) (h : ¬ InR l) :
    Calls Try.prog 20 #[.slice bo l.length cb] w fun e w' => e = .returned (.tuple #[.agg #[.int .i64 0, .int .i64 0], .int .i64 2]) ∧ Below w.heap.size w w' := by
  have hl' : ¬ 8 < (l.length : Int) := by omega
  have hal : Below w.heap.size w (w.alloc (.cells #[.int .i64 0, .int .i64 0] 43)) := (Below.refl _ _).alloc (Nat.le_refl _) _
  have HR := hid (inRange_no bo cb l hl _ (prow_below hrow hal hblk) (hblk.below hal) h)
  clear hl h
  go_enter Try.func20, Try.ntmps20
  go_wp2_with (go_at_call 28; refine HR.out.mono ?_; rintro e w1 ⟨rfl, hB1⟩; have b0 := (BoxC.new w 43 #[.int .i64 0, .int .i64 0]).below hB1 (by simp); have B0 := hid b0; have c0 := b0.cell 0; have c1 := b0.cell 1; have f0 := b0.frozen 0; have f1 := b0.frozen 1; simp at c0 c1; clear b0)
  have r := B0.out.set2 (.int .i64 0) (.int .i64 0)
  have r0 := r.cell 0
  have r1 := r.cell 1
  simp at r0 r1
  exact bodyPost_ret (v := .tuple #[.agg #[.int .i64 0, .int .i64 0], .int .i64 2]) (by simp [results, Try.results20, go_sem, r0, r1]) rfl ⟨rfl, ((below_trans hal hB1).setCell (by simp) _).setCell (by simp) _⟩

end Go.Proofs.Ytoohnfcikapmlaa.Calls25
