/-
  What package cycle answers at every input: the next number, who meet, who come together, how long a round is.
-/
import Derived.Test.YtjfgnpgbphdalaaCalls4
import Derived.Test.YtjfgnpgbphdalaaCalls20
import Derived.Test.YtjfgnpgbphdalaaNum33
import Derived.Deep.RegionHeld3
import Derived.Deep.LoopGhost
namespace Go.Proofs.Ytjfgnpgbphdalaa.Calls54
set_option linter.unusedVariables false
open Go.ChangeShapes Go.WideShapes Go.ChangeAt Go.RowKit Go.Proofs.Ytjfgnpgbphdalaa.Num Go.Proofs.Ytjfgnpgbphdalaa.Num13 Go.Proofs.Ytjfgnpgbphdalaa.Num18 Go.Proofs.Ytjfgnpgbphdalaa.Num33 Go.Proofs.Ytjfgnpgbphdalaa.Calls8 Go.Proofs.Ytjfgnpgbphdalaa.Calls9 Go.Proofs.Ytjfgnpgbphdalaa.Calls19 Go.Proofs.Ytjfgnpgbphdalaa.Calls20
open Go.Proofs.Ytjfgnpgbphdalaa.Math (gg gg_abs)
open Go.Proofs.Ytjfgnpgbphdalaa.Calls1 (tmod_bd abs_any)
open Go.Proofs.Ytjfgnpgbphdalaa.Calls2 (extend_any)
open Go.Proofs.Ytjfgnpgbphdalaa.Calls3 (two_yes)

theorem left_rs (a : Int) (m : Nat) (h1 : 1 ≤ m) (h2 : m ≤ 1048576) (w : World) :
    Calls Try.prog 18 #[.int .i64 a, .int .i64 (m : Int)] w fun e w' => e = .returned (.int .i64 (rs a m : Int)) ∧ w' = w := by
  have hb := tmod_bd (n := a) (m := m) (by omega)
  have H := hid (two_mod a h1)
  have h0 : ¬ (m : Int) = 0 := by omega
  have hq0 : 0 ≤ a.tmod (m : Int) + (m : Int) := by omega
  go_enter Try.func18, Try.ntmps18
  go_wp2
  go_ret
  exact ⟨ret_int (by rw [← H.out]), rfl⟩

/-- The block that a rule lies in. -/
abbrev bx (c n : Nat) : Obj := .cells #[.int .i64 (c : Int), .int .i64 (n : Int)] 37

theorem next_any (c n x : Nat) (hn1 : 1 ≤ n) (hc : c < n) (hn : n ≤ 1048576) (hx : x < n) (w : World) :
    Calls Try.prog 26 #[.agg #[.int .i64 (c : Int), .int .i64 (n : Int)], .int .i64 (x : Int)] w fun e w' => e = .returned (.int .i64 ((nx c n x : Nat) : Int)) ∧ w' = w.alloc (bx c n) := by
  have H := hid (nx_cast c n x)
  obtain ⟨b1, b2⟩ := mul_bd hx hx hn
  have h0 : ¬ (n : Int) = 0 := by omega
  go_enter Try.func26, Try.ntmps26
  go_wp2
  go_ret
  exact ⟨ret_int H.out.symm, rfl⟩

/-- The rule's own block lies there; what was there before lies as it lay. -/
def Bo (w wr : World) (c n : Nat) : Prop := BoxC wr w.heap.size 37 #[.int .i64 (c : Int), .int .i64 (n : Int)] ∧ Below w.heap.size w wr

theorem Bo.new (w : World) (c n : Nat) : Bo w (w.alloc (bx c n)) c n := ⟨BoxC.new _ _ _, (Below.refl _ _).alloc (Nat.le_refl _) _⟩

theorem Bo.alloc {w wr : World} {c n : Nat} (h : Bo w wr c n) (o : Obj) : Bo w (wr.alloc o) c n := ⟨h.1.alloc o, h.2.alloc h.2.size _⟩

theorem Bo.drew {w wr : World} {c n : Nat} (h : Bo w wr c n) : Bo w wr.drew c n := ⟨h.1, h.2.drew⟩

theorem Bo.below {w wr w' : World} {c n : Nat} (h : Bo w wr c n) (hb : Below wr.heap.size wr w') : Bo w w' c n := ⟨(hb.block _ h.1.lt).trans h.1, below_trans h.2 hb⟩

theorem Bo.cells {w wr : World} {c n : Nat} (h : Bo w wr c n) : wr.cell? ⟨w.heap.size, 0, none⟩ = some (.int .i64 (c : Int)) ∧ wr.cell? ⟨w.heap.size, 1, none⟩ = some (.int .i64 (n : Int)) := ⟨by rw [h.1.cell 0]; rfl, by rw [h.1.cell 1]; rfl⟩

theorem bne_nat {a b : Nat} (h : ¬ a = b) : ((a : Int) != (b : Int)) = true := by
  have : ¬ (a : Int) = (b : Int) := by omega
  simpa using this

set_option maxRecDepth 100000 in
theorem meeting_any (c n x m : Nat) (hn1 : 1 ≤ n) (hc : c < n) (hn : n ≤ 1048576) (hx : x < n) (hm : Meet c n x m) (w : World) :
    Calls Try.prog 20 #[.agg #[.int .i64 (c : Int), .int .i64 (n : Int)], .int .i64 (x : Int)] w fun e w' => e = .returned (.int .i64 ((wk c n x m : Nat) : Int)) ∧ Below w.heap.size w w' := by
  have cN := fun y (hy : y < n) w => next_any c n y hn1 hc hn hy w
  have l1 := nx_lt c x hn1
  have l2 := nx_lt c (nx c n x) hn1
  have HM := hid hm
  have hm1 := hm.1
  clear hm
  go_enter Try.func20, Try.ntmps20
  go_wp2
  go_region_held3 (fun w' => w'.cell? ⟨w.heap.size, 0, none⟩ = some (.int .i64 (c : Int)) ∧ w'.cell? ⟨w.heap.size, 1, none⟩ = some (.int .i64 (n : Int))) (go_keep)
    (first | (go_at_call 26; refine (cN _ (by first | exact hx | exact l1) _).mono ?_; rintro e w' ⟨rfl, rfl⟩))
  go_wp2
  have hB0 := hid ((((Bo.new w c n).alloc (bx c n)).alloc (bx c n)).alloc (bx c n)).drew
  obtain ⟨W0, hW0⟩ : ∃ W0, ((((w.alloc (bx c n)).alloc (bx c n)).alloc (bx c n)).alloc (bx c n)).drew = W0 := ⟨_, rfl⟩
  rw [hW0] at hB0 ⊢
  clear hW0
  go_loopg [5, 6] (m - 1) (fun gk u v wr => ∃ k a b : Nat, u = .int .i64 (a : Int) ∧ v = .int .i64 (b : Int) ∧ Hid (gk = m - k) ∧ 1 ≤ k ∧ k ≤ m ∧ a < n ∧ b < n ∧ Hid (a = wk c n x k) ∧ Hid (b = wk c n x (2 * k)) ∧ Hid (Bo w wr c n))
  case atStart => exact ⟨1, _, _, rfl, rfl, rfl, by omega, hm1, l1, l2, rfl, rfl, hB0⟩
  case round =>
    obtain ⟨k, a, b, rfl, rfl, hgk, hk1, hkm, ha, hb, hA, hB, hBo⟩ := hrel
    by_cases e : a = b
    · subst e
      have hk : k = m := by
        rcases Nat.lt_or_ge k m with h | h
        · exact absurd (hA.out.symm.trans hB.out) (HM.out.2.2 k hk1 h)
        · omega
      subst hk
      go_wp2
      go_ret
      exact ⟨ret_int (by rw [hA.out]), hBo.out.2⟩
    · have hk : k + 1 ≤ m := by
        rcases Nat.lt_or_ge k m with h | h
        · omega
        · obtain rfl : k = m := by omega
          exact absurd (hA.out.trans (HM.out.2.1.trans hB.out.symm)) e
      have e1 := bne_nat e
      have e2 : ¬ (a : Int) = (b : Int) := by omega
      obtain ⟨c0, c1⟩ := hBo.out.cells
      have l1 := nx_lt c a hn1
      have l2 := nx_lt c b hn1
      have l3 := nx_lt c (nx c n b) hn1
      go_wp2
      go_region_held3 (fun w' => w'.cell? ⟨w.heap.size, 0, none⟩ = some (.int .i64 (c : Int)) ∧ w'.cell? ⟨w.heap.size, 1, none⟩ = some (.int .i64 (n : Int))) (first | exact hBo.out.cells | exact hBo.out.drew.cells | exact (hBo.out.alloc _).cells | exact (hBo.out.alloc _).drew.cells | exact ((hBo.out.alloc _).alloc _).cells | exact ((hBo.out.alloc _).alloc _).drew.cells | exact (((hBo.out.alloc _).alloc _).alloc _).cells | exact (((hBo.out.alloc _).alloc _).alloc _).drew.cells)
        (first | (go_at_call 26; refine (cN _ (by first | exact ha | exact hb | exact l2) _).mono ?_; rintro e w' ⟨rfl, rfl⟩))
      go_wp2
      go_roundg (m - (k + 1))
      case measure => have := hgk.out; omega
      case rel => exact ⟨k + 1, _, _, rfl, rfl, rfl, by omega, hk, l1, l3, by show _ = _; rw [hA.out]; rfl, by show _ = _; rw [hB.out]; rfl, (((hBo.out.alloc (bx c n)).alloc (bx c n)).alloc (bx c n)).drew⟩

set_option maxRecDepth 100000 in
theorem together_any (c n x m t s : Nat) (hn1 : 1 ≤ n) (hc : c < n) (hn : n ≤ 1048576) (hx : x < n) (hR : Rho (nx c n) x t s) (ht : t ≤ n) (hm1 : 1 ≤ m) (hms : s ∣ m) (w : World) :
    Calls Try.prog 19 #[.agg #[.int .i64 (c : Int), .int .i64 (n : Int)], .int .i64 (x : Int), .int .i64 ((wk c n x m : Nat) : Int)] w fun e w' => e = .returned (.tuple #[.int .i64 (t : Int), .int .i64 ((wk c n x t : Nat) : Int)]) ∧ Below w.heap.size w w' := by
  have cN := fun y (hy : y < n) w => next_any c n y hn1 hc hn hy w
  have H := hid (fun k => together_iff (k := k) hR hm1 hms)
  have hl := wk_lt (c := c) hx m
  obtain ⟨y, hy⟩ : ∃ y, y = wk c n x m := ⟨_, rfl⟩
  rw [← hy] at hl ⊢
  have HY := hid hy
  clear hy hR hms
  go_enter Try.func19, Try.ntmps19
  go_wp2
  have hB0 := hid (Bo.new w c n)
  obtain ⟨W0, hW0⟩ : ∃ W0, w.alloc (bx c n) = W0 := ⟨_, rfl⟩
  rw [hW0] at hB0 ⊢
  clear hW0
  go_loopw [1, 2, 8] (fun u v i wr => ∃ k a b : Nat, u = .int .i64 (a : Int) ∧ v = .int .i64 (b : Int) ∧ i = .int .i64 (k : Int) ∧ k ≤ t ∧ a < n ∧ b < n ∧ Hid (a = wk c n x k) ∧ Hid (b = wk c n x (m + k)) ∧ Hid (Bo w wr c n)) (fun u v i wr => t - (intOf i).toNat)
  case atStart => exact ⟨0, _, _, rfl, rfl, rfl, by omega, hx, hl, rfl, HY.out, hB0⟩
  case round =>
    obtain ⟨k, a, b, rfl, rfl, rfl, hkt, ha, hb, hA, hB, hBo⟩ := hrel
    by_cases e : a = b
    · subst e
      have hk : k = t := by
        have := (H.out k).1 (hA.out.symm.trans hB.out)
        omega
      subst hk
      go_wp2
      go_ret2
      exact ⟨by rw [hA.out]; rfl, hBo.out.2⟩
    · have hk : k < t := by
        rcases Nat.lt_or_ge k t with h | h
        · exact h
        · exact absurd (hA.out.trans (((H.out k).2 h).trans hB.out.symm)) e
      have e1 := bne_nat e
      have e2 : ¬ (a : Int) = (b : Int) := by omega
      obtain ⟨c0, c1⟩ := hBo.out.cells
      have l1 := nx_lt c a hn1
      have l2 := nx_lt c b hn1
      go_wp2
      go_region_held3 (fun w' => w'.cell? ⟨w.heap.size, 0, none⟩ = some (.int .i64 (c : Int)) ∧ w'.cell? ⟨w.heap.size, 1, none⟩ = some (.int .i64 (n : Int))) (first | exact hBo.out.cells | exact hBo.out.drew.cells | exact (hBo.out.alloc _).cells | exact (hBo.out.alloc _).drew.cells | exact ((hBo.out.alloc _).alloc _).cells | exact ((hBo.out.alloc _).alloc _).drew.cells | exact (((hBo.out.alloc _).alloc _).alloc _).cells | exact (((hBo.out.alloc _).alloc _).alloc _).drew.cells)
        (first | (go_at_call 26; refine (cN _ (by first | exact ha | exact hb) _).mono ?_; rintro e w' ⟨rfl, rfl⟩))
      go_wp2
      go_roundw
      case rel => exact ⟨k + 1, _, _, rfl, rfl, by simp, by omega, l1, l2, by show _ = _; rw [hA.out]; rfl, by show _ = _; rw [hB.out]; rfl, ((hBo.out.alloc (bx c n)).alloc (bx c n)).drew⟩
      case measure => simp [intOf]; omega

set_option maxRecDepth 100000 in
theorem round_any (c n x t s : Nat) (hn1 : 1 ≤ n) (hc : c < n) (hn : n ≤ 1048576) (hx : x < n) (hR : Rho (nx c n) x t s) (hs : s ≤ n) (w : World) :
    Calls Try.prog 21 #[.agg #[.int .i64 (c : Int), .int .i64 (n : Int)], .int .i64 ((wk c n x t : Nat) : Int)] w fun e w' => e = .returned (.int .i64 (s : Int)) ∧ Below w.heap.size w w' := by
  have cN := fun y (hy : y < n) w => next_any c n y hn1 hc hn hy w
  have hs1 := hR.pos
  have H := hid (fun k h1 h2 => hR.fewer (k := k) h1 h2)
  have HB := hid hR.back
  have hl := wk_lt (c := c) hx t
  obtain ⟨y, hy⟩ : ∃ y, y = wk c n x t := ⟨_, rfl⟩
  rw [← hy] at hl ⊢
  have HY := hid hy
  have l0 := nx_lt c y hn1
  clear hy hR
  go_enter Try.func21, Try.ntmps21
  go_wp2_with (go_at_call 26; refine (cN _ hl _).mono ?_; rintro e w' ⟨rfl, rfl⟩)
  have hB0 := hid ((Bo.new w c n).alloc (bx c n))
  obtain ⟨W0, hW0⟩ : ∃ W0, (w.alloc (bx c n)).alloc (bx c n) = W0 := ⟨_, rfl⟩
  rw [hW0] at hB0 ⊢
  clear hW0
  go_loopw [5, 6] (fun i v wr => ∃ k b : Nat, v = .int .i64 (b : Int) ∧ i = .int .i64 (k : Int) ∧ 1 ≤ k ∧ k ≤ s ∧ b < n ∧ Hid (b = wk c n x (t + k)) ∧ Hid (Bo w wr c n)) (fun i v wr => s - (intOf i).toNat)
  case atStart => exact ⟨1, _, rfl, rfl, by omega, by omega, l0, by show _ = _; rw [HY.out]; rfl, hB0⟩
  case round =>
    obtain ⟨k, b, rfl, rfl, hk1, hks, hb, hB, hBo⟩ := hrel
    by_cases e : b = y
    · subst e
      have hk : k = s := by
        rcases Nat.lt_or_ge k s with h | h
        · exact absurd (hB.out.symm.trans HY.out) (H.out k hk1 h)
        · omega
      subst hk
      go_wp2
      go_ret
      exact ⟨rfl, hBo.out.2⟩
    · have hk : k < s := by
        rcases Nat.lt_or_ge k s with h | h
        · exact h
        · obtain rfl : k = s := by omega
          exact absurd (hB.out.trans (HB.out.trans HY.out.symm)) e
      have e1 := bne_nat e
      have e2 : ¬ (b : Int) = (y : Int) := by omega
      obtain ⟨c0, c1⟩ := hBo.out.cells
      have l1 := nx_lt c b hn1
      go_wp2_with (go_at_call 26; refine (cN _ hb _).mono ?_; rintro e w' ⟨rfl, rfl⟩)
      go_roundw
      case rel => exact ⟨k + 1, _, rfl, by simp, by omega, by omega, l1, by show _ = _; rw [hB.out]; rfl, hBo.out.alloc (bx c n)⟩
      case measure => simp [intOf]; omega

theorem Gcd_c (a b : Int) (w : World) (ha1 : -2147483648 ≤ a) (ha2 : a ≤ 2147483648) (hb1 : -2147483648 ≤ b) (hb2 : b ≤ 2147483648) :
    Calls Try.prog 27 #[.int .i64 a, .int .i64 b] w fun e w' =>
      e = .returned (.tuple #[.int .i64 (gg a b), .int .i64 0]) ∧ Below w.heap.size w w' := by
  have H := gg_abs a b
  rw [← H]; clear H
  go_enter Try.func27, Try.ntmps27
  go_wp2_with (first
    | (go_at_call 29; refine (two_yes a b _ ha1 ha2 hb1 hb2).mono ?_; rintro e w' ⟨rfl, rfl⟩)
    | (go_at_call 31; refine (abs_any _ _ (by omega) (by omega)).mono ?_; rintro e w' ⟨rfl, rfl⟩)
    | (go_at_call 30; refine (extend_any _ _ _ (by omega) (by omega) (by omega) (by omega)).mono ?_; rintro e w' ⟨x, rfl, hx1, hx2, hx3, rfl⟩; clear hx3))
  go_ret2
  exact ⟨rfl, (Below.refl _ _).alloc (Nat.le_refl _) _⟩

theorem beq_one {d : Int} (h : ¬ d = 1) : (d == 1) = false := by simpa using h

set_option maxRecDepth 100000 in
theorem split_any (c n x m : Nat) (hn1 : 1 ≤ n) (hc : c < n) (hn : n ≤ 1048576) (hx : x < n) (hm : Fst c n x m) (hmb : m ≤ n) (w : World) :
    Calls Try.prog 24 #[.agg #[.int .i64 (c : Int), .int .i64 (n : Int)], .int .i64 (x : Int)] w fun e w' => e = .returned (.tuple #[.int .i64 (m : Int), .int .i64 (cm c n x m)]) ∧ Below w.heap.size w w' := by
  have cN := fun y (hy : y < n) w => next_any c n y hn1 hc hn hy w
  have HM := hid hm
  have hm1 := hm.pos
  clear hm
  go_enter Try.func24, Try.ntmps24
  go_wp2
  have hB0 := hid (Bo.new w c n)
  obtain ⟨W0, hW0⟩ : ∃ W0, w.alloc (bx c n) = W0 := ⟨_, rfl⟩
  rw [hW0] at hB0 ⊢
  clear hW0
  go_loopw [6, 7, 8, 9] (fun i g u v wr => ∃ (k a b : Nat) (d : Int), i = .int .i64 (k : Int) ∧ g = .int .i64 d ∧ u = .int .i64 (a : Int) ∧ v = .int .i64 (b : Int) ∧ k ≤ m ∧ a < n ∧ b < n ∧ Hid (a = wk c n x k) ∧ Hid (b = wk c n x (2 * k)) ∧ Hid (d = if k = 0 then 1 else cm c n x k) ∧ Hid (Bo w wr c n)) (fun i g u v wr => m - (intOf i).toNat)
  case atStart => exact ⟨0, _, _, _, rfl, rfl, rfl, rfl, by omega, hx, hx, rfl, rfl, rfl, hB0⟩
  case round =>
    obtain ⟨k, a, b, d, rfl, rfl, rfl, rfl, hkm, ha, hb, hA, hB, hD, hBo⟩ := hrel
    by_cases e : d = 1
    · subst e
      have hk : k < m := by
        rcases Nat.lt_or_ge k m with h | h
        · exact h
        · obtain rfl : k = m := by omega
          have h1 := hD.out
          rw [if_neg (by omega)] at h1
          exact absurd h1.symm HM.out.ne
      obtain ⟨c0, c1⟩ := hBo.out.cells
      have l1 := nx_lt c a hn1
      have l2 := nx_lt c b hn1
      have l3 := nx_lt c (nx c n b) hn1
      have cG := fun w => Gcd_c (((nx c n (nx c n b) : Nat) : Int) - ((nx c n a : Nat) : Int)) (n : Int) w (by omega) (by omega) (by omega) (by omega)
      have hg : Hid (gg (((nx c n (nx c n b) : Nat) : Int) - ((nx c n a : Nat) : Int)) (n : Int) = if k + 1 = 0 then 1 else cm c n x (k + 1)) := by
        show _ = _
        rw [if_neg (by omega), hA.out, hB.out]; rfl
      go_wp2
      go_region_held3 (fun w' => w'.cell? ⟨w.heap.size, 0, none⟩ = some (.int .i64 (c : Int)) ∧ w'.cell? ⟨w.heap.size, 1, none⟩ = some (.int .i64 (n : Int))) (first | exact hBo.out.cells | exact hBo.out.drew.cells | exact (hBo.out.alloc _).cells | exact (hBo.out.alloc _).drew.cells | exact ((hBo.out.alloc _).alloc _).cells | exact ((hBo.out.alloc _).alloc _).drew.cells | exact (((hBo.out.alloc _).alloc _).alloc _).cells | exact (((hBo.out.alloc _).alloc _).alloc _).drew.cells)
        (first | (go_at_call 26; refine (cN _ (by first | exact ha | exact hb | exact l2) _).mono ?_; rintro e w' ⟨rfl, rfl⟩))
      have hB2 := hid (((hBo.out.alloc (bx c n)).alloc (bx c n)).alloc (bx c n)).drew
      obtain ⟨W2, hW2⟩ : ∃ W2, (((wr.alloc (bx c n)).alloc (bx c n)).alloc (bx c n)).drew = W2 := ⟨_, rfl⟩
      rw [hW2] at hB2 ⊢
      clear hW2 c0 c1
      obtain ⟨c0, c1⟩ := hB2.out.cells
      go_wp2_with (go_at_call 27; refine (cG _).mono ?_; rintro e w3 ⟨rfl, hB3⟩)
      go_roundw
      case rel => exact ⟨k + 1, _, _, _, by simp, rfl, rfl, rfl, by omega, l1, l3, by show _ = _; rw [hA.out]; rfl, by show _ = _; rw [hB.out]; rfl, hg, hB2.out.below hB3⟩
      case measure => simp [intOf]; omega
    · have hk0 : ¬ k = 0 := fun h => e (by have := hD.out; rw [if_pos h] at this; exact this)
      have hd : Hid (d = cm c n x k) := by have := hD.out; rw [if_neg hk0] at this; exact this
      have hk : k = m := by
        rcases Nat.lt_or_ge k m with h | h
        · exact absurd (hd.out.trans (HM.out.least k (by omega) h)) e
        · omega
      subst hk
      have e1 := beq_one e
      go_wp2
      go_ret2
      exact ⟨by rw [hd.out]; rfl, hBo.out.2⟩

/-! ### the gate -/

set_option maxRecDepth 100000 in
theorem inRange_any (c x n : Int) (w : World) :
    Calls Try.prog 17 #[.agg #[.int .i64 c, .int .i64 x], .int .i64 n] w fun e w' => e = .returned (.bool (decide ((Nr c ∧ Nr x) ∧ Md n))) ∧ Below w.heap.size w w' := by
  have i0 : ∀ w, (Instr.index 34 (.agg #[.int .i64 c, .int .i64 x]) (.int .i64 0)).run Try.prog w = .ok (.int .i64 c) w := fun _ => by kernel_rfl
  have i1 : ∀ w, (Instr.index 34 (.agg #[.int .i64 c, .int .i64 x]) (.int .i64 1)).run Try.prog w = .ok (.int .i64 x) w := fun _ => by kernel_rfl
  by_cases h1 : Nr c
  · by_cases h2 : Nr x
    · by_cases h3 : 1 ≤ n
      · by_cases h4 : n ≤ 1048576
        · rw [decide_eq_true ⟨⟨h1, h2⟩, h3, h4⟩]
          obtain ⟨a1, a2⟩ := h1
          obtain ⟨b1, b2⟩ := h2
          go_enter Try.func17, Try.ntmps17
          go_wp2
          go_loop [8] (fun i => i = .int .i64 0 ∨ i = .int .i64 1 ∨ i = .int .i64 2) (fun i => 2 - (intOf i).toNat)
          case atStart => exact .inl rfl
          case round =>
            rcases hrel with rfl | rfl | rfl
            · go_wp2
              go_round
              case rel => exact .inr (.inl rfl)
              case measure => simp [intOf]
            · go_wp2
              go_round
              case rel => exact .inr (.inr rfl)
              case measure => simp [intOf]
            · go_wp2
              go_ret
              exact ⟨rfl, (Below.refl _ _).alloc (Nat.le_refl _) _⟩
        · rw [decide_eq_false (fun h => h4 h.2.2)]
          obtain ⟨a1, a2⟩ := h1
          obtain ⟨b1, b2⟩ := h2
          go_enter Try.func17, Try.ntmps17
          go_wp2
          go_loop [8] (fun i => i = .int .i64 0 ∨ i = .int .i64 1 ∨ i = .int .i64 2) (fun i => 2 - (intOf i).toNat)
          case atStart => exact .inl rfl
          case round =>
            rcases hrel with rfl | rfl | rfl
            · go_wp2
              go_round
              case rel => exact .inr (.inl rfl)
              case measure => simp [intOf]
            · go_wp2
              go_round
              case rel => exact .inr (.inr rfl)
              case measure => simp [intOf]
            · go_wp2
              go_ret
              exact ⟨ret_bool (decide_eq_false (by omega)), (Below.refl _ _).alloc (Nat.le_refl _) _⟩
      · rw [decide_eq_false (fun h => h3 h.2.1)]
        obtain ⟨a1, a2⟩ := h1
        obtain ⟨b1, b2⟩ := h2
        go_enter Try.func17, Try.ntmps17
        go_wp2
        go_loop [8] (fun i => i = .int .i64 0 ∨ i = .int .i64 1 ∨ i = .int .i64 2) (fun i => 2 - (intOf i).toNat)
        case atStart => exact .inl rfl
        case round =>
          rcases hrel with rfl | rfl | rfl
          · go_wp2
            go_round
            case rel => exact .inr (.inl rfl)
            case measure => simp [intOf]
          · go_wp2
            go_round
            case rel => exact .inr (.inr rfl)
            case measure => simp [intOf]
          · go_wp2
            go_ret
            exact ⟨rfl, (Below.refl _ _).alloc (Nat.le_refl _) _⟩
    · rw [decide_eq_false (fun h => h2 h.1.2)]
      obtain ⟨a1, a2⟩ := h1
      rcases far_of h2 with h3 | h3
      all_goals
        clear h2
        go_enter Try.func17, Try.ntmps17
        go_wp2
        go_loop [8] (fun i => i = .int .i64 0 ∨ i = .int .i64 1) (fun i => 2 - (intOf i).toNat)
        case atStart => exact .inl rfl
        case round =>
          rcases hrel with rfl | rfl
          · go_wp2
            go_round
            case rel => exact .inr rfl
            case measure => simp [intOf]
          · go_wp2
            go_ret
            exact ⟨rfl, (Below.refl _ _).alloc (Nat.le_refl _) _⟩
  · rw [decide_eq_false (fun h => h1 h.1.1)]
    rcases far_of h1 with h3 | h3
    all_goals
      clear h1
      go_enter Try.func17, Try.ntmps17
      go_wp2
      go_loop [8] (fun i => i = .int .i64 0) (fun i => 2 - (intOf i).toNat)
      case atStart => rfl
      case round =>
        subst hrel
        go_wp2
        go_ret
        exact ⟨rfl, (Below.refl _ _).alloc (Nat.le_refl _) _⟩

/-! ### the two calls -/

theorem Cycle_far (c n x : Int) (h : ¬ ((Nr c ∧ Nr x) ∧ Md n)) (w : World) :
    Calls Try.prog 7 #[.int .i64 c, .int .i64 n, .int .i64 x] w fun e w' => e = .returned (.tuple #[.int .i64 0, .int .i64 0, .int .i64 2]) ∧ Below w.heap.size w w' := by
  have cR := fun w => inRange_any c x n w
  rw [decide_eq_false h] at cR
  clear h
  go_enter Try.func7, Try.ntmps7
  go_wp2_with (go_at_call 17; refine (cR _).mono ?_; rintro e w1 ⟨rfl, hB1⟩)
  refine bodyPost_ret (v := .tuple #[.int .i64 0, .int .i64 0, .int .i64 2]) (by simp [results, Try.results7, go_sem]) rfl ⟨rfl, hB1⟩

theorem Split_far (c n x : Int) (h : ¬ ((Nr c ∧ Nr x) ∧ Md n)) (w : World) :
    Calls Try.prog 12 #[.int .i64 c, .int .i64 n, .int .i64 x] w fun e w' => e = .returned (.tuple #[.int .i64 0, .int .i64 0, .int .i64 2]) ∧ Below w.heap.size w w' := by
  have cR := fun w => inRange_any c x n w
  rw [decide_eq_false h] at cR
  clear h
  go_enter Try.func12, Try.ntmps12
  go_wp2_with (go_at_call 17; refine (cR _).mono ?_; rintro e w1 ⟨rfl, hB1⟩)
  refine bodyPost_ret (v := .tuple #[.int .i64 0, .int .i64 0, .int .i64 2]) (by simp [results, Try.results12, go_sem]) rfl ⟨rfl, hB1⟩

theorem Split_one (c x : Int) (hc : Nr c) (hx : Nr x) (w : World) :
    Calls Try.prog 12 #[.int .i64 c, .int .i64 1, .int .i64 x] w fun e w' => e = .returned (.tuple #[.int .i64 0, .int .i64 0, .int .i64 5]) ∧ Below w.heap.size w w' := by
  have cR := fun w => inRange_any c x 1 w
  rw [decide_eq_true ⟨⟨hc, hx⟩, by omega, by omega⟩] at cR
  clear hc hx
  go_enter Try.func12, Try.ntmps12
  go_wp2_with (go_at_call 17; refine (cR _).mono ?_; rintro e w1 ⟨rfl, hB1⟩)
  refine bodyPost_ret (v := .tuple #[.int .i64 0, .int .i64 0, .int .i64 5]) (by simp [results, Try.results12, go_sem]) rfl ⟨rfl, hB1⟩

set_option maxRecDepth 100000 in
theorem Cycle_yes (c x : Int) (n t s : Nat) (hc : Nr c) (hx : Nr x) (hn1 : 1 ≤ n) (hn : n ≤ 1048576) (hR : Rho (nx (rs c n) n) (rs x n) t s) (hts : t + s ≤ n) (w : World) :
    Calls Try.prog 7 #[.int .i64 c, .int .i64 (n : Int), .int .i64 x] w fun e w' => e = .returned (.tuple #[.int .i64 (t : Int), .int .i64 (s : Int), .int .i64 0]) ∧ Below w.heap.size w w' := by
  have cR := fun w => inRange_any c x (n : Int) w
  rw [decide_eq_true ⟨⟨hc, hx⟩, by omega, by omega⟩] at cR
  have cC := fun w => left_rs c n hn1 hn w
  have cX := fun w => left_rs x n hn1 hn w
  have lc := rs_lt c hn1
  have lx := rs_lt x hn1
  obtain ⟨m, hm, _, _, hsm⟩ := meet_ex hR
  have cM := fun w => meeting_any _ n _ m hn1 lc hn lx hm w
  have cT := fun w => together_any _ n _ m t s hn1 lc hn lx hR (by omega) hm.1 hsm w
  have cO := fun w => round_any _ n _ t s hn1 lc hn lx hR (by omega) w
  clear hm hsm hR hc hx
  generalize rs c n = c' at *
  generalize rs x n = x' at *
  generalize wk c' n x' m = y at *
  generalize wk c' n x' t = z at *
  go_enter Try.func7, Try.ntmps7
  go_wp2_with (first
    | (go_at_call 17; refine (cR _).mono ?_; rintro e w1 ⟨rfl, hB1⟩)
    | (go_at_call 18; (first | (refine (cC _).mono ?_; clear cC) | (refine (cX _).mono ?_)); rintro e w' ⟨rfl, hw⟩; subst w'))
  have hBo := hid (Bo.new w1 c' n)
  go_region_held3 (fun w' => w'.cell? ⟨w1.heap.size, 0, none⟩ = some (.int .i64 (c' : Int)) ∧ w'.cell? ⟨w1.heap.size, 1, none⟩ = some (.int .i64 (n : Int)))
    (first | exact hBo.out.cells | exact hBo.out.drew.cells | exact (hBo.out.below hB2).cells | exact (hBo.out.drew.below hB2).cells | exact ((hBo.out.below hB2).below hB3).cells | exact ((hBo.out.drew.below hB2).below hB3).cells)
    (first | (go_at_call 20; refine (cM _).mono ?_; rintro e w2 ⟨rfl, hB2⟩) | (go_at_call 19; refine (cT _).mono ?_; rintro e w3 ⟨rfl, hB3⟩))
  have hBo2 := hid ((hBo.out.drew.below hB2).below hB3)
  obtain ⟨c0, c1⟩ := hBo2.out.cells
  go_wp2_with (go_at_call 21; refine (cO _).mono ?_; rintro e w4 ⟨rfl, hB4⟩)
  refine bodyPost_ret (v := .tuple #[.int .i64 (t : Int), .int .i64 (s : Int), .int .i64 0]) (by simp [results, Try.results7, go_sem]) rfl ⟨rfl, below_trans (below_trans hB1 hBo2.out.2) hB4⟩

set_option maxRecDepth 100000 in
theorem Split_yes (c x : Int) (n m : Nat) (hc : Nr c) (hx : Nr x) (hn1 : 2 ≤ n) (hn : n ≤ 1048576) (hm : Fst (rs c n) n (rs x n) m) (hmn : m ≤ n) (w : World) :
    Calls Try.prog 12 #[.int .i64 c, .int .i64 (n : Int), .int .i64 x] w fun e w' => e = .returned (.tuple #[.int .i64 (m : Int), .int .i64 (cm (rs c n) n (rs x n) m), .int .i64 0]) ∧ Below w.heap.size w w' := by
  have cR := fun w => inRange_any c x (n : Int) w
  rw [decide_eq_true ⟨⟨hc, hx⟩, by omega, by omega⟩] at cR
  have cC := fun w => left_rs c n (by omega) hn w
  have cX := fun w => left_rs x n (by omega) hn w
  have lc := rs_lt c (show 1 ≤ n by omega)
  have lx := rs_lt x (show 1 ≤ n by omega)
  have cS := fun w => split_any _ n _ m (by omega) lc hn lx hm hmn w
  have e1 : ((n : Int) == 1) = false := beq_one (by omega)
  clear hm hc hx
  generalize rs c n = c' at *
  generalize rs x n = x' at *
  generalize cm c' n x' m = g at *
  go_enter Try.func12, Try.ntmps12
  go_wp2_with (first
    | (go_at_call 17; refine (cR _).mono ?_; rintro e w1 ⟨rfl, hB1⟩)
    | (go_at_call 18; refine (cC _).mono ?_; rintro e w' ⟨rfl, hw⟩; subst w'))
  have hBo := hid (Bo.new w1 c' n)
  go_region_held3 (fun w' => w'.cell? ⟨w1.heap.size, 0, none⟩ = some (.int .i64 (c' : Int)) ∧ w'.cell? ⟨w1.heap.size, 1, none⟩ = some (.int .i64 (n : Int)))
    (first | exact hBo.out.cells | exact hBo.out.drew.cells | exact (hBo.out.below hB2).cells | exact (hBo.out.drew.below hB2).cells)
    (first | (go_at_call 18; refine (cX _).mono ?_; rintro e w' ⟨rfl, hw⟩; subst w') | (go_at_call 24; refine (cS _).mono ?_; rintro e w2 ⟨rfl, hB2⟩))
  go_wp2
  refine bodyPost_ret (v := .tuple #[.int .i64 (m : Int), .int .i64 g, .int .i64 0]) (by simp [results, Try.results12, go_sem]) rfl ⟨rfl, below_trans (below_trans hB1 hBo.out.drew.2) hB2⟩

end Go.Proofs.Ytjfgnpgbphdalaa.Calls54
