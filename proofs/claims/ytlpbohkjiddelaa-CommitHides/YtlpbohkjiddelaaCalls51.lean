/-
  What package log answers at every input: the gate, the root, small and great steps.
-/
import Derived.Test.YtlpbohkjiddelaaCalls22
import Derived.Test.YtlpbohkjiddelaaCalls6
import Derived.Test.YtlpbohkjiddelaaBase3
import Derived.Test.YtlpbohkjiddelaaNum32
namespace Go.Proofs.Ytlpbohkjiddelaa.Calls51
set_option linter.unusedVariables false
open Go.ChangeShapes Go.WideShapes Go.ChangeAt Go.RowKit Go.Deep Go.Maps Go.Proofs.Ytlpbohkjiddelaa.Num Go.Proofs.Ytlpbohkjiddelaa.Num6 Go.Proofs.Ytlpbohkjiddelaa.Num8 Go.Proofs.Ytlpbohkjiddelaa.Num13 Go.Proofs.Ytlpbohkjiddelaa.Num32 Go.Proofs.Ytlpbohkjiddelaa.Calls8 Go.Proofs.Ytlpbohkjiddelaa.Calls9 Go.Proofs.Ytlpbohkjiddelaa.Calls11 Go.Proofs.Ytlpbohkjiddelaa.Calls19 Go.Proofs.Ytlpbohkjiddelaa.Calls20 Go.Proofs.Ytlpbohkjiddelaa.Calls22
open Go.Proofs.Ytlpbohkjiddelaa.Base3 (RV wpList_lookup_has)
open Go.Proofs.Ytlpbohkjiddelaa.Math (gg)
open Go.Proofs.Ytlpbohkjiddelaa.Calls1 (tmod_bd)
open Go.Proofs.Ytlpbohkjiddelaa.Calls6 (leastFactor_any one_yes)

/-! ### the gate -/

/-- The code of a number that is to be a prime. -/
def pcode (p : Int) : Int := if Md p then (if prB p.toNat = true then 0 else 3) else 2

theorem pcode_no {p : Int} (h : ¬ Md p) : pcode p = 2 := if_neg h

theorem pcode_yes {p : Nat} (h1 : 1 ≤ p) (h2 : p ≤ 1048576) : pcode (p : Int) = if prB p = true then 0 else 3 := by
  unfold pcode
  rw [if_pos ⟨by omega, by omega⟩, Int.toNat_natCast]

theorem pcode_ok {p : Nat} (hp : Pr p) (h2 : p ≤ 1048576) : pcode (p : Int) = 0 := by
  have := hp.1
  rw [pcode_yes (by omega) h2, if_pos ((prB_iff p).2 hp)]

theorem pcode_zero {p : Int} (h : pcode p = 0) : ∃ q : Nat, p = (q : Int) ∧ Pr q ∧ q ≤ 1048576 := by
  unfold pcode at h
  split at h
  · rename_i hm
    refine ⟨p.toNat, by omega, ?_, by omega⟩
    split at h
    · rename_i hb
      exact (prB_iff _).1 hb
    · omega
  · omega

def Code (b : Bool) (c r : Int) : Prop := (b = true ∧ c = 0 ∧ r = 0) ∨ (b = false ∧ c = 0 ∧ r = 3) ∨ (b = false ∧ c = 2 ∧ r = 2)

theorem is_code (p : Int) : ∃ b c, Code b c (pcode p) ∧ ∀ w, Calls Try.prog 51 #[.int .i64 p] w fun e w' => e = .returned (.tuple #[.bool b, .int .i64 c]) ∧ Below w.heap.size w w' := by
  by_cases h : Md p
  · obtain ⟨h1, h2⟩ := h
    obtain ⟨m, rfl⟩ : ∃ m : Nat, p = (m : Int) := ⟨p.toNat, by omega⟩
    refine ⟨prB m, 0, ?_, fun w => Is_yes m (by omega) (by omega) w⟩
    rw [pcode_yes (by omega) (by omega)]
    cases prB m
    · exact .inr (.inl ⟨rfl, rfl, rfl⟩)
    · exact .inl ⟨rfl, rfl, rfl⟩
  · refine ⟨false, 2, ?_, fun w => Is_no p h w⟩
    rw [pcode_no h]
    exact .inr (.inr ⟨rfl, rfl, rfl⟩)

set_option maxRecDepth 100000 in
theorem refuse_nil (p : Int) (w : World) :
    Calls Try.prog 37 #[.int .i64 p, .slice none 0 0] w fun e w' => e = .returned (.int .i64 (pcode p)) ∧ Below w.heap.size w w' := by
  obtain ⟨b, c, hC, cI⟩ := is_code p
  generalize pcode p = r at hC ⊢
  rcases hC with ⟨rfl, rfl, rfl⟩ | ⟨rfl, rfl, rfl⟩ | ⟨rfl, rfl, rfl⟩
  all_goals
    go_enter Try.func37, Try.ntmps37
    go_wp2
    go_loop [11] (fun i => i = .int .i64 0) (fun _ => 0)
    case atStart => rfl
    case round =>
      subst hrel
      go_wp2_with (go_at_call 51; refine (cI _).mono ?_; rintro e w1 ⟨rfl, hB1⟩)
      go_ret
      exact ⟨rfl, hB1⟩

set_option maxRecDepth 100000 in
theorem refuse_yes (p x y : Int) (hx : Nr x) (hy : Nr y) (b : Nat) (w : World) (h0 : w.cell? ⟨b, 0, none⟩ = some (.int .i64 x)) (h1 : w.cell? ⟨b, 1, none⟩ = some (.int .i64 y)) :
    Calls Try.prog 37 #[.int .i64 p, .slice (some ⟨b, 0, none⟩) 2 2] w fun e w' => e = .returned (.int .i64 (pcode p)) ∧ Below w.heap.size w w' := by
  obtain ⟨b', c, hC, cI⟩ := is_code p
  generalize pcode p = r at hC ⊢
  obtain ⟨f, hc, hf⟩ : ∃ f : Nat → Int, (∀ k, k < 2 → w.cell? ⟨b, k, none⟩ = some (.int .i64 (f k))) ∧ (∀ k, k < 2 → -2147483648 ≤ f k ∧ f k ≤ 2147483648) := by
    refine ⟨fun k => if k = 0 then x else y, fun k hk => ?_, fun k hk => ?_⟩
    · match k, hk with
      | 0, _ => exact h0
      | 1, _ => exact h1
    · match k, hk with
      | 0, _ => exact hx
      | 1, _ => exact hy
  clear h0 h1 hx hy
  rcases hC with ⟨rfl, rfl, rfl⟩ | ⟨rfl, rfl, rfl⟩ | ⟨rfl, rfl, rfl⟩
  all_goals
    go_enter Try.func37, Try.ntmps37
    go_wp2
    go_loop [11] (fun i => ∃ k : Nat, k ≤ 2 ∧ i = .int .i64 k) (fun i => 2 - (intOf i).toNat)
    case atStart => exact ⟨0, Nat.zero_le _, rfl⟩
    case round =>
      obtain ⟨k, hk, rfl⟩ := hrel
      by_cases hlt : k < 2
      · have hcell := hc k hlt
        obtain ⟨hl, hu⟩ := hf k hlt
        clear hc hf
        go_wp2
        go_round
        case rel => exact ⟨k + 1, by omega, by go_num⟩
        case measure => simp [intOf]; omega
      · clear hc hf
        go_wp2_with (go_at_call 51; refine (cI _).mono ?_; rintro e w1 ⟨rfl, hB1⟩)
        go_ret
        exact ⟨rfl, hB1⟩

set_option maxRecDepth 100000 in
theorem refuse_no (p x y : Int) (h : ¬ (Nr x ∧ Nr y)) (b : Nat) (w : World) (h0 : w.cell? ⟨b, 0, none⟩ = some (.int .i64 x)) (h1 : w.cell? ⟨b, 1, none⟩ = some (.int .i64 y)) :
    Calls Try.prog 37 #[.int .i64 p, .slice (some ⟨b, 0, none⟩) 2 2] w fun e w' => e = .returned (.int .i64 2) ∧ Below w.heap.size w w' := by
  obtain ⟨f, hc, hf⟩ : ∃ f : Nat → Int, (∀ k, k < 2 → w.cell? ⟨b, k, none⟩ = some (.int .i64 (f k))) ∧ (∃ k, k < 2 ∧ ¬ (-2147483648 ≤ f k ∧ f k ≤ 2147483648)) := by
    refine ⟨fun k => if k = 0 then x else y, fun k hk => ?_, ?_⟩
    · match k, hk with
      | 0, _ => exact h0
      | 1, _ => exact h1
    · by_cases hx : Nr x
      · exact ⟨1, by omega, fun hy => h ⟨hx, hy⟩⟩
      · exact ⟨0, by omega, hx⟩
  clear h0 h1 h
  go_enter Try.func37, Try.ntmps37
  go_wp2
  go_loop [11] (fun i => ∃ k : Nat, k ≤ 2 ∧ (∀ j, j < k → -2147483648 ≤ f j ∧ f j ≤ 2147483648) ∧ i = .int .i64 k) (fun i => 2 - (intOf i).toNat)
  case atStart => exact ⟨0, Nat.zero_le _, fun j hj => absurd hj (Nat.not_lt_zero j), rfl⟩
  case round =>
    obtain ⟨k, hk, hall, rfl⟩ := hrel
    by_cases hlt : k < 2
    · have hcell := hc k hlt
      clear hc hf
      by_cases e1 : f k < -2147483648
      · clear hall
        go_wp2
        go_ret
        exact ⟨rfl, Below.refl _ _⟩
      · by_cases e2 : 2147483648 < f k
        · clear hall
          go_wp2
          go_ret
          exact ⟨rfl, Below.refl _ _⟩
        · have HA := hid hall
          clear hall
          go_wp2
          go_round
          case rel =>
            refine ⟨k + 1, by omega, fun j hj => ?_, by go_num⟩
            by_cases e : j = k
            · subst e; omega
            · exact HA.out j (by omega)
          case measure => simp [intOf]; omega
    · exfalso
      obtain ⟨j, hj, hn⟩ := hf
      exact hn (hall j (by omega))

/-! ### small parts -/

theorem left_rs (a : Int) (m : Nat) (h1 : 1 ≤ m) (h2 : m ≤ 1048576) (w : World) :
    Calls Try.prog 39 #[.int .i64 a, .int .i64 (m : Int)] w fun e w' => e = .returned (.int .i64 (rs a m : Int)) ∧ w' = w := by
  have hb := tmod_bd (n := a) (m := m) (by omega)
  have H := hid (two_mod a h1)
  have h0 : ¬ (m : Int) = 0 := by omega
  have hq0 : 0 ≤ a.tmod (m : Int) + (m : Int) := by omega
  go_enter Try.func39, Try.ntmps39
  go_wp2
  go_ret
  exact ⟨ret_int (by rw [← H.out]), rfl⟩

/-- The least whose square is not below. -/
def Root (n r : Nat) : Prop := n ≤ r * r ∧ ∀ j, j < r → j * j < n

theorem root_ex (n : Nat) : ∃ r, Root n r := by
  obtain ⟨r, h1, _, h3⟩ := least_ex (P := fun r => n ≤ r * r) n (by
    rcases Nat.eq_zero_or_pos n with e | e
    · omega
    · exact Nat.le_mul_of_pos_right n e)
  exact ⟨r, h1, fun j hj => by have := h3 j hj; omega⟩

theorem Root.le {n r : Nat} (h : Root n r) (hn : n ≤ 1048576) : r ≤ 1024 := by
  rcases Nat.lt_or_ge 1024 r with e | e
  · have := h.2 1024 e; omega
  · exact e

theorem Root.pos {n r : Nat} (h : Root n r) (hn : 1 ≤ n) : 1 ≤ r := by
  rcases Nat.eq_zero_or_pos r with e | e
  · subst e; have := h.1; omega
  · exact e

theorem sq_bd {j : Nat} (h : j ≤ 1024) : 0 ≤ (j : Int) * (j : Int) ∧ (j : Int) * (j : Int) ≤ 1048576 := by
  have h2 : j * j ≤ 1024 * 1024 := Nat.mul_le_mul h h
  have h3 : ((j * j : Nat) : Int) = (j : Int) * (j : Int) := by simp
  omega

theorem rootUp_any (n r : Nat) (hn : n ≤ 1048576) (h : Root n r) (w : World) :
    Calls Try.prog 53 #[.int .i64 (n : Int)] w fun e w' => e = .returned (.int .i64 (r : Int)) ∧ w' = w := by
  have hr := h.le hn
  have HR := hid h
  clear h
  go_enter Try.func53, Try.ntmps53
  go_wp2
  go_loop [3] (fun t => ∃ j : Nat, t = .int .i64 (j : Int) ∧ j ≤ r) (fun t => r - (intOf t).toNat)
  case atStart => exact ⟨0, rfl, by omega⟩
  case round =>
    obtain ⟨j, rfl, hj⟩ := hrel
    obtain ⟨b1, b2⟩ := sq_bd (j := j) (by omega)
    by_cases hlt : j < r
    · have hl : (j : Int) * (j : Int) < (n : Int) := by
        have := HR.out.2 j hlt
        exact_mod_cast this
      go_wp2
      go_round
      case rel => exact ⟨j + 1, by simp, by omega⟩
      case measure => simp [intOf]; omega
    · obtain rfl : j = r := by omega
      have hl : ¬ (j : Int) * (j : Int) < (n : Int) := by
        have := HR.out.1
        have h3 : ((j * j : Nat) : Int) = (j : Int) * (j : Int) := by simp
        omega
      go_wp2
      go_ret
      exact ⟨rfl, rfl⟩

theorem Inverse_b (a m : Int) (w : World) (ha1 : -2147483648 ≤ a) (ha2 : a ≤ 2147483648) (h1 : 1 ≤ m) (h2 : m ≤ 1048576) (hg : gg a m = 1) :
    Calls Try.prog 23 #[.int .i64 a, .int .i64 m] w fun e w' =>
      ∃ x : Int, e = .returned (.tuple #[.int .i64 x, .int .i64 0]) ∧ 0 ≤ x ∧ x < m ∧ m ∣ x * a - 1 ∧ Below w.heap.size w w' := by
  have d1 : decide (m < 1) = false := by simp; omega
  have d2 : decide (1048576 < m) = false := by simp; omega
  have hm : (m.natAbs : Int) / 1 = m := by omega
  have HG := hid hg
  have HM := hid hm
  clear hg hm
  go_enter Try.func23, Try.ntmps23
  go_wp2_with (first
    | (go_at_call 30; refine (one_yes a _ ha1 ha2).mono ?_; rintro e w' ⟨rfl, rfl⟩)
    | (go_at_call 31; refine (leastFactor_any _ _ _ (by omega) ha1 ha2 (by omega) (by omega)).mono ?_; rw [HG.out, HM.out]; rintro e w' ⟨x, rfl, hx1, hx2, hx3, rfl⟩; have HX := hid hx3; clear hx3))
  go_ret2
  exact ⟨x, rfl, hx1, hx2, HX.out, (Below.refl _ _).alloc (Nat.le_refl _) _⟩

theorem back_ok {g W p : Nat} {x : Int} (hp : 1 ≤ p) (h0 : 0 ≤ x) (hd : (p : Int) ∣ x * ((g ^ W % p : Nat) : Int) - 1) : x.toNat * g ^ W % p = 1 % p := by
  have h1 : ((x.toNat * g ^ W % p : Nat) : Int) = ((1 % p : Nat) : Int) := by
    have hx : (x.toNat : Int) = x := Int.toNat_of_nonneg h0
    have h2 : ((x.toNat * (g ^ W % p) % p : Nat) : Int) = ((1 % p : Nat) : Int) := by
      rw [Int.natCast_emod, Int.natCast_mul, hx, Int.natCast_emod 1 p]
      exact Int.emod_eq_emod_iff_emod_sub_eq_zero.2 (Int.emod_eq_zero_of_dvd hd)
    rw [← h2]
    congr 1
    rw [Nat.mul_mod, Nat.mul_mod x.toNat (g ^ W % p), Nat.mod_mod]
  exact_mod_cast h1

theorem stepBack_any (g W p : Nat) (hp : Pr p) (hp2 : p ≤ 1048576) (hg1 : 1 ≤ g) (hg : g < p) (hW : W ≤ 1024) (w : World) :
    Calls Try.prog 55 #[.int .i64 (g : Int), .int .i64 (W : Int), .int .i64 (p : Int)] w fun e w' => (∃ b : Nat, e = .returned (.int .i64 (b : Int)) ∧ b < p ∧ b * g ^ W % p = 1 % p) ∧ Below w.heap.size w w' := by
  have h2 := hp.1
  have hl : g ^ W % p < p := Nat.mod_lt _ (by omega)
  have hc : Nat.gcd (g ^ W % p) p = 1 := by rw [gcd_mod]; exact Nat.Coprime.pow_left W (cop_small hp hg1 hg)
  have cP := fun w => Pow_yes (g : Int) W p (by omega) (by omega) (by omega) (by omega) hp2 w
  have e0 : pw (g : Int) W p = g ^ W % p := by unfold pw; rw [rs_nat, Nat.mod_eq_of_lt hg]
  rw [e0] at cP
  have HB := hid (fun x => back_ok (g := g) (W := W) (p := p) (x := x) (by omega))
  generalize g ^ W % p = y at cP hl hc HB
  have cI := fun w => Inverse_b (y : Int) (p : Int) w (by omega) (by omega) (by omega) (by omega) (by unfold gg; rw [Int.gcd_natCast_natCast, hc]; rfl)
  clear hc hp e0
  go_enter Try.func55, Try.ntmps55
  go_wp2_with (first
    | (go_at_call 36; refine (cP _).mono ?_; rintro e w' ⟨rfl, hw⟩; subst w')
    | (go_at_call 23; refine (cI _).mono ?_; rintro e w1 ⟨x, rfl, hx0, hx1, hxd, hB1⟩; have HX := hid hxd; clear hxd))
  go_ret
  exact ⟨⟨x.toNat, ret_int (by omega), by omega, HB.out x hx0 HX.out⟩, hB1⟩

end Go.Proofs.Ytlpbohkjiddelaa.Calls51
