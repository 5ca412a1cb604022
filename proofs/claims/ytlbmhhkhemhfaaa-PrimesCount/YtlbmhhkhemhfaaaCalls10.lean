/-
  Euler's count: what primes.Phi answers, and the document's count one by one.
-/
import Derived.Test.YtlbmhhkhemhfaaaCalls9
import Derived.Test.YtlbmhhkhemhfaaaCalls4
import Derived.Test.YtlbmhhkhemhfaaaNum3
namespace Go.Proofs.Ytlbmhhkhemhfaaa.Calls10
set_option linter.unusedVariables false
open Go.ChangeShapes Go.WideShapes Go.ChangeAt Go.RowKit Go.Proofs.Ytlbmhhkhemhfaaa.Num Go.Proofs.Ytlbmhhkhemhfaaa.Num3 Go.Proofs.Ytlbmhhkhemhfaaa.Calls7 Go.Proofs.Ytlbmhhkhemhfaaa.Calls8 Go.Proofs.Ytlbmhhkhemhfaaa.Calls9
open Go.Proofs.Ytlbmhhkhemhfaaa.Math (gg)
open Go.Proofs.Ytlbmhhkhemhfaaa.Calls4 (refGcd_any)

theorem gg_nat (a b : Nat) : gg (a : Int) (b : Int) = (Nat.gcd a b : Int) := by
  unfold gg
  rw [Int.gcd_natCast_natCast]

theorem gg_toNat {a b : Int} (ha : 0 ≤ a) (hb : 0 ≤ b) : gg a b = (Nat.gcd a.toNat b.toNat : Int) := by
  rw [← gg_nat, Int.toNat_of_nonneg ha, Int.toNat_of_nonneg hb]

theorem phf_tot {n : Nat} {l : List (Nat × Nat)} (h : Fac n l) : phf n l = tot n := fold_tot h

theorem Phi_at (z : Int) (h1 : 1 ≤ z) (h2 : z ≤ 1048576) (w : World) :
    Calls Try.prog 15 #[.int .i64 z] w fun e w' => e = .returned (.tuple #[.int .i64 (tot z.toNat : Int), .int .i64 0]) ∧ Below w.heap.size w w' := by
  obtain ⟨m, rfl⟩ : ∃ m : Nat, z = (m : Int) := ⟨z.toNat, by omega⟩
  refine (Phi_yes m (by omega) (by omega) w).mono ?_
  rintro e w' ⟨⟨l, hl, rfl⟩, h⟩
  rw [phf_tot hl]
  exact ⟨by simp, h⟩

theorem meas4 {q M : Nat} (h : q ≤ M) : (((M : Int) + 1) - ((q : Int) + 1)).toNat < (((M : Int) + 1) - (q : Int)).toNat := by omega

theorem cnt_step (m x : Nat) (hx : 1 ≤ x) (h : Nat.gcd x m = 1) : cnt (fun x => Nat.gcd x m == 1) (x - 1) + 1 = cnt (fun x => Nat.gcd x m == 1) (x + 1 - 1) := by
  obtain ⟨y, rfl⟩ : ∃ y, x = y + 1 := ⟨x - 1, by omega⟩
  show cnt (fun x => Nat.gcd x m == 1) y + 1 = cnt (fun x => Nat.gcd x m == 1) y + (if (Nat.gcd (y + 1) m == 1) = true then 1 else 0)
  rw [h]; rfl

theorem cnt_stay (m x : Nat) (hx : 1 ≤ x) (h : ¬ Nat.gcd x m = 1) : cnt (fun x => Nat.gcd x m == 1) (x - 1) = cnt (fun x => Nat.gcd x m == 1) (x + 1 - 1) := by
  obtain ⟨y, rfl⟩ : ∃ y, x = y + 1 := ⟨x - 1, by omega⟩
  show cnt (fun x => Nat.gcd x m == 1) y = cnt (fun x => Nat.gcd x m == 1) y + (if (Nat.gcd (y + 1) m == 1) = true then 1 else 0)
  rw [if_neg (by simpa using h)]; rfl

set_option maxRecDepth 100000 in
theorem refPhi_any (m : Nat) (hm1 : 1 ≤ m) (hm2 : m ≤ 1048576) (w : World) :
    Calls Try.prog 16 #[.int .i64 (m : Int)] w fun e w' => e = .returned (.int .i64 (tot m : Int)) ∧ w' = w := by
  go_enter Try.func16, Try.ntmps16
  go_wp2
  go_loop [3, 4] (fun c x => ∃ k y : Nat, c = .int .i64 (k : Int) ∧ x = .int .i64 (y : Int) ∧ 1 ≤ y ∧ y ≤ m + 1 ∧ k ≤ 1048577 ∧ Hid (k = cnt (fun x => Nat.gcd x m == 1) (y - 1))) (fun c x => ((m : Int) + 1 - intOf x).toNat)
  case atStart => exact ⟨0, 1, rfl, rfl, by omega, by omega, by omega, rfl⟩
  case round =>
    obtain ⟨k, y, rfl, rfl, hy1, hym, hk, hc⟩ := hrel
    by_cases hgo : y ≤ m
    · have hgo' : (y : Int) ≤ (m : Int) := by omega
      have hkb : k ≤ y - 1 := by rw [hc.out]; exact cnt_le _ _
      have cG := fun w => refGcd_any (y : Int) (m : Int) w (by omega) (by omega) (by omega) (by omega)
      rw [gg_nat] at cG
      by_cases hg : Nat.gcd y m = 1
      · have hst : Hid (k + 1 = cnt (fun x => Nat.gcd x m == 1) (y + 1 - 1)) := by rw [hc.out]; exact cnt_step m y hy1 hg
        rw [hg] at cG
        clear hc hg
        go_wp2_with (go_at_call 26; refine (cG _).mono ?_; rintro e w' ⟨rfl, rfl⟩)
        go_round
        case rel => exact ⟨k + 1, y + 1, by simp, by simp, by omega, by omega, by omega, hst⟩
        case measure => exact meas4 hgo
      · have hst : Hid (k = cnt (fun x => Nat.gcd x m == 1) (y + 1 - 1)) := by rw [hc.out]; exact cnt_stay m y hy1 hg
        have hg' : ((Nat.gcd y m : Int) == 1) = false := by
          have : ¬ (Nat.gcd y m : Int) = 1 := by omega
          simp [this]
        clear hc hg
        go_wp2_with (go_at_call 26; refine (cG _).mono ?_; rintro e w' ⟨rfl, rfl⟩)
        go_round
        case rel => exact ⟨k, y + 1, rfl, by simp, by omega, by omega, by omega, hst⟩
        case measure => exact meas4 hgo
    · have hgo' : ¬ (y : Int) ≤ (m : Int) := by omega
      have e : Hid (k = tot m) := by
        have e1 : y - 1 = m := by omega
        rw [hc.out, e1]; rfl
      clear hc
      go_wp2
      go_ret
      exact ⟨ret_int (by rw [e.out]), rfl⟩

end Go.Proofs.Ytlbmhhkhemhfaaa.Calls10
