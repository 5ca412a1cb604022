/-
  Euler's count: what primes.Phi answers, and the document's count one by one.
-/
import Derived.Test.YtoakbobofaepiaaCalls9
import Derived.Test.YtoakbobofaepiaaCalls4
import Derived.Test.YtoakbobofaepiaaNum3
namespace Go.Proofs.Ytoakbobofaepiaa.Calls10
set_option linter.unusedVariables false
open Go.ChangeShapes Go.WideShapes Go.ChangeAt Go.RowKit Go.Proofs.Ytoakbobofaepiaa.Num Go.Proofs.Ytoakbobofaepiaa.Num3 Go.Proofs.Ytoakbobofaepiaa.Calls7 Go.Proofs.Ytoakbobofaepiaa.Calls8 Go.Proofs.Ytoakbobofaepiaa.Calls9
open Go.Proofs.Ytoakbobofaepiaa.Math (gg)
open Go.Proofs.Ytoakbobofaepiaa.Calls4 (refGcd_any)

theorem gg_nat (a b : Nat) : gg (a : Int) (b : Int) = (Nat.gcd a b : Int) := by
  unfold gg
  rw [Int.gcd_natCast_natCast]

theorem gg_toNat {a b : Int} (ha : 0 ≤ a) (hb : 0 ≤ b) : gg a b = (Nat.gcd a.toNat b.toNat : Int) := by
  rw [← gg_nat, Int.toNat_of_nonneg ha, Int.toNat_of_nonneg hb]

theorem phf_tot {n : Nat} {l : List (Nat × Nat)} (h : Fac n l) : phf n l = tot n := fold_tot h

theorem Phi_at (z : Int) (h1 : 1 ≤ z) (h2 : z ≤ 1048576) (w : World) :
    Calls Try.prog 23 #[.int .i64 z] w fun e w' => e = .returned (.tuple #[.int .i64 (tot z.toNat : Int), .int .i64 0]) ∧ Below w.heap.size w w' := by
  obtain ⟨m, rfl⟩ : ∃ m : Nat, z = (m : Int) := ⟨z.toNat, by omega⟩
  refine (Phi_yes m (by omega) (by omega) w).mono ?_
  rintro e w' ⟨⟨l, hl, rfl⟩, h⟩
  rw [phf_tot hl]
  exact ⟨by simp, h⟩

theorem meas4 {q M : Nat} (h : q ≤ M) : (((M : Int) + 1) - ((q : Int) + 1)).toNat < (((M : Int) + 1) - (q : Int)).toNat := by omega

theorem cnt_step (m x : Nat) (hx : 1 ≤ x) (h : Nat.gcd x m = 1) : cnt (fun x => Nat.gcd x m == 1) (x - 1) + 1 = cnt (fun x => Nat.gcd x m == 1) (x + 1 - 1) := by
  obtain ⟨y, rfl⟩ : ∃ y, x = y + 1 := ⟨x - 1, by omega⟩
  show cnt (fun x => Nat.gcd x m == 1) y + 1 = cnt (fun x => Nat.gcd x m == 1) y + (if (Nat.gcd (y + 1) m == 1) = true then 1 else 0)
  rw [h]; rfl

theorem cnt_stay (m x : Nat) (hx : 1 ≤ x) (h : ¬ Nat.gcd x m = 1) : cnt (fun x => Nat.gcd x m == 1) (x - 1) = cnt (fun x => Nat.gcd x m == 1) (x + 1 - 1) := by
  obtain ⟨y, rfl⟩ : ∃ y, x = y + 1 := ⟨x - 1, by omega⟩
  show cnt (fun x => Nat.gcd x m == 1) y = cnt (fun x => Nat.gcd x m == 1) y + (if (Nat.gcd (y + 1) m == 1) = true then 1 else 0)
  rw [if_neg (by simpa using h)]; rfl

end Go.Proofs.Ytoakbobofaepiaa.Calls10
