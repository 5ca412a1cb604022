/-
  Plain arithmetic: bound, and hidden: what Other and Break reckon.
-/
import Derived.Test.YtlpbohkjiddelaaNum56
namespace Go.Proofs.Ytlpbohkjiddelaa.Num68
set_option linter.unusedVariables false
open Go.Proofs.Ytlpbohkjiddelaa.Num Go.Proofs.Ytlpbohkjiddelaa.Num3 Go.Proofs.Ytlpbohkjiddelaa.Num6 Go.Proofs.Ytlpbohkjiddelaa.Num7 Go.Proofs.Ytlpbohkjiddelaa.Num8 Go.Proofs.Ytlpbohkjiddelaa.Num56

theorem break_log {Q m n r s l : Nat} {x : Int} (hl : l < Q) (e : (m + l * r) % Q = (n + l * s) % Q) (hx : (Q : Int) ∣ x * ((s : Int) - (r : Int)) - 1) : ((m : Int) - (n : Int) + (Q : Int)) * x % (Q : Int) = (l : Int) := by
  have h1 := (mod_eq_iff (m := Q)).1 e
  have h2 : (Q : Int) ∣ ((m : Int) - (n : Int) + (Q : Int)) * x - (l : Int) := by
    have t : ((m : Int) - (n : Int) + (Q : Int)) * x - (l : Int) = x * (((m + l * r : Nat) : Int) - ((n + l * s : Nat) : Int)) + (l : Int) * (x * ((s : Int) - (r : Int)) - 1) + (Q : Int) * x := by
      push_cast; grind
    rw [t]
    exact Int.dvd_add (Int.dvd_add (Int.dvd_trans h1 (Int.dvd_mul_left _ _)) (Int.dvd_trans hx (Int.dvd_mul_left _ _))) (Int.dvd_mul_right _ _)
  have h3 := Int.emod_emod_of_dvd (((m : Int) - (n : Int) + (Q : Int)) * x) (Int.dvd_refl (Q : Int))
  have h4 : ((m : Int) - (n : Int) + (Q : Int)) * x % (Q : Int) = (l : Int) % (Q : Int) := Int.emod_eq_emod_iff_emod_sub_eq_zero.2 (Int.emod_eq_zero_of_dvd h2)
  rw [h4, Int.emod_eq_of_lt (by omega) (by omega)]

/-- Bound alike by one r: then the numbers are the same. -/
theorem same_r {P Q G H m n r : Nat} (hG : Gp P Q G) (hH : Gp P Q H) (hm : m < Q) (hn : n < Q) (e : bd P G H m r = bd P G H n r) : m = n := by
  have hP := hG.pr.1
  unfold bd at e
  exact (pow_lt_iff hG hm hn).1 (quot_uniq hG.pr hG.prq (hH.mem.pow hG.pr hG.prq r) (Nat.mod_lt _ (by omega)) (Nat.mod_lt _ (by omega)) e)

/-- The rest of the way undoes a power: what is left by the other number is the other power. -/
theorem other_bd {P Q G H c m k : Nat} (hG : Gp P Q G) (hc : Mem P Q c) (hm : m < Q) (e : H ^ k % P = c * (G ^ (Q - m) % P) % P) : bd P G H m k = c := by
  unfold bd
  rw [e, Nat.mul_mod_mod, Nat.mul_left_comm, Nat.mul_mod c, ← Nat.mul_mod (G ^ m), ← Nat.pow_add, show m + (Q - m) = Q by omega, hG.one, Nat.mul_one, Nat.mod_mod, Nat.mod_eq_of_lt hc.2.1]

theorem bd_lt {P : Nat} (h : 1 ≤ P) (G H m r : Nat) : bd P G H m r < P := Nat.mod_lt _ (by omega)

/-- Both together: the exponents may be taken as what is left by Q. -/
theorem bd_adds' {P Q G H : Nat} (hG : Gp P Q G) (hH : Gp P Q H) (m r n s : Nat) : bd P G H ((m + n) % Q) ((r + s) % Q) = bd P G H m r * bd P G H n s % P := by
  rw [← bd_adds]
  unfold bd
  rw [pow_mod_exp hG, pow_mod_exp hH]

end Go.Proofs.Ytlpbohkjiddelaa.Num68
