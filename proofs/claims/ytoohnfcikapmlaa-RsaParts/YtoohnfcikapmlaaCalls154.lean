/-
  Package rsa: the one number that opens, the key with it; and what is raised and raised again.
-/
import Derived.Test.YtoohnfcikapmlaaCalls153
namespace Go.Proofs.Ytoohnfcikapmlaa.Calls154
set_option linter.unusedVariables false
open Go.ChangeShapes Go.WideShapes Go.ChangeAt Go.RowKit Go.Deep Go.Proofs.Ytoohnfcikapmlaa.Base Go.Proofs.Ytoohnfcikapmlaa.Num Go.Proofs.Ytoohnfcikapmlaa.Num56 Go.Proofs.Ytoohnfcikapmlaa.Calls150 Go.Proofs.Ytoohnfcikapmlaa.Calls151 Go.Proofs.Ytoohnfcikapmlaa.Calls152

theorem inv_uniq {n m d d' : Nat} (hg : Nat.gcd n m = 1) (h : d < m) (h' : d' < m) (e : n * d % m = 1 % m) (e' : n * d' % m = 1 % m) : d = d' := by
  have := Num6.cancel (m := m) (x := d) (y := d') (c := n) (by rw [Nat.mul_comm d, Nat.mul_comm d', e, e']) hg
  rwa [Nat.mod_eq_of_lt h, Nat.mod_eq_of_lt h'] at this

theorem inv_ex {n m : Nat} (hn : 1 ≤ n) (hm : 2 ≤ m) (hg : Nat.gcd n m = 1) : ∃ d, 1 ≤ d ∧ d < m ∧ n * d % m = 1 % m := by
  obtain ⟨d, h1, h2, h3⟩ := (inv_iff (by omega) hn).1 hg
  refine ⟨d, h1, ?_, h3⟩
  rcases Nat.lt_or_ge d m with h | h
  · exact h
  · have e : d = m := by omega
    rw [e, Nat.mul_mod_left, Nat.mod_eq_of_lt (by omega : 1 < m)] at h3
    omega

theorem lm_two {P Q : Nat} (hP : 3 ≤ P) (hQ : 3 ≤ Q) : 2 ≤ lm P Q := by
  have h := Nat.le_of_dvd (lm_pos (by omega) (by omega)) (show P - 1 ∣ lm P Q from Nat.dvd_lcm_left _ _)
  omega

theorem Make_key (P Q n d : Nat) (hP : Pr P) (hQ : Pr Q) (hne : P ≠ Q) (hPQ : P * Q ≤ 1048576) (h1 : 1 ≤ n) (h2 : n ≤ P * Q) (hP3 : P ≠ 2) (hQ3 : Q ≠ 2) (hg : Nat.gcd n (lm P Q) = 1) (hd : d < lm P Q) (hnd : n * d % lm P Q = 1 % lm P Q) (w : World) :
    Calls Try.prog 15 #[.int .i64 (P : Int), .int .i64 (Q : Int), .int .i64 (n : Int)] w fun e w' => e = .returned (.tuple #[.agg #[.int .i64 (P * Q : Nat), .int .i64 (n : Int), .int .i64 (d : Int)], .int .i64 0]) ∧ Below w.heap.size w w' := by
  refine (Make_yes P Q n hP hQ hne hPQ h1 h2 hP3 hQ3 hg w).mono ?_
  rintro e w' ⟨d', he, hd', hnd', hB⟩
  rw [inv_uniq hg hd hd' hnd hnd']
  exact ⟨he, hB⟩

end Go.Proofs.Ytoohnfcikapmlaa.Calls154
