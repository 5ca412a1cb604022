/-
  Package rsa: what opens, and the key.
-/
import Derived.Test.YtoohnfcikapmlaaCalls150
namespace Go.Proofs.Ytoohnfcikapmlaa.Calls151
set_option linter.unusedVariables false
open Go.ChangeShapes Go.WideShapes Go.ChangeAt Go.RowKit Go.Deep Go.Proofs.Ytoohnfcikapmlaa.Base Go.Proofs.Ytoohnfcikapmlaa.Base2 Go.Proofs.Ytoohnfcikapmlaa.Num Go.Proofs.Ytoohnfcikapmlaa.Num13 Go.Proofs.Ytoohnfcikapmlaa.Num56 Go.Proofs.Ytoohnfcikapmlaa.Calls150
open Go.Proofs.Ytoohnfcikapmlaa.Math (gg)
open Go.Proofs.Ytoohnfcikapmlaa.Calls6 (one_yes leastFactor_any)
open Go.Proofs.Ytoohnfcikapmlaa.Calls24 (Lcm_b)

theorem InvB (a m : Int) (w : World) (ha1 : -2147483648 ≤ a) (ha2 : a ≤ 2147483648) (h1 : 1 ≤ m) (h2 : m ≤ 1048576) (hg : gg a m = 1) :
    Calls Try.prog 31 #[.int .i64 a, .int .i64 m] w fun e w' =>
      ∃ x : Int, e = .returned (.tuple #[.int .i64 x, .int .i64 0]) ∧ 0 ≤ x ∧ x < m ∧ m ∣ x * a - 1 ∧ Below w.heap.size w w' := by
  have d1 : decide (m < 1) = false := by simp; omega
  have d2 : decide (1048576 < m) = false := by simp; omega
  have hm : (m.natAbs : Int) / 1 = m := by omega
  have HG := hid hg
  have HM := hid hm
  clear hg hm
  go_enter Try.func31, Try.ntmps31
  go_wp2_with (first
    | (go_at_call 41; refine (one_yes a _ ha1 ha2).mono ?_; rintro e w' ⟨rfl, rfl⟩)
    | (go_at_call 44; refine (leastFactor_any _ _ _ (by omega) ha1 ha2 (by omega) (by omega)).mono ?_; rw [HG.out, HM.out]; rintro e w' ⟨x, rfl, hx1, hx2, hx3, rfl⟩; have HX := hid hx3; clear hx3))
  go_ret2
  exact ⟨x, rfl, hx1, hx2, HX.out, (Below.refl _ _).alloc (Nat.le_refl _) _⟩

theorem InvN (a m : Int) (w : World) (ha1 : -2147483648 ≤ a) (ha2 : a ≤ 2147483648) (h1 : 1 ≤ m) (h2 : m ≤ 1048576) (hg : gg a m ≠ 1) :
    Calls Try.prog 31 #[.int .i64 a, .int .i64 m] w fun e w' =>
      e = .returned (.tuple #[.int .i64 0, .int .i64 5]) ∧ Below w.heap.size w w' := by
  have d1 : decide (m < 1) = false := by simp; omega
  have d2 : decide (1048576 < m) = false := by simp; omega
  have hg1 : (gg a m == 1) = false := by simpa using hg
  clear hg
  go_enter Try.func31, Try.ntmps31
  go_wp2_with (first
    | (go_at_call 41; refine (one_yes a _ ha1 ha2).mono ?_; rintro e w' ⟨rfl, rfl⟩)
    | (go_at_call 44; refine (leastFactor_any _ _ _ (by omega) ha1 ha2 (by omega) (by omega)).mono ?_; rintro e w' ⟨x, rfl, hx1, hx2, hx3, rfl⟩; clear hx3))
  go_ret2
  exact ⟨rfl, (Below.refl _ _).alloc (Nat.le_refl _) _⟩

theorem gg_nats (a b : Nat) : gg (a : Int) (b : Int) = (Nat.gcd a b : Nat) := rfl

/-- What divides both primes less one. -/
def lm (P Q : Nat) : Nat := Nat.lcm (P - 1) (Q - 1)

theorem lm_pos {P Q : Nat} (hP : 2 ≤ P) (hQ : 2 ≤ Q) : 1 ≤ lm P Q := Nat.lcm_pos (by omega) (by omega)

theorem lm_le {P Q : Nat} (hP : 2 ≤ P) (hQ : 2 ≤ Q) : lm P Q ≤ P * Q := by
  have h := Nat.le_of_dvd (Nat.mul_pos (show 0 < P - 1 by omega) (show 0 < Q - 1 by omega)) (Nat.lcm_dvd (Nat.dvd_mul_right (P - 1) (Q - 1)) (Nat.dvd_mul_left (Q - 1) (P - 1)))
  exact Nat.le_trans h (Nat.mul_le_mul (Nat.sub_le P 1) (Nat.sub_le Q 1))

theorem opens_two (P Q n : Nat) (h : P = 2 ∨ Q = 2) (w : World) :
    Calls Try.prog 24 #[.int .i64 (P : Int), .int .i64 (Q : Int), .int .i64 (n : Int)] w fun e w' => e = .returned (.tuple #[.int .i64 0, .bool false]) ∧ Below w.heap.size w w' := by
  by_cases h1 : P = 2
  · subst h1
    clear h
    go_enter Try.func24, Try.ntmps24
    go_wp2
    go_ret2
    exact ⟨rfl, Below.refl _ _⟩
  · have h2 : Q = 2 := by omega
    subst h2
    have e1 : ((P : Int) == 2) = false := beq_eq_false_iff_ne.2 (by omega)
    clear h h1
    go_enter Try.func24, Try.ntmps24
    go_wp2
    go_ret2
    exact ⟨rfl, Below.refl _ _⟩

theorem opens_none (P Q n : Nat) (hP : 3 ≤ P) (hQ : 3 ≤ Q) (hP2 : P ≤ 1048576) (hQ2 : Q ≤ 1048576) (hn : n ≤ 1048576) (hm : lm P Q ≤ 1048576) (hg : Nat.gcd n (lm P Q) ≠ 1) (w : World) :
    Calls Try.prog 24 #[.int .i64 (P : Int), .int .i64 (Q : Int), .int .i64 (n : Int)] w fun e w' => e = .returned (.tuple #[.int .i64 0, .bool false]) ∧ Below w.heap.size w w' := by
  have e1 : ((P : Int) == 2) = false := beq_eq_false_iff_ne.2 (by omega)
  have e2 : ((Q : Int) == 2) = false := beq_eq_false_iff_ne.2 (by omega)
  have hl := lm_pos (P := P) (Q := Q) (by omega) (by omega)
  have cL := fun w => Lcm_b (P - 1) (Q - 1) w (by omega) (by omega) (by omega) (by omega)
  have cI := fun w => InvN (n : Int) (lm P Q : Int) w (by omega) (by omega) (by omega) (by omega) (by rw [gg_nats]; omega)
  have ha : (P : Int) - 1 = ((P - 1 : Nat) : Int) := by omega
  have hb : (Q : Int) - 1 = ((Q - 1 : Nat) : Int) := by omega
  unfold lm at *
  have hx : P - 1 ≤ 1048576 := by omega
  have hy : Q - 1 ≤ 1048576 := by omega
  generalize P - 1 = a at *
  generalize Q - 1 = b at *
  generalize Nat.lcm a b = m at *
  clear hg
  go_enter Try.func24, Try.ntmps24
  go_wp2_with (first
    | (go_at_call 30; refine (cL _).mono ?_; rintro e w1 ⟨rfl, hB1⟩)
    | (go_at_call 31; refine (cI _).mono ?_; rintro e w2 ⟨rfl, hB2⟩))
  go_ret2
  exact ⟨rfl, below_trans hB1 hB2⟩

theorem opens_yes (P Q n : Nat) (hP : 3 ≤ P) (hQ : 3 ≤ Q) (hP2 : P ≤ 1048576) (hQ2 : Q ≤ 1048576) (hn : n ≤ 1048576) (hm : lm P Q ≤ 1048576) (hg : Nat.gcd n (lm P Q) = 1) (w : World) :
    Calls Try.prog 24 #[.int .i64 (P : Int), .int .i64 (Q : Int), .int .i64 (n : Int)] w fun e w' => ∃ x : Int, e = .returned (.tuple #[.int .i64 x, .bool true]) ∧ 0 ≤ x ∧ x < (lm P Q : Int) ∧ (lm P Q : Int) ∣ x * (n : Int) - 1 ∧ Below w.heap.size w w' := by
  have e1 : ((P : Int) == 2) = false := beq_eq_false_iff_ne.2 (by omega)
  have e2 : ((Q : Int) == 2) = false := beq_eq_false_iff_ne.2 (by omega)
  have hl := lm_pos (P := P) (Q := Q) (by omega) (by omega)
  have cL := fun w => Lcm_b (P - 1) (Q - 1) w (by omega) (by omega) (by omega) (by omega)
  have cI := fun w => InvB (n : Int) (lm P Q : Int) w (by omega) (by omega) (by omega) (by omega) (by rw [gg_nats]; omega)
  have ha : (P : Int) - 1 = ((P - 1 : Nat) : Int) := by omega
  have hb : (Q : Int) - 1 = ((Q - 1 : Nat) : Int) := by omega
  unfold lm at *
  have hx : P - 1 ≤ 1048576 := by omega
  have hy : Q - 1 ≤ 1048576 := by omega
  generalize P - 1 = a at *
  generalize Q - 1 = b at *
  generalize Nat.lcm a b = m at *
  clear hg
  go_enter Try.func24, Try.ntmps24
  go_wp2_with (first
    | (go_at_call 30; refine (cL _).mono ?_; rintro e w1 ⟨rfl, hB1⟩)
    | (go_at_call 31; refine (cI _).mono ?_; rintro e w2 ⟨x, rfl, hx1, hx2, hx3, hB2⟩; have HX := hid hx3; clear hx3))
  go_ret2
  exact ⟨x, rfl, hx1, hx2, HX.out, below_trans hB1 hB2⟩

theorem set3 {W : World} {B : Nat} {t : TypeId} {a b c : Value} (h : BoxC W B t #[a, b, c]) (a' b' c' : Value) : BoxC (((W.setCell ⟨B, 0, none⟩ a').setCell ⟨B, 1, none⟩ b').setCell ⟨B, 2, none⟩ c') B t #[a', b', c'] := by
  have := ((h.set 0 a').set 1 b').set 2 c'
  simpa using this

theorem below_set3 {n B : Nat} {w W : World} {a b c : Value} (h : Below n w W) (hB : n ≤ B) : Below n w (((W.setCell ⟨B, 0, none⟩ a).setCell ⟨B, 1, none⟩ b).setCell ⟨B, 2, none⟩ c) :=
  ((h.setCell hB _).setCell hB _).setCell hB _

set_option maxRecDepth 100000 in
theorem Make_bad (p q n : Int) (h : mkC p q n ≠ 0) (w : World) :
    Calls Try.prog 15 #[.int .i64 p, .int .i64 q, .int .i64 n] w fun e w' => e = .returned (.tuple #[.agg #[.int .i64 0, .int .i64 0, .int .i64 0], .int .i64 (mkC p q n)]) ∧ Below w.heap.size w w' := by
  have cC := fun w => checkMake_any p q n w
  generalize mkC p q n = c at *
  have h1 : (c != 0) = true := by simpa using h
  have h2 : (c == 0) = false := by simpa using h
  have B0 := hid (BoxC.new w 23 #[.int .i64 0, .int .i64 0, .int .i64 0])
  have hal := hid ((Below.refl w.heap.size w).alloc (Nat.le_refl _) (.cells #[.int .i64 0, .int .i64 0, .int .i64 0] 23))
  go_enter Try.func15, Try.ntmps15
  go_wp2_with (go_at_call 23; refine (cC _).mono ?_; rintro e w1 ⟨rfl, hB1⟩; have B1 := hid (B0.out.below hB1 (by simp)); have c0 := B1.out.cell 0; have c1 := B1.out.cell 1; have c2 := B1.out.cell 2; have f0 := B1.out.frozen 0; have f1 := B1.out.frozen 1; have f2 := B1.out.frozen 2; simp at c0 c1 c2)
  have HB := hid (below_trans hal.out hB1)
  have r := set3 B1.out (.int .i64 0) (.int .i64 0) (.int .i64 0)
  have r0 := r.cell 0
  have r1 := r.cell 1
  have r2 := r.cell 2
  simp at r0 r1 r2
  exact bodyPost_ret (v := .tuple #[.agg #[.int .i64 0, .int .i64 0, .int .i64 0], .int .i64 c]) (by simp [results, Try.results15, go_sem, r0, r1, r2]) rfl ⟨rfl, below_set3 HB.out (Nat.le_refl _)⟩

/-- The code of two primes and what is public where nothing is wrong yet. -/
theorem mkC_zero {p q n : Int} (h : mkC p q n = 0) : ∃ P Q m : Nat, p = (P : Int) ∧ q = (Q : Int) ∧ n = (m : Int) ∧ Pr P ∧ Pr Q ∧ P ≠ Q ∧ P * Q ≤ 1048576 ∧ 1 ≤ m ∧ m ≤ P * Q := by
  unfold mkC at h
  split at h
  · rename_i h1
    split at h
    · rename_i h2
      obtain ⟨P, Q, rfl, rfl, hP, hQ, hne, _, _⟩ := (twoP_iff p q).1 h2
      have e : (P : Int) * (Q : Int) = ((P * Q : Nat) : Int) := by simp
      split at h
      · rename_i h3
        split at h
        · rename_i h4
          exact ⟨P, Q, n.toNat, rfl, rfl, by omega, hP, hQ, hne, by omega, by omega, by omega⟩
        · omega
      · omega
    · omega
  · omega

theorem mkC_of {P Q m : Nat} (hP : Pr P) (hQ : Pr Q) (hne : P ≠ Q) (hPQ : P * Q ≤ 1048576) (h1 : 1 ≤ m) (h2 : m ≤ P * Q) : mkC (P : Int) (Q : Int) (m : Int) = 0 := by
  have p2 := hP.1
  have q2 := hQ.1
  have e : (P : Int) * (Q : Int) = ((P * Q : Nat) : Int) := by simp
  have l1 : P ≤ P * Q := Nat.le_mul_of_pos_right _ (by omega)
  have l2 : Q ≤ P * Q := Nat.le_mul_of_pos_left _ (by omega)
  unfold mkC
  rw [if_pos ⟨⟨⟨by omega, by omega⟩, by omega, by omega⟩, by omega, by omega⟩, if_pos ((twoP_iff _ _).2 ⟨P, Q, rfl, rfl, hP, hQ, hne, by omega, by omega⟩), if_pos (by omega), if_pos (by omega)]

set_option maxRecDepth 100000 in
theorem Make_none (P Q n : Nat) (hP : Pr P) (hQ : Pr Q) (hne : P ≠ Q) (hPQ : P * Q ≤ 1048576) (h1 : 1 ≤ n) (h2 : n ≤ P * Q) (hno : (P = 2 ∨ Q = 2) ∨ Nat.gcd n (lm P Q) ≠ 1) (w : World) :
    Calls Try.prog 15 #[.int .i64 (P : Int), .int .i64 (Q : Int), .int .i64 (n : Int)] w fun e w' => e = .returned (.tuple #[.agg #[.int .i64 0, .int .i64 0, .int .i64 0], .int .i64 5]) ∧ Below w.heap.size w w' := by
  have p2 := hP.1
  have q2 := hQ.1
  have l1 : P ≤ P * Q := Nat.le_mul_of_pos_right _ (by omega)
  have l2 : Q ≤ P * Q := Nat.le_mul_of_pos_left _ (by omega)
  have cC := fun w => checkMake_any (P : Int) (Q : Int) (n : Int) w
  rw [mkC_of hP hQ hne hPQ h1 h2] at cC
  have hl := lm_le p2 q2
  have cO : ∀ w, Calls Try.prog 24 #[.int .i64 (P : Int), .int .i64 (Q : Int), .int .i64 (n : Int)] w fun e w' => e = .returned (.tuple #[.int .i64 0, .bool false]) ∧ Below w.heap.size w w' := by
    intro w
    by_cases h : P = 2 ∨ Q = 2
    · exact opens_two P Q n h w
    · exact opens_none P Q n (by omega) (by omega) (by omega) (by omega) (by omega) (by omega) (hno.resolve_left h) w
  have B0 := hid (BoxC.new w 23 #[.int .i64 0, .int .i64 0, .int .i64 0])
  have hal := hid ((Below.refl w.heap.size w).alloc (Nat.le_refl _) (.cells #[.int .i64 0, .int .i64 0, .int .i64 0] 23))
  clear hno hl hP hQ hne
  go_enter Try.func15, Try.ntmps15
  go_wp2_with (first
    | (go_at_call 23; refine (cC _).mono ?_; rintro e w1 ⟨rfl, hB1⟩; have B1 := hid (B0.out.below hB1 (by simp)); have hs1 := hB1.size; simp at hs1)
    | (go_at_call 24; refine (cO _).mono ?_; rintro e w2 ⟨rfl, hB2⟩; have B2 := hid (B1.out.below hB2 (by omega)); have c0 := B2.out.cell 0; have c1 := B2.out.cell 1; have c2 := B2.out.cell 2; have f0 := B2.out.frozen 0; have f1 := B2.out.frozen 1; have f2 := B2.out.frozen 2; simp at c0 c1 c2))
  have HB := hid (below_trans (below_trans hal.out hB1) hB2)
  have r := set3 B2.out (.int .i64 0) (.int .i64 0) (.int .i64 0)
  have r0 := r.cell 0
  have r1 := r.cell 1
  have r2 := r.cell 2
  simp at r0 r1 r2
  exact bodyPost_ret (v := .tuple #[.agg #[.int .i64 0, .int .i64 0, .int .i64 0], .int .i64 5]) (by simp [results, Try.results15, go_sem, r0, r1, r2]) rfl ⟨rfl, below_set3 HB.out (Nat.le_refl _)⟩

set_option maxRecDepth 100000 in
theorem Make_yes (P Q n : Nat) (hP : Pr P) (hQ : Pr Q) (hne : P ≠ Q) (hPQ : P * Q ≤ 1048576) (h1 : 1 ≤ n) (h2 : n ≤ P * Q) (hP3 : P ≠ 2) (hQ3 : Q ≠ 2) (hg : Nat.gcd n (lm P Q) = 1) (w : World) :
    Calls Try.prog 15 #[.int .i64 (P : Int), .int .i64 (Q : Int), .int .i64 (n : Int)] w fun e w' => ∃ d : Nat, e = .returned (.tuple #[.agg #[.int .i64 (P * Q : Nat), .int .i64 (n : Int), .int .i64 (d : Int)], .int .i64 0]) ∧ d < lm P Q ∧ n * d % lm P Q = 1 % lm P Q ∧ Below w.heap.size w w' := by
  have p2 := hP.1
  have q2 := hQ.1
  have l1 : P ≤ P * Q := Nat.le_mul_of_pos_right _ (by omega)
  have l2 : Q ≤ P * Q := Nat.le_mul_of_pos_left _ (by omega)
  have cC := fun w => checkMake_any (P : Int) (Q : Int) (n : Int) w
  rw [mkC_of hP hQ hne hPQ h1 h2] at cC
  have hl := lm_le p2 q2
  have hlp := lm_pos p2 q2
  have cO := fun w => opens_yes P Q n (by omega) (by omega) (by omega) (by omega) (by omega) (by omega) hg w
  have B0 := hid (BoxC.new w 23 #[.int .i64 0, .int .i64 0, .int .i64 0])
  have hal := hid ((Below.refl w.heap.size w).alloc (Nat.le_refl _) (.cells #[.int .i64 0, .int .i64 0, .int .i64 0] 23))
  have he : (P : Int) * (Q : Int) = ((P * Q : Nat) : Int) := by simp
  have m1 : 0 ≤ (P : Int) * (Q : Int) := by omega
  have m2 : (P : Int) * (Q : Int) ≤ 1048576 := by omega
  have HE := hid he
  clear hP hQ hne hg he
  generalize lm P Q = m at *
  go_enter Try.func15, Try.ntmps15
  go_wp2_with (first
    | (go_at_call 23; refine (cC _).mono ?_; rintro e w1 ⟨rfl, hB1⟩; have B1 := hid (B0.out.below hB1 (by simp)); have hs1 := hB1.size; simp at hs1)
    | (go_at_call 24; refine (cO _).mono ?_; rintro e w2 ⟨x, rfl, hx1, hx2, hx3, hB2⟩; have HX := hid hx3; clear hx3; have B2 := hid (B1.out.below hB2 (by omega)); have c0 := B2.out.cell 0; have c1 := B2.out.cell 1; have c2 := B2.out.cell 2; have f0 := B2.out.frozen 0; have f1 := B2.out.frozen 1; have f2 := B2.out.frozen 2; simp at c0 c1 c2))
  have HB := hid (below_trans (below_trans hal.out hB1) hB2)
  have r := set3 B2.out (.int .i64 ((P : Int) * (Q : Int))) (.int .i64 (n : Int)) (.int .i64 x)
  have r0 := r.cell 0
  have r1 := r.cell 1
  have r2 := r.cell 2
  simp at r0 r1 r2
  refine bodyPost_ret (v := .tuple #[.agg #[.int .i64 ((P : Int) * (Q : Int)), .int .i64 (n : Int), .int .i64 x], .int .i64 0]) (by simp [results, Try.results15, go_sem, r0, r1, r2]) rfl ⟨x.toNat, ?_, by omega, ?_, below_set3 HB.out (Nat.le_refl _)⟩
  · rw [← HE.out, Int.toNat_of_nonneg hx1]
  · have hx : (x.toNat : Int) = x := Int.toNat_of_nonneg hx1
    have h3 : ((n * x.toNat % m : Nat) : Int) = ((1 % m : Nat) : Int) := by
      rw [Int.natCast_emod, Int.natCast_mul, hx, Int.natCast_emod 1 m, Int.mul_comm]
      exact Int.emod_eq_emod_iff_emod_sub_eq_zero.2 (Int.emod_eq_zero_of_dvd HX.out)
    exact_mod_cast h3

end Go.Proofs.Ytoohnfcikapmlaa.Calls151
