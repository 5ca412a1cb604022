/-
  What package liars answers: raise, split, isStrong, the three questions and Count, at every input; the document's own Strong.
-/
import Derived.Test.YtnciahbpmajhdabCalls29
import Derived.Test.YtnciahbpmajhdabNum30
namespace Go.Proofs.Ytnciahbpmajhdab.Calls32
set_option linter.unusedVariables false
open Go.ChangeShapes Go.WideShapes Go.ChangeAt Go.RowKit Go.Proofs.Ytnciahbpmajhdab.Num Go.Proofs.Ytnciahbpmajhdab.Num3 Go.Proofs.Ytnciahbpmajhdab.Num10 Go.Proofs.Ytnciahbpmajhdab.Num13 Go.Proofs.Ytnciahbpmajhdab.Num29 Go.Proofs.Ytnciahbpmajhdab.Num30 Go.Proofs.Ytnciahbpmajhdab.Calls8 Go.Proofs.Ytnciahbpmajhdab.Calls9 Go.Proofs.Ytnciahbpmajhdab.Calls19 Go.Proofs.Ytnciahbpmajhdab.Calls20 Go.Proofs.Ytnciahbpmajhdab.Calls29

/-- An odd modulus from 3 on. -/
abbrev Om (n : Int) : Prop := 3 ≤ n ∧ n ≤ 1048576 ∧ n % 2 = 1

theorem lNumber_any (n : Int) (w : World) :
    Calls Try.prog 18 #[.int .i64 n] w fun e w' => e = .returned (.bool (decide (Nr n))) ∧ w' = w := by
  by_cases h : Nr n
  · rw [decide_eq_true h]
    obtain ⟨h1, h2⟩ := h
    go_enter Try.func18, Try.ntmps18
    go_wp2
    go_ret
    exact ⟨rfl, rfl⟩
  · rw [decide_eq_false h]
    by_cases h1 : -2147483648 ≤ n
    · have h2 : ¬ n ≤ 2147483648 := by unfold Nr at h; omega
      clear h
      go_enter Try.func18, Try.ntmps18
      go_wp2
      go_ret
      exact ⟨rfl, rfl⟩
    · clear h
      go_enter Try.func18, Try.ntmps18
      go_wp2
      go_ret
      exact ⟨rfl, rfl⟩

theorem lOdd_any (n : Int) (w : World) :
    Calls Try.prog 9 #[.int .i64 n] w fun e w' => e = .returned (.bool (decide (Om n))) ∧ w' = w := by
  by_cases h : Om n
  · rw [decide_eq_true h]
    obtain ⟨h1, h2, h3⟩ := h
    have h4 : n.tmod 2 = 1 := by rw [Int.tmod_eq_emod_of_nonneg (by omega)]; exact h3
    have h5 := beq_t h4
    have h6 := beq_t h3
    go_enter Try.func9, Try.ntmps9
    go_wp2
    go_ret
    exact ⟨rfl, rfl⟩
  · rw [decide_eq_false h]
    by_cases h1 : 3 ≤ n
    · by_cases h2 : n ≤ 1048576
      · have h4 : ¬ n.tmod 2 = 1 := by rw [Int.tmod_eq_emod_of_nonneg (by omega)]; unfold Om at h; omega
        have h5 := beq_f h4
        have h7 : ¬ n % 2 = 1 := by unfold Om at h; omega
        have h6 := beq_f h7
        clear h
        go_enter Try.func9, Try.ntmps9
        go_wp2
        go_ret
        exact ⟨rfl, rfl⟩
      · clear h
        go_enter Try.func9, Try.ntmps9
        go_wp2
        go_ret
        exact ⟨rfl, rfl⟩
    · clear h
      go_enter Try.func9, Try.ntmps9
      go_wp2
      go_ret
      exact ⟨rfl, rfl⟩

theorem lraise_any (a : Int) (k m : Nat) (ha : Nr a) (hk : k ≤ 2147483648) (hm1 : 1 ≤ m) (hm2 : m ≤ 1048576) (w : World) :
    Calls Try.prog 14 #[.int .i64 a, .int .i64 (k : Int), .int .i64 (m : Int)] w fun e w' => e = .returned (.int .i64 (pw a k m : Int)) ∧ w' = w := by
  have cP := fun w => Pow_yes a k m ha.1 ha.2 hk hm1 hm2 w
  clear ha hk hm1 hm2
  go_enter Try.func14, Try.ntmps14
  go_wp2_with (go_at_call 22; refine (cP _).mono ?_; rintro e w' ⟨rfl, hw⟩; subst w')
  go_ret
  exact ⟨rfl, rfl⟩

theorem lsplit_any (N s d : Nat) (hd : d % 2 = 1) (hN : N ≤ 1048576) (h : N = 2 ^ s * d) (w : World) :
    Calls Try.prog 17 #[.int .i64 (N : Int)] w fun e w' => e = .returned (.tuple #[.int .i64 (d : Int), .int .i64 (s : Int)]) ∧ w' = w := by
  have hs : s < N := Nat.lt_of_lt_of_le (lt_two s) (by
    have : 2 ^ s * 1 ≤ 2 ^ s * d := Nat.mul_le_mul_left _ (by omega)
    omega)
  go_enter Try.func17, Try.ntmps17
  go_wp2
  go_loop [0, 4] (fun tn tk => ∃ x k j : Nat, tn = .int .i64 (x : Int) ∧ tk = .int .i64 (k : Int) ∧ Hid (k + j = s ∧ x = 2 ^ j * d) ∧ k ≤ s ∧ 1 ≤ x ∧ x ≤ N) (fun tn _ => (intOf tn).toNat)
  case atStart => exact ⟨N, 0, s, rfl, rfl, hid ⟨by omega, h⟩, by omega, by omega, Nat.le_refl _⟩
  case round =>
    obtain ⟨x, k, j, rfl, rfl, hx, hk, hx1, hx2⟩ := hrel
    rcases j with _ | j
    · obtain ⟨e1, e2⟩ := hx.out
      have e3 : k = s := by omega
      have e4 : x = d := by simpa using e2
      subst e3; subst e4
      have h2 := beq_f (show ¬ (x : Int) % 2 = 0 by omega)
      clear hx e1 e2 h
      go_wp2
      go_ret2
      exact ⟨rfl, rfl⟩
    · have hev : x % 2 = 0 := by rw [hx.out.2]; exact two_even d j
      have hha : x / 2 = 2 ^ j * d := by rw [hx.out.2]; exact two_half d j
      have h2 := beq_t (show (x : Int) % 2 = 0 by omega)
      have hq : Hid ((x : Int) / 2 = ((x / 2 : Nat) : Int)) := by show _ = _; omega
      have H := hid (show k + 1 + j = s ∧ x / 2 = 2 ^ j * d from ⟨by have := hx.out.1; omega, hha⟩)
      have hk2 : k + 1 ≤ s := by have := H.out.1; omega
      have hx3 : 1 ≤ x / 2 := by omega
      clear hha h hev hx
      go_wp2
      go_round
      case rel => exact ⟨x / 2, k + 1, j, by rw [hq.out], by simp, H, hk2, hx3, by omega⟩
      case measure => simp only [intOf]; omega

theorem meas_in {x s : Nat} (h : x < s) : ((s : Int) - ((x : Int) + 1)).toNat < ((s : Int) - (x : Int)).toNat := by omega

set_option maxRecDepth 100000 in
theorem isStrong_any (a : Int) (n s d : Nat) (ha : Nr a) (H : Odd2 n s d) (hn2 : n ≤ 1048576) (w : World) :
    Calls Try.prog 10 #[.int .i64 a, .int .i64 (n : Int)] w fun e w' => e = .returned (.bool (stB a n s d)) ∧ w' = w := by
  have h3 := H.three
  have hs := H.s_le
  have hdl := H.le (k := 0) (by omega)
  simp only [Nat.pow_zero, Nat.one_mul] at hdl
  have cS := fun w => lsplit_any (n - 1) s d H.d1 (by omega) H.eq w
  rw [show ((n - 1 : Nat) : Int) = (n : Int) - 1 by omega] at cS
  have cR := fun w => lraise_any a d n ha (by omega) (by omega) hn2 w
  have hx := pw_lt a d (m := n) (by omega)
  have hn0 : ¬ (n : Int) = 0 := by omega
  clear ha H hdl
  by_cases h1 : pw a d n = 1
  · have e := hid (stB_one (s := s) h1)
    rw [h1] at cR
    clear h1 hx
    go_enter Try.func10, Try.ntmps10
    go_wp2_with (first | (go_at_call 17; refine (cS _).mono ?_; rintro e w' ⟨rfl, hw⟩; subst w') | (go_at_call 14; refine (cR _).mono ?_; rintro e w' ⟨rfl, hw⟩; subst w'))
    go_ret
    exact ⟨ret_bool e.out.symm, rfl⟩
  · have S0 := hid (Sofar.start h1)
    have h1' := beq_f (show ¬ ((pw a d n : Nat) : Int) = 1 by omega)
    have X0 := hid (show pw a d n = pw a (2 ^ 0 * d) n by rw [Nat.pow_zero, Nat.one_mul])
    obtain ⟨x0, hx0⟩ : ∃ x0, pw a d n = x0 := ⟨_, rfl⟩
    rw [hx0] at cR h1' hx X0
    have X0 : Hid (x0 = pw a (2 ^ 0 * d) n) := X0
    clear h1 hx0
    go_enter Try.func10, Try.ntmps10
    go_wp2_with (first | (go_at_call 17; refine (cS _).mono ?_; rintro e w' ⟨rfl, hw⟩; subst w') | (go_at_call 14; refine (cR _).mono ?_; rintro e w' ⟨rfl, hw⟩; subst w'))
    go_loop [7, 21] (fun tx tj => ∃ x j : Nat, tx = .int .i64 (x : Int) ∧ tj = .int .i64 (j : Int) ∧ x < n ∧ j ≤ s ∧ Hid (x = pw a (2 ^ j * d) n) ∧ Hid (Sofar a n d j)) (fun _ tj => ((s : Int) - intOf tj).toNat)
    case atStart => exact ⟨x0, 0, rfl, rfl, hx, by omega, X0, S0⟩
    case round =>
      obtain ⟨x, j, rfl, rfl, hx, hj, hX, hS⟩ := hrel
      by_cases hgo : j < s
      · have hgo' : (j : Int) < (s : Int) := by omega
        by_cases hm : x = n - 1
        · have e := hid (Sofar.yes hgo (hX.out.symm.trans hm))
          have hm' := beq_t (show (x : Int) = (n : Int) - 1 by omega)
          clear hm
          go_wp2
          go_ret
          exact ⟨ret_bool e.out.symm, rfl⟩
        · have S2 := hid (hS.out.next (fun e => hm (hX.out.trans e)))
          have hm' := beq_f (show ¬ (x : Int) = (n : Int) - 1 by omega)
          have X2 := hid (show x * x % n = pw a (2 ^ (j + 1) * d) n by rw [hX.out]; exact pw_sq a n d j)
          have hb := mul_bd hx hx hn2
          have hxx : x * x % n < n := Nat.mod_lt _ (by omega)
          have hq : Hid ((x : Int) * (x : Int) % (n : Int) = ((x * x % n : Nat) : Int)) := by show _ = _; simp
          clear hm hX hS
          go_wp2
          go_round
          case rel => exact ⟨x * x % n, j + 1, by rw [hq.out], by simp, hxx, by omega, X2, S2⟩
          case measure => exact meas_in hgo
      · have hgo' : ¬ (j : Int) < (s : Int) := by omega
        have ej : j = s := by omega
        subst ej
        have e := hid hS.out.no
        clear hX hS
        go_wp2
        go_ret
        exact ⟨ret_bool e.out.symm, rfl⟩

/-! ### The questions -/

theorem bl_drewN {B : Nat} {a b : World} (h : Below B a b) (n : Nat) : Below B a (b.drewN n) := ⟨h.os, h.tape, h.output, h.size, h.block⟩

theorem jrest {J : Int} {n : Nat} (hn : 3 ≤ n) (hJ : J = 0 ∨ J = 1 ∨ J = -1) : ((n : Int) + J) % (n : Int) = ((rs J n : Nat) : Int) ∧ ((n : Int) + J).tmod (n : Int) = ((rs J n : Nat) : Int) := by
  have h : ((n : Int) + J) % (n : Int) = ((rs J n : Nat) : Int) := by rw [rs_cast J (by omega), Int.add_emod_left]
  exact ⟨h, by rw [Int.tmod_eq_emod_of_nonneg (by omega)]; exact h⟩

set_option maxRecDepth 100000 in
theorem Euler1_any (a J : Int) (n : Nat) (ha : Nr a) (hn : 3 ≤ n) (ho : n % 2 = 1) (hn2 : n ≤ 1048576) (hJ : JJ a n J) (A N : Nat) (w : World) (cA : w.cell? ⟨A, 0, none⟩ = some (.int .i64 a)) (cN : w.cell? ⟨N, 0, none⟩ = some (.int .i64 (n : Int))) :
    Calls Try.prog 12 #[.pointer (some ⟨A, 0, none⟩), .pointer (some ⟨N, 0, none⟩)] w fun e w' => e = .returned (.bool (euB a n J)) ∧ Below w.heap.size w w' := by
  have cJ := fun w => Jacobi_yes a n J ha ho hn2 hJ w
  have cR := fun w => lraise_any a ((n - 1) / 2) n ha (by omega) (by omega) hn2 w
  rw [show (((n - 1) / 2 : Nat) : Int) = ((n : Int) - 1) / 2 by omega] at cR
  have hJ3 := hJ.three
  have hn0 : ¬ (n : Int) = 0 := by omega
  obtain ⟨q1, q2⟩ := jrest hn hJ3
  have hJb : -1 ≤ J ∧ J ≤ 1 := by omega
  obtain ⟨b1, b2⟩ := hJb
  by_cases h0 : J = 0
  · subst h0
    have e : Hid (euB a n 0 = false) := by show _ = _; unfold euB; exact decide_eq_false (fun h => h.1 rfl)
    clear ha hJ hJ3 ho q1 q2
    go_enter Try.func12, Try.ntmps12
    go_wp2_with (go_at_call 13; refine (cJ _).mono ?_; rintro e w' ⟨rfl, hw⟩; subst w')
    go_quiet (fail)
    go_wp2
    go_ret
    exact ⟨ret_bool e.out.symm, bl_drewN (Below.refl _ _) _⟩
  · have h0' := bne_t h0
    have E : euB a n J = decide (pw a ((n - 1) / 2) n = rs J n) := by unfold euB; simp [h0]
    have E2 : (((pw a ((n - 1) / 2) n : Nat) : Int) == ((n : Int) + J) % (n : Int)) = euB a n J := by
      rw [E, q1]
      by_cases h : pw a ((n - 1) / 2) n = rs J n
      · rw [h]; simp
      · rw [decide_eq_false h]; exact beq_f (by omega)
    have E3 := hid E2
    clear ha hJ hJ3 ho q1 q2 E E2
    go_enter Try.func12, Try.ntmps12
    go_wp2_with (go_at_call 13; refine (cJ _).mono ?_; rintro e w' ⟨rfl, hw⟩; subst w')
    go_quiet ((go_at_call 14; exact Calls.quiet_of_same (cR _)))
    go_wp2
    go_ret
    exact ⟨ret_bool (by have := E3.out; rw [Int.add_emod_left] at this; exact this), bl_drewN (Below.refl _ _) _⟩

theorem ask_no (a n : Int) (f : Value) (h : ¬ (Nr a ∧ Om n)) (w : World) :
    Calls Try.prog 11 #[.int .i64 a, .int .i64 n, f] w fun e w' => e = .returned (.tuple #[.bool false, .int .i64 2]) ∧ w' = w := by
  have c1 := fun w => lNumber_any a w
  have c2 := fun w => lOdd_any n w
  by_cases h1 : Nr a
  · have h2 : ¬ Om n := fun h2 => h ⟨h1, h2⟩
    rw [decide_eq_true h1] at c1
    rw [decide_eq_false h2] at c2
    clear h h1 h2
    go_enter Try.func11, Try.ntmps11
    go_wp2_with (first | (go_at_call 18; refine (c1 _).mono ?_; rintro e w' ⟨rfl, hw⟩; subst w') | (go_at_call 9; refine (c2 _).mono ?_; rintro e w' ⟨rfl, hw⟩; subst w'))
    go_ret2
    exact ⟨rfl, rfl⟩
  · rw [decide_eq_false h1] at c1
    clear h h1
    go_enter Try.func11, Try.ntmps11
    go_wp2_with (first | (go_at_call 18; refine (c1 _).mono ?_; rintro e w' ⟨rfl, hw⟩; subst w') | (go_at_call 9; refine (c2 _).mono ?_; rintro e w' ⟨rfl, hw⟩; subst w'))
    go_ret2
    exact ⟨rfl, rfl⟩

theorem ask_euler (a n : Int) (b : Bool) (A N : Nat) (h1 : Nr a) (h2 : Om n) (w : World)
    (cQ : Calls Try.prog 12 #[.pointer (some ⟨A, 0, none⟩), .pointer (some ⟨N, 0, none⟩)] w fun e w' => e = .returned (.bool b) ∧ Below w.heap.size w w') :
    Calls Try.prog 11 #[.int .i64 a, .int .i64 n, .func (.func 12) #[] #[.pointer (some ⟨A, 0, none⟩), .pointer (some ⟨N, 0, none⟩)]] w fun e w' => e = .returned (.tuple #[.bool b, .int .i64 0]) ∧ Below w.heap.size w w' := by
  have c1 := fun w => lNumber_any a w
  have c2 := fun w => lOdd_any n w
  rw [decide_eq_true h1] at c1
  rw [decide_eq_true h2] at c2
  clear h1 h2
  go_enter Try.func11, Try.ntmps11
  go_wp2_with (first | (go_at_call 18; refine (c1 _).mono ?_; rintro e w' ⟨rfl, hw⟩; subst w') | (go_at_call 9; refine (c2 _).mono ?_; rintro e w' ⟨rfl, hw⟩; subst w') | (go_at_call 12; refine cQ.mono ?_; rintro e w' ⟨rfl, hB⟩))
  go_ret2
  exact ⟨rfl, hB⟩

theorem Euler_yes (a J : Int) (n : Nat) (hR : Nr a) (hn : 3 ≤ n) (ho : n % 2 = 1) (hJ : JJ a n J) (hn2 : n ≤ 1048576) (w : World) :
    Calls Try.prog 7 #[.int .i64 a, .int .i64 (n : Int)] w fun e w' => e = .returned (.tuple #[.bool (euB a n J), .int .i64 0]) ∧ Below w.heap.size w w' := by
  have b0 := (BoxC.new w 2 #[.int .i64 a]).alloc (.cells #[.int .i64 (n : Int)] 2)
  have b1 := BoxC.new (w.alloc (.cells #[.int .i64 a] 2)) 2 #[.int .i64 (n : Int)]
  have hB0 : Below w.heap.size w ((w.alloc (.cells #[.int .i64 a] 2)).alloc (.cells #[.int .i64 (n : Int)] 2)) := ((Below.refl _ w).alloc (Nat.le_refl _) _).alloc (by simp) _
  have cA := b0.cell 0
  have cN := b1.cell 0
  simp only [World.size_alloc] at cN
  have cQ := ask_euler a (n : Int) (euB a n J) w.heap.size (w.heap.size + 1) hR ⟨by omega, by omega, by omega⟩ _ (Euler1_any a J n hR hn ho hn2 hJ _ _ _ cA cN)
  clear b0 b1 hR
  go_enter Try.func7, Try.ntmps7
  go_wp2_with (go_at_call 11; refine cQ.mono ?_; rintro e w' ⟨rfl, hB⟩)
  go_ret2
  exact ⟨rfl, hB0.trans (hB.mono (by simp; omega))⟩

theorem Euler_no (a n : Int) (h : ¬ (Nr a ∧ Om n)) (w : World) :
    Calls Try.prog 7 #[.int .i64 a, .int .i64 n] w fun e w' => e = .returned (.tuple #[.bool false, .int .i64 2]) ∧ Below w.heap.size w w' := by
  have b0 := (BoxC.new w 2 #[.int .i64 a]).alloc (.cells #[.int .i64 n] 2)
  have b1 := BoxC.new (w.alloc (.cells #[.int .i64 a] 2)) 2 #[.int .i64 n]
  have hB0 : Below w.heap.size w ((w.alloc (.cells #[.int .i64 a] 2)).alloc (.cells #[.int .i64 n] 2)) := ((Below.refl _ w).alloc (Nat.le_refl _) _).alloc (by simp) _
  have cA := b0.cell 0
  have cN := b1.cell 0
  simp only [World.size_alloc] at cN
  have cQ := fun f w => ask_no a n f h w
  clear b0 b1 h
  go_enter Try.func7, Try.ntmps7
  go_wp2_with (go_at_call 11; refine (cQ _ _).mono ?_; rintro e w' ⟨rfl, hw⟩; subst w')
  go_ret2
  exact ⟨rfl, hB0⟩

theorem ret_two {a b : Int} (h : a = b) : Ending.returned (.tuple #[.int .i64 a, .int .i64 0]) = .returned (.tuple #[.int .i64 b, .int .i64 0]) := by rw [h]

theorem Count_no (n : Int) (h : ¬ (Om n ∧ n ≤ 4096)) (w : World) :
    Calls Try.prog 5 #[.int .i64 n] w fun e w' => e = .returned (.tuple #[.int .i64 0, .int .i64 2]) ∧ w' = w := by
  have c2 := fun w => lOdd_any n w
  by_cases h1 : Om n
  · rw [decide_eq_true h1] at c2
    have h2 : ¬ n ≤ 4096 := fun h2 => h ⟨h1, h2⟩
    clear h h1
    go_enter Try.func5, Try.ntmps5
    go_wp2_with (go_at_call 9; refine (c2 _).mono ?_; rintro e w' ⟨rfl, hw⟩; subst w')
    go_ret2
    exact ⟨rfl, rfl⟩
  · rw [decide_eq_false h1] at c2
    clear h h1
    go_enter Try.func5, Try.ntmps5
    go_wp2_with (go_at_call 9; refine (c2 _).mono ?_; rintro e w' ⟨rfl, hw⟩; subst w')
    go_ret2
    exact ⟨rfl, rfl⟩

theorem stN_step {n s d k : Nat} (hk : 1 ≤ k) : stN n s d k = stN n s d (k - 1) + (if stB (k : Int) n s d = true then 1 else 0) := cnt_step _ hk

theorem stN_le (n s d k : Nat) : stN n s d k ≤ k := cnt_le _ _

theorem Count_yes (n s d : Nat) (H : Odd2 n s d) (hn2 : n ≤ 4096) (w : World) :
    Calls Try.prog 5 #[.int .i64 (n : Int)] w fun e w' => e = .returned (.tuple #[.int .i64 (stN n s d (n - 1) : Int), .int .i64 0]) ∧ w' = w := by
  have h3 := H.three
  have ho := H.odd
  have c2 := fun w => lOdd_any (n : Int) w
  rw [decide_eq_true ⟨by omega, by omega, by omega⟩] at c2
  have cS := fun (k : Nat) (hk : k < n) w => isStrong_any (k : Int) n s d ⟨by omega, by omega⟩ H (by omega) w
  clear H ho
  go_enter Try.func5, Try.ntmps5
  go_wp2_with (go_at_call 9; refine (c2 _).mono ?_; rintro e w' ⟨rfl, hw⟩; subst w')
  go_loop [4, 5] (fun tc tk => ∃ c k : Nat, tc = .int .i64 (c : Int) ∧ tk = .int .i64 (k : Int) ∧ 1 ≤ k ∧ k ≤ n ∧ c ≤ k ∧ Hid (c = stN n s d (k - 1))) (fun _ tk => ((n : Int) - intOf tk).toNat)
  case atStart => exact ⟨0, 1, rfl, rfl, by omega, by omega, by omega, rfl⟩
  case round =>
    obtain ⟨c, k, rfl, rfl, hk1, hk2, hc, hC⟩ := hrel
    by_cases hgo : k < n
    · have hgo' : (k : Int) < (n : Int) := by omega
      have cK := fun w => cS k hgo w
      have hst := hid (stN_step (n := n) (s := s) (d := d) hk1)
      cases hb : stB (k : Int) n s d
      · rw [hb] at cK
        have e : Hid (c = stN n s d (k + 1 - 1)) := by
          show _ = _
          rw [Nat.add_sub_cancel, hst.out, hb, ← hC.out]; simp
        clear hst hC
        go_wp2_with (go_at_call 10; refine (cK _).mono ?_; rintro e w' ⟨rfl, hw⟩; subst w')
        go_round
        case rel => exact ⟨c, k + 1, rfl, by simp, by omega, by omega, by omega, e⟩
        case measure => exact meas_in hgo
      · rw [hb] at cK
        have e : Hid (c + 1 = stN n s d (k + 1 - 1)) := by
          show _ = _
          rw [Nat.add_sub_cancel, hst.out, hb, ← hC.out]; simp
        clear hst hC
        go_wp2_with (go_at_call 10; refine (cK _).mono ?_; rintro e w' ⟨rfl, hw⟩; subst w')
        go_round
        case rel => exact ⟨c + 1, k + 1, by simp, by simp, by omega, by omega, by omega, e⟩
        case measure => exact meas_in hgo
    · have hgo' : ¬ (k : Int) < (n : Int) := by omega
      have ek : k = n := by omega
      subst ek
      have e := hid (show (c : Int) = ((stN k s d (k - 1) : Nat) : Int) by rw [← hC.out])
      clear hC
      go_wp2
      go_ret2
      exact ⟨ret_two e.out, rfl⟩

end Go.Proofs.Ytnciahbpmajhdab.Calls32
