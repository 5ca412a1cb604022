/-
  What package squares answers: left, symbol, and Jacobi at every input.
-/
import Derived.Test.YtnciahbpmajhdabCalls20
import Derived.Test.YtnciahbpmajhdabNum29
namespace Go.Proofs.Ytnciahbpmajhdab.Calls29
set_option linter.unusedVariables false
open Go.ChangeShapes Go.WideShapes Go.ChangeAt Go.RowKit Go.Proofs.Ytnciahbpmajhdab.Num Go.Proofs.Ytnciahbpmajhdab.Num10 Go.Proofs.Ytnciahbpmajhdab.Num13 Go.Proofs.Ytnciahbpmajhdab.Num29 Go.Proofs.Ytnciahbpmajhdab.Calls9 Go.Proofs.Ytnciahbpmajhdab.Calls19 Go.Proofs.Ytnciahbpmajhdab.Calls20
open Go.Proofs.Ytnciahbpmajhdab.Calls1 (tmod_bd)

theorem sleft_any (a : Int) (m : Nat) (hm1 : 1 ≤ m) (hm2 : m ≤ 1048576) (w : World) :
    Calls Try.prog 24 #[.int .i64 a, .int .i64 (m : Int)] w fun e w' => e = .returned (.int .i64 (rs a m : Int)) ∧ w' = w := by
  have hb := tmod_bd (n := a) (m := m) (by omega)
  have H2 := hid (two_mod a hm1)
  have hm0 : ¬ (m : Int) = 0 := by omega
  go_enter Try.func24, Try.ntmps24
  go_wp2
  go_ret
  exact ⟨ret_int H2.out, rfl⟩

theorem sNumber_any (n : Int) (w : World) :
    Calls Try.prog 19 #[.int .i64 n] w fun e w' => e = .returned (.bool (decide (-2147483648 ≤ n ∧ n ≤ 2147483648))) ∧ w' = w := by
  by_cases h : -2147483648 ≤ n ∧ n ≤ 2147483648
  · rw [decide_eq_true h]
    obtain ⟨h1, h2⟩ := h
    go_enter Try.func19, Try.ntmps19
    go_wp2
    go_ret
    exact ⟨rfl, rfl⟩
  · rw [decide_eq_false h]
    by_cases h1 : -2147483648 ≤ n
    · have h2 : ¬ n ≤ 2147483648 := by omega
      clear h
      go_enter Try.func19, Try.ntmps19
      go_wp2
      go_ret
      exact ⟨rfl, rfl⟩
    · clear h
      go_enter Try.func19, Try.ntmps19
      go_wp2
      go_ret
      exact ⟨rfl, rfl⟩

theorem sModulus_any (n : Int) (w : World) :
    Calls Try.prog 20 #[.int .i64 n] w fun e w' => e = .returned (.bool (decide (1 ≤ n ∧ n ≤ 1048576))) ∧ w' = w := by
  by_cases h : 1 ≤ n ∧ n ≤ 1048576
  · rw [decide_eq_true h]
    obtain ⟨h1, h2⟩ := h
    go_enter Try.func20, Try.ntmps20
    go_wp2
    go_ret
    exact ⟨rfl, rfl⟩
  · rw [decide_eq_false h]
    by_cases h1 : 1 ≤ n
    · have h2 : ¬ n ≤ 1048576 := by omega
      clear h
      go_enter Try.func20, Try.ntmps20
      go_wp2
      go_ret
      exact ⟨rfl, rfl⟩
    · clear h
      go_enter Try.func20, Try.ntmps20
      go_wp2
      go_ret
      exact ⟨rfl, rfl⟩

theorem beq_t {x y : Int} (h : x = y) : (x == y) = true := by simpa using h
theorem beq_f {x y : Int} (h : ¬ x = y) : (x == y) = false := by simpa using h

theorem bne_t {x y : Int} (h : ¬ x = y) : (x != y) = true := by simpa using h
theorem bne_f {x y : Int} (h : x = y) : (x != y) = false := by simpa using h

theorem sym_bd {J s : Int} {a n : Nat} (h : Sym J s a n) : -1 ≤ s ∧ s ≤ 1 := by
  rcases h.2.1 with e | e <;> omega

set_option maxRecDepth 100000 in
set_option maxHeartbeats 1000000 in
theorem symbol_any (a : Int) (n : Nat) (J : Int) (ho : n % 2 = 1) (hn2 : n ≤ 1048576) (hJ : JJ a n J) (w : World) :
    Calls Try.prog 21 #[.int .i64 a, .int .i64 (n : Int)] w fun e w' => e = .returned (.int .i64 J) ∧ w' = w := by
  have hn1 : 1 ≤ n := by omega
  have HS := hid (Sym.start ho hJ)
  have hr := rs_lt a hn1
  clear hJ ho
  have cL := fun w => sleft_any a n hn1 hn2 w
  go_enter Try.func21, Try.ntmps21
  go_wp2_with (go_at_call 24; refine (cL _).mono ?_; rintro e w' ⟨rfl, hw⟩; subst w')
  go_loop [0, 1, 5] (fun ta tn ts => ∃ (a' n' : Nat) (s : Int), ta = .int .i64 (a' : Int) ∧ tn = .int .i64 (n' : Int) ∧ ts = .int .i64 s ∧ a' < n' ∧ n' ≤ 1048576 ∧ Hid (Sym J s a' n')) (fun _ tn _ => (intOf tn).toNat)
  case atStart => exact ⟨rs a n, n, 1, rfl, rfl, rfl, hr, hn2, HS⟩
  case round =>
    obtain ⟨a', n', s, rfl, rfl, rfl, hl, hn', hS⟩ := hrel
    obtain ⟨s1, s2⟩ := sym_bd hS.out
    by_cases h0 : a' = 0
    · subst h0
      have hD := hid hS.out.done
      by_cases h1 : n' = 1
      · subst h1
        have e := hid hD.out
        go_wp2
        go_ret
        exact ⟨ret_int (by have := e.out; simpa using this.symm), rfl⟩
      · have h1' := bne_t (show ¬ (n' : Int) = 1 by omega)
        have h1'' : ¬ (n' : Int) = 1 := by omega
        go_wp2
        go_ret
        exact ⟨ret_int (by have := hD.out; rw [if_neg h1] at this; exact this.symm), rfl⟩
    · have h0' := bne_t (show ¬ (a' : Int) = 0 by omega)
      have h0'' : ¬ (a' : Int) = 0 := by omega
      go_wp2
      go_loop [0, 5] (fun ta ts => ∃ (b : Nat) (s : Int), ta = .int .i64 (b : Int) ∧ ts = .int .i64 s ∧ 1 ≤ b ∧ b ≤ a' ∧ Hid (Sym J s b n')) (fun ta _ => (intOf ta).toNat)
      case atStart => exact ⟨a', s, rfl, rfl, by omega, by omega, hS⟩
      case round =>
        obtain ⟨b, s, rfl, rfl, hb1, hb2, hS⟩ := hrel
        obtain ⟨s1, s2⟩ := sym_bd hS.out
        by_cases he : b % 2 = 0
        · have he1 := beq_t (show (b : Int) % 2 = 0 by omega)
          have hH := hid (hS.out.half he)
          have hq : Hid ((b : Int) / 2 = ((b / 2 : Nat) : Int)) := by show _ = _; omega
          have hbb : 1 ≤ b / 2 := by omega
          clear he
          by_cases h3 : n' % 8 = 3
          · have h31 := beq_t (show (n' : Int) % 8 = 3 by omega)
            have h8 : Hid (Sym J (-s) (b / 2) n') := by have h := hH.out; rw [if_pos (show n' % 8 = 3 ∨ n' % 8 = 5 by omega)] at h; exact h
            clear h3
            go_wp2
            go_round
            case rel => exact ⟨b / 2, -s, by rw [hq.out], rfl, hbb, by omega, h8⟩
            case measure => simp only [intOf]; omega
          · have h31 := beq_f (show ¬ (n' : Int) % 8 = 3 by omega)
            by_cases h5 : n' % 8 = 5
            · have h51 := beq_t (show (n' : Int) % 8 = 5 by omega)
              have h8 : Hid (Sym J (-s) (b / 2) n') := by have h := hH.out; rw [if_pos (show n' % 8 = 3 ∨ n' % 8 = 5 by omega)] at h; exact h
              clear h3 h5
              go_wp2
              go_round
              case rel => exact ⟨b / 2, -s, by rw [hq.out], rfl, hbb, by omega, h8⟩
              case measure => simp only [intOf]; omega
            · have h51 := beq_f (show ¬ (n' : Int) % 8 = 5 by omega)
              have h8 : Hid (Sym J s (b / 2) n') := by have h := hH.out; rw [if_neg (show ¬ (n' % 8 = 3 ∨ n' % 8 = 5) by omega)] at h; exact h
              clear h3 h5
              go_wp2
              go_round
              case rel => exact ⟨b / 2, s, by rw [hq.out], rfl, hbb, by omega, h8⟩
              case measure => simp only [intOf]; omega
        · have he1 := beq_f (show ¬ (b : Int) % 2 = 0 by omega)
          have hH := hid (hS.out.swap (by omega)).mod
          have hbm : n' % b < b := Nat.mod_lt _ (by omega)
          have hb0 : ¬ (b : Int) = 0 := by omega
          have hmd : Hid ((n' : Int) % (b : Int) = ((n' % b : Nat) : Int)) := by show _ = _; simp
          clear he
          by_cases h3 : b % 4 = 3
          · have h31 := beq_t (show (b : Int) % 4 = 3 by omega)
            by_cases h5 : n' % 4 = 3
            · have h51 := beq_t (show (n' : Int) % 4 = 3 by omega)
              have h8 : Hid (Sym J (-s) (n' % b) b) := by have h := hH.out; rw [if_pos (show b % 4 = 3 ∧ n' % 4 = 3 by omega)] at h; exact h
              clear h3 h5
              go_wp2
              go_round
              case rel => exact ⟨n' % b, b, -s, by rw [hmd.out], rfl, rfl, hbm, by omega, h8⟩
              case measure => simp only [intOf]; omega
            · have h51 := beq_f (show ¬ (n' : Int) % 4 = 3 by omega)
              have h8 : Hid (Sym J s (n' % b) b) := by have h := hH.out; rw [if_neg (show ¬ (b % 4 = 3 ∧ n' % 4 = 3) by omega)] at h; exact h
              clear h3 h5
              go_wp2
              go_round
              case rel => exact ⟨n' % b, b, s, by rw [hmd.out], rfl, rfl, hbm, by omega, h8⟩
              case measure => simp only [intOf]; omega
          · have h31 := beq_f (show ¬ (b : Int) % 4 = 3 by omega)
            have h8 : Hid (Sym J s (n' % b) b) := by have h := hH.out; rw [if_neg (show ¬ (b % 4 = 3 ∧ n' % 4 = 3) by omega)] at h; exact h
            clear h3
            go_wp2
            go_round
            case rel => exact ⟨n' % b, b, s, by rw [hmd.out], rfl, rfl, hbm, by omega, h8⟩
            case measure => simp only [intOf]; omega

theorem Jacobi_yes (a : Int) (n : Nat) (J : Int) (hn : Nr a) (ho : n % 2 = 1) (hn2 : n ≤ 1048576) (hJ : JJ a n J) (w : World) :
    Calls Try.prog 13 #[.int .i64 a, .int .i64 (n : Int)] w fun e w' => e = .returned (.tuple #[.int .i64 J, .int .i64 0]) ∧ w' = w := by
  have cN := fun w => sNumber_any a w
  have cM := fun w => sModulus_any (n : Int) w
  have cS := fun w => symbol_any a n J ho hn2 hJ w
  rw [decide_eq_true hn] at cN
  rw [decide_eq_true ⟨by omega, by omega⟩] at cM
  have h2 := beq_f (show ¬ (n : Int) % 2 = 0 by omega)
  clear ho hJ hn
  go_enter Try.func13, Try.ntmps13
  go_wp2_with (first | (go_at_call 19; refine (cN _).mono ?_; rintro e w' ⟨rfl, hw⟩; subst w') | (go_at_call 20; refine (cM _).mono ?_; rintro e w' ⟨rfl, hw⟩; subst w') | (go_at_call 21; refine (cS _).mono ?_; rintro e w' ⟨rfl, hw⟩; subst w'))
  go_ret2
  exact ⟨rfl, rfl⟩

theorem Jacobi_no (a n : Int) (h : ¬ (Nr a ∧ Md n ∧ n % 2 = 1)) (w : World) :
    Calls Try.prog 13 #[.int .i64 a, .int .i64 n] w fun e w' => e = .returned (.tuple #[.int .i64 0, .int .i64 2]) ∧ w' = w := by
  have cN := fun w => sNumber_any a w
  have cM := fun w => sModulus_any n w
  by_cases h1 : Nr a
  · rw [decide_eq_true h1] at cN
    by_cases h2 : Md n
    · rw [decide_eq_true h2] at cM
      have h3 : ¬ n % 2 = 1 := fun h3 => h ⟨h1, h2, h3⟩
      obtain ⟨m1, m2⟩ := h2
      obtain ⟨m, rfl⟩ : ∃ m : Nat, n = (m : Int) := ⟨n.toNat, by omega⟩
      have h4 := beq_t (show (m : Int) % 2 = 0 by omega)
      clear h h1 h3
      go_enter Try.func13, Try.ntmps13
      go_wp2_with (first | (go_at_call 19; refine (cN _).mono ?_; rintro e w' ⟨rfl, hw⟩; subst w') | (go_at_call 20; refine (cM _).mono ?_; rintro e w' ⟨rfl, hw⟩; subst w'))
      go_ret2
      exact ⟨rfl, rfl⟩
    · rw [decide_eq_false h2] at cM
      clear h h1 h2
      go_enter Try.func13, Try.ntmps13
      go_wp2_with (first | (go_at_call 19; refine (cN _).mono ?_; rintro e w' ⟨rfl, hw⟩; subst w') | (go_at_call 20; refine (cM _).mono ?_; rintro e w' ⟨rfl, hw⟩; subst w'))
      go_ret2
      exact ⟨rfl, rfl⟩
  · rw [decide_eq_false h1] at cN
    clear h h1
    go_enter Try.func13, Try.ntmps13
    go_wp2_with (go_at_call 19; refine (cN _).mono ?_; rintro e w' ⟨rfl, hw⟩; subst w')
    go_ret2
    exact ⟨rfl, rfl⟩

end Go.Proofs.Ytnciahbpmajhdab.Calls29
