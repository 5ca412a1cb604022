/-
  The document's own symbols and roots: legendre, Jacobi, Root.
-/
import Derived.Test.YtnciahbpmajhdaaCalls12
import Derived.Test.YtnciahbpmajhdaaCalls29
namespace Go.Proofs.Ytnciahbpmajhdaa.Calls30
set_option linter.unusedVariables false
open Go.ChangeShapes Go.WideShapes Go.ChangeAt Go.RowKit Go.Proofs.Ytnciahbpmajhdaa.Num Go.Proofs.Ytnciahbpmajhdaa.Num9 Go.Proofs.Ytnciahbpmajhdaa.Num10 Go.Proofs.Ytnciahbpmajhdaa.Num13 Go.Proofs.Ytnciahbpmajhdaa.Num29 Go.Proofs.Ytnciahbpmajhdaa.Calls8 Go.Proofs.Ytnciahbpmajhdaa.Calls9 Go.Proofs.Ytnciahbpmajhdaa.Calls11 Go.Proofs.Ytnciahbpmajhdaa.Calls12 Go.Proofs.Ytnciahbpmajhdaa.Calls19 Go.Proofs.Ytnciahbpmajhdaa.Calls20 Go.Proofs.Ytnciahbpmajhdaa.Calls29

theorem quiet_at2 {P : Program} {f : FuncId} {args : Array Value} {w : World} {d n : Nat} {v : Value} (h : Calls P f args (w.drewN (d + n)) fun e w' => e = .returned v ∧ w' = w.drewN (d + n)) :
    Calls P f args (w.drewN (d + n)) fun e w'' => e = .returned v ∧ ∃ m, w'' = w.drewN (d + m) := h.mono fun _ _ ⟨he, hm⟩ => ⟨he, n, hm⟩

theorem meas_up {x p : Nat} (h : x < p) : ((p : Int) - ((x : Int) + 1)).toNat < ((p : Int) - (x : Int)).toNat := by omega

theorem sq_beq {x p A : Nat} : ((x : Int) * (x : Int) % (p : Int) == (A : Int)) = decide (x * x % p = A) := by
  have e : (x : Int) * (x : Int) % (p : Int) = ((x * x % p : Nat) : Int) := by simp
  rw [e]
  by_cases h : x * x % p = A
  · rw [decide_eq_true h, h]; simp
  · rw [decide_eq_false h]; exact beq_f (by omega)

set_option maxRecDepth 100000 in
theorem legendre_any (a : Int) (p : Nat) (hp1 : 1 ≤ p) (hp2 : p ≤ 1048576) (w : World) :
    Calls Try.prog 27 #[.int .i64 a, .int .i64 (p : Int)] w fun e w' => e = .returned (.int .i64 (leg (rs a p) p)) ∧ w' = w := by
  have cM := fun w => refMod_at a p w hp1 hp2
  have hp0 : ¬ (p : Int) = 0 := by omega
  have hA := rs_lt a hp1
  have hAm := hid (rs_mod a hp1)
  obtain ⟨A, hAe⟩ : ∃ A, rs a p = A := ⟨_, rfl⟩
  rw [hAe] at cM hA hAm ⊢
  clear hAe
  by_cases h0 : A = 0
  · subst h0
    have e := hid (leg_zero (a := 0) (p := p)).2
    go_enter Try.func27, Try.ntmps27
    go_wp2_with (go_at_call 14; refine (cM _).mono ?_; rintro e w' ⟨rfl, hw⟩; subst w')
    go_ret
    exact ⟨ret_int (e.out (by simp)).symm, rfl⟩
  · have h0' := beq_f (show ¬ (A : Int) = 0 by omega)
    have H0 : Hid (¬ A % p = 0) := by show ¬ _; rw [hAm.out]; exact h0
    clear h0
    go_enter Try.func27, Try.ntmps27
    go_wp2_with (go_at_call 14; refine (cM _).mono ?_; rintro e w' ⟨rfl, hw⟩; subst w')
    go_loop [5] (fun tx => ∃ x : Nat, tx = .int .i64 (x : Int) ∧ 1 ≤ x ∧ x ≤ p ∧ Hid (∀ y, 1 ≤ y → y < x → ¬ y * y % p = A)) (fun tx => ((p : Int) - intOf tx).toNat)
    case atStart => exact ⟨1, rfl, by omega, by omega, fun y h1 h2 => by omega⟩
    case round =>
      obtain ⟨x, rfl, hx1, hxp, hI⟩ := hrel
      by_cases hgo : x < p
      · have hgo' : (x : Int) < (p : Int) := by omega
        obtain ⟨m1, m2⟩ := mul_bd hgo hgo hp2
        have hb := sq_beq (x := x) (p := p) (A := A)
        by_cases hh : x * x % p = A
        · rw [decide_eq_true hh] at hb
          have e : Hid (leg A p = 1) := leg_of_root hp1 H0.out (x := x) (by rw [hAm.out]; exact hh)
          clear hh
          go_wp2
          go_ret
          exact ⟨ret_int e.out.symm, rfl⟩
        · rw [decide_eq_false hh] at hb
          have hI2 : Hid (∀ y, 1 ≤ y → y < x + 1 → ¬ y * y % p = A) := fun y h1 h2 => by
            by_cases e : y = x
            · subst e; exact hh
            · exact hI.out y h1 (by omega)
          clear hh
          go_wp2
          go_round
          case rel => exact ⟨x + 1, by simp, by omega, by omega, hI2⟩
          case measure => exact meas_up hgo
      · have hgo' : ¬ (x : Int) < (p : Int) := by omega
        have e : Hid (leg A p = -1) := leg_of_none hp1 H0.out (fun y h1 h2 => by rw [hAm.out]; exact hI.out y h1 (by omega))
        go_wp2
        go_ret
        exact ⟨ret_int e.out.symm, rfl⟩

theorem leg_part {a : Int} {n : Nat} {l : List (Nat × Nat)} (hF : Fac n l) {k : Nat} (hk : k < l.length) (hn1 : 1 ≤ n) : leg (rs a (l.getD k (0, 0)).1) (l.getD k (0, 0)).1 = leg (rs a n) (l.getD k (0, 0)).1 := by
  have hm : l.getD k (0, 0) ∈ l := by simp [List.getD, hk]
  have hp := (hF.1 _ hm).1
  have hd := fac_dvd hF _ hm
  have hp1 : 1 ≤ (l.getD k (0, 0)).1 := by have := hp.1; omega
  refine leg_mod ?_
  rw [rs_mod a hp1, rs_dvd a hp1 hn1 hd]

theorem part_facts {n : Nat} {l : List (Nat × Nat)} (hF : Fac n l) (hn1 : 1 ≤ n) (hn2 : n ≤ 1048576) {k : Nat} (hk : k < l.length) : 1 ≤ (l.getD k (0, 0)).1 ∧ (l.getD k (0, 0)).1 ≤ 1048576 ∧ (l.getD k (0, 0)).2 ≤ 20 := by
  have hm : l.getD k (0, 0) ∈ l := by simp [List.getD, hk]
  have hp := (hF.1 _ hm).1
  have h2 := hp.1
  have hd := fac_dvd hF _ hm
  have hle := Nat.le_of_dvd (by omega) hd
  refine ⟨by omega, by omega, ?_⟩
  have hpw : (l.getD k (0, 0)).1 ^ (l.getD k (0, 0)).2 ∣ n := by
    rw [← hF.2.2]
    clear hd hle hp h2
    induction l generalizing n k with
    | nil => simp at hk
    | cons x xs ih =>
      cases k with
      | zero => simp [pd]; exact Nat.dvd_mul_right _ _
      | succ k =>
        have hk' : k < xs.length := by simpa using hk
        have := ih (n := pd xs) (k := k) hF.tail (pd_pos fun y hy => hF.1 y (by simp [hy])) (by
          have h1 := pd_pos (l := [x]) (fun y hy => hF.1 y (by simp at hy; simp [hy]))
          have h3 : pd (x :: xs) = pd [x] * pd xs := by simp [pd]
          have h4 := hF.2.2
          rw [h3] at h4
          have : 1 * pd xs ≤ pd [x] * pd xs := Nat.mul_le_mul_right _ h1
          omega) hk' (by simp [List.getD, hk'])
        simp only [pd, List.getD_cons_succ]
        exact Nat.dvd_trans this (Nat.dvd_mul_left _ _)
  obtain ⟨c, hc⟩ := hpw
  exact exp_le h2 (m := c) (by
    rcases Nat.eq_zero_or_pos c with e | e
    · subst e; rw [Nat.mul_zero] at hc; omega
    · exact e) hc.symm hn2

theorem jp_bd {a : Nat} {l : List (Nat × Nat)} {i k : Nat} {j : Int} (h : Jpart a l i k j) : -1 ≤ j ∧ j ≤ 1 := h.2

theorem meas_k {k x : Nat} (h : k < x) : ((x : Int) - ((k : Int) + 1)).toNat < ((x : Int) - (k : Int)).toNat := by omega

set_option maxRecDepth 100000 in
set_option maxHeartbeats 1000000 in
theorem refJacobi_any (a : Int) (n : Nat) (J : Int) (hn1 : 1 ≤ n) (hn2 : n ≤ 1048576) (hJ : JJ a n J) (w : World) :
    Calls Try.prog 13 #[.int .i64 a, .int .i64 (n : Int)] w fun e w' => e = .returned (.int .i64 J) ∧ Below w.heap.size w w' := by
  have HJ := hid hJ
  clear hJ
  go_enter Try.func13, Try.ntmps13
  go_wp2_with (go_at_call 26; refine (refFactor_any n hn1 hn2 _).mono ?_; rintro e w1 ⟨l, v, rfl, hF, hown, hB⟩; obtain ⟨ao, cap, rfl, hrow⟩ := prow_of_owns hown; have hblk := owns_block hown; have HF := hid hF; clear hF; rw [ints_length])
  have hlen := fac_len HF.out hn2
  go_loopw [5, 7, 8, 12] (fun tj t7 t8 i wr => ∃ (k : Nat) (j : Int), i = .int .i64 (k : Int) ∧ tj = .int .i64 j ∧ k ≤ l.length ∧ Hid (Jpart (rs a n) l k 0 j) ∧ Below w1.heap.size w1 wr) (fun tj t7 t8 i wr => ((l.length : Int) - intOf i).toNat)
  case atStart => exact ⟨0, 1, rfl, rfl, by omega, Jpart.start _ _, Below.refl _ _⟩
  case round =>
    obtain ⟨k, j, rfl, rfl, hk, hI, hBr⟩ := hrel
    by_cases hgo : k < l.length
    · have hgo' : (k : Int) < (l.length : Int) := by omega
      rcases ao with _ | ad
      · have := hrow.1 rfl
        have e := ints_length l
        rw [this] at e
        simp at e
        omega
      · obtain ⟨c1, c2⟩ := (prow_below hrow hBr (fun ad' e => .inr (hblk ad' e).2)).2 ad rfl k (by rw [ints_length]; exact hgo)
        rw [add_two] at c2
        rw [ints_getD] at c1 c2
        obtain ⟨f1, f2, f3⟩ := part_facts HF.out hn1 hn2 hgo
        have hL := leg_part (a := a) HF.out hgo hn1
        have hSt := hid (fun (c : Nat) (j : Int) (h : Jpart (rs a n) l k c j) => h.step)
        have hNx := hid (fun (j : Int) (h : Jpart (rs a n) l k (l.getD k (0, 0)).2 j) => h.next hgo)
        obtain ⟨x, hx⟩ : ∃ x, l.getD k (0, 0) = x := ⟨_, rfl⟩
        rw [hx] at c1 c2 f1 f2 f3 hL hSt hNx
        clear hx
        have cG := fun w => legendre_any a x.1 f1 f2 w
        rw [hL] at cG
        have h3 := leg_three (rs a n) x.1
        obtain ⟨g, hg⟩ : ∃ g, leg (rs a n) x.1 = g := ⟨_, rfl⟩
        rw [hg] at cG h3 hSt
        clear hg hL
        go_wp2
        go_loop [5, 8] (fun tj tk => ∃ (c : Nat) (j : Int), tk = .int .i64 (c : Int) ∧ tj = .int .i64 j ∧ c ≤ x.2 ∧ Hid (Jpart (rs a n) l k c j)) (fun tj tk => ((x.2 : Int) - intOf tk).toNat)
        case atStart => exact ⟨0, j, rfl, rfl, by omega, hI⟩
        case round =>
          obtain ⟨c, j, rfl, rfl, hc, hI⟩ := hrel
          obtain ⟨j1, j2⟩ := jp_bd hI.out
          obtain ⟨m1, m2⟩ := three_mul ⟨j1, j2⟩ h3
          by_cases hcx : c < x.2
          · have hcx' : (c : Int) < (x.2 : Int) := by omega
            have hN := hid (hSt.out c j hI.out)
            go_wp2_with (go_at_call 27; refine (cG _).mono ?_; rintro e w' ⟨rfl, hw⟩; subst w')
            go_round
            case rel => exact ⟨c + 1, j * g, by simp, rfl, by omega, hN⟩
            case measure => exact meas_k hcx
          · have hcx' : ¬ (c : Int) < (x.2 : Int) := by omega
            have e : c = x.2 := by omega
            have hN := hid (hNx.out j (by rw [← e]; exact hI.out))
            clear e
            go_wp2
            go_roundw
            case rel => exact ⟨k + 1, j, by simp, rfl, by omega, hN, hBr.alloc hBr.size _⟩
            case measure => exact meas_k hgo
    · have hgo' : ¬ (k : Int) < (l.length : Int) := by omega
      have e : k = l.length := by omega
      have hD : Hid (j = J) := by
        have h1 := hI.out
        rw [e] at h1
        exact JJ.uniq ⟨l, HF.out, h1.done⟩ HJ.out
      clear e
      go_wp2
      go_ret
      exact ⟨ret_int hD.out, below_trans hB hBr⟩

end Go.Proofs.Ytnciahbpmajhdaa.Calls30
