/-
  Package rsa: what may be raised, and what it is then.
-/
import Derived.Test.YtmhbkilldmcamaaCalls151
namespace Go.Proofs.Ytmhbkilldmcamaa.Calls152
set_option linter.unusedVariables false
open Go.ChangeShapes Go.WideShapes Go.ChangeAt Go.RowKit Go.Deep Go.Proofs.Ytmhbkilldmcamaa.Base Go.Proofs.Ytmhbkilldmcamaa.Base2 Go.Proofs.Ytmhbkilldmcamaa.Num Go.Proofs.Ytmhbkilldmcamaa.Num13 Go.Proofs.Ytmhbkilldmcamaa.Num56 Go.Proofs.Ytmhbkilldmcamaa.Calls150 Go.Proofs.Ytmhbkilldmcamaa.Calls151
open Go.Proofs.Ytmhbkilldmcamaa.Calls19 (Pow_yes)

theorem pw_n (o k p : Nat) : pw (o : Int) k p = o ^ k % p := by unfold pw; rw [rs_nat, ← Nat.pow_mod]

/-- May x be raised by k, by what is left, divided by m? -/
def Cr (x k m : Int) : Prop := (1 ≤ m ∧ m ≤ 1048576) ∧ (1 ≤ k ∧ k ≤ 2147483648) ∧ 0 ≤ x ∧ x < m

theorem canRaise_yes (x k m : Int) (h : Cr x k m) (w : World) :
    Calls Try.prog 11 #[.int .i64 x, .int .i64 k, .int .i64 m] w fun e w' => e = .returned (.bool true) ∧ w' = w := by
  obtain ⟨hm, ⟨h1, h2⟩, h3, h4⟩ := h
  have cR := fun w => inR_any m w
  rw [decide_eq_true hm] at cR
  clear hm
  go_enter Try.func11, Try.ntmps11
  go_wp2_with (go_at_call 15; refine (cR _).mono ?_; rintro e w' ⟨rfl, hw⟩; subst w')
  go_ret
  exact ⟨rfl, rfl⟩

theorem canRaise_no (x k m : Int) (h : ¬ Cr x k m) (w : World) :
    Calls Try.prog 11 #[.int .i64 x, .int .i64 k, .int .i64 m] w fun e w' => e = .returned (.bool false) ∧ w' = w := by
  have cR := fun w => inR_any m w
  by_cases hm : 1 ≤ m ∧ m ≤ 1048576
  · rw [decide_eq_true hm] at cR
    by_cases h1 : 1 ≤ k
    · by_cases h2 : k ≤ 2147483648
      · by_cases h3 : 0 ≤ x
        · have h4 : decide (x < m) = false := decide_eq_false (fun h4 => h ⟨hm, ⟨h1, h2⟩, h3, h4⟩)
          clear h hm
          go_enter Try.func11, Try.ntmps11
          go_wp2_with (go_at_call 15; refine (cR _).mono ?_; rintro e w' ⟨rfl, hw⟩; subst w')
          go_ret
          exact ⟨rfl, rfl⟩
        · clear h hm
          go_enter Try.func11, Try.ntmps11
          go_wp2_with (go_at_call 15; refine (cR _).mono ?_; rintro e w' ⟨rfl, hw⟩; subst w')
          go_ret
          exact ⟨rfl, rfl⟩
      · clear h hm
        go_enter Try.func11, Try.ntmps11
        go_wp2_with (go_at_call 15; refine (cR _).mono ?_; rintro e w' ⟨rfl, hw⟩; subst w')
        go_ret
        exact ⟨rfl, rfl⟩
    · clear h hm
      go_enter Try.func11, Try.ntmps11
      go_wp2_with (go_at_call 15; refine (cR _).mono ?_; rintro e w' ⟨rfl, hw⟩; subst w')
      go_ret
      exact ⟨rfl, rfl⟩
  · rw [decide_eq_false hm] at cR
    clear h hm
    go_enter Try.func11, Try.ntmps11
    go_wp2_with (go_at_call 15; refine (cR _).mono ?_; rintro e w' ⟨rfl, hw⟩; subst w')
    go_ret
    exact ⟨rfl, rfl⟩

theorem raised_any (x k m : Nat) (hx : x ≤ 1048576) (hk : k ≤ 2147483648) (h1 : 1 ≤ m) (h2 : m ≤ 1048576) (w : World) :
    Calls Try.prog 12 #[.int .i64 (x : Int), .int .i64 (k : Int), .int .i64 (m : Int)] w fun e w' => e = .returned (.int .i64 (x ^ k % m : Nat)) ∧ w' = w := by
  have cP := fun w => Pow_yes (x : Int) k m (by omega) (by omega) hk h1 h2 w
  rw [pw_n] at cP
  generalize x ^ k % m = y at *
  go_enter Try.func12, Try.ntmps12
  go_wp2_with (go_at_call 18; refine (cP _).mono ?_; rintro e w' ⟨rfl, hw⟩; subst w')
  go_ret
  exact ⟨rfl, rfl⟩

theorem Cr.nat {x k m : Int} (h : Cr x k m) : ∃ a b c : Nat, x = (a : Int) ∧ k = (b : Int) ∧ m = (c : Int) := ⟨x.toNat, k.toNat, m.toNat, by have := h.2.2.1; omega, by have := h.2.1.1; omega, by have := h.1.1; omega⟩

theorem key_cells (w : World) (a b c : Value) : (w.alloc (.cells #[a, b, c] 23)).cell? ⟨w.heap.size, 0, none⟩ = some a ∧ (w.alloc (.cells #[a, b, c] 23)).cell? ⟨w.heap.size, 1, none⟩ = some b ∧ (w.alloc (.cells #[a, b, c] 23)).cell? ⟨w.heap.size, 2, none⟩ = some c := by
  have b0 := BoxC.new w 23 #[a, b, c]
  have c0 := b0.cell 0
  have c1 := b0.cell 1
  have c2 := b0.cell 2
  exact ⟨c0, c1, c2⟩

theorem Lock_bad (N E D x : Int) (h : ¬ Cr x E N) (w : World) :
    Calls Try.prog 6 #[.agg #[.int .i64 N, .int .i64 E, .int .i64 D], .int .i64 x] w fun e w' => e = .returned (.tuple #[.int .i64 0, .int .i64 2]) ∧ Below w.heap.size w w' := by
  have cC := fun w => canRaise_no x E N h w
  obtain ⟨c0, c1, c2⟩ := key_cells w (.int .i64 N) (.int .i64 E) (.int .i64 D)
  clear h
  go_enter Try.func6, Try.ntmps6
  go_wp2_with (go_at_call 11; refine (cC _).mono ?_; rintro e w' ⟨rfl, hw⟩; subst w')
  go_ret2
  exact ⟨rfl, (Below.refl _ _).alloc (Nat.le_refl _) _⟩

theorem Lock_yes (N E x : Nat) (D : Int) (h : Cr (x : Int) (E : Int) (N : Int)) (w : World) :
    Calls Try.prog 6 #[.agg #[.int .i64 (N : Int), .int .i64 (E : Int), .int .i64 D], .int .i64 (x : Int)] w fun e w' => e = .returned (.tuple #[.int .i64 (x ^ E % N : Nat), .int .i64 0]) ∧ Below w.heap.size w w' := by
  have cC := fun w => canRaise_yes (x : Int) (E : Int) (N : Int) h w
  obtain ⟨⟨h1, h2⟩, ⟨h3, h4⟩, h5, h6⟩ := h
  have cR := fun w => raised_any x E N (by omega) (by omega) (by omega) (by omega) w
  obtain ⟨c0, c1, c2⟩ := key_cells w (.int .i64 (N : Int)) (.int .i64 (E : Int)) (.int .i64 D)
  clear h1 h2 h3 h4 h5 h6
  generalize x ^ E % N = y at *
  go_enter Try.func6, Try.ntmps6
  go_wp2_with (first | (go_at_call 11; refine (cC _).mono ?_; rintro e w' ⟨rfl, hw⟩; subst w') | (go_at_call 12; refine (cR _).mono ?_; rintro e w' ⟨rfl, hw⟩; subst w'))
  go_ret2
  exact ⟨rfl, (Below.refl _ _).alloc (Nat.le_refl _) _⟩

theorem Open_bad (N E D x : Int) (h : ¬ Cr x D N) (w : World) :
    Calls Try.prog 7 #[.agg #[.int .i64 N, .int .i64 E, .int .i64 D], .int .i64 x] w fun e w' => e = .returned (.tuple #[.int .i64 0, .int .i64 2]) ∧ Below w.heap.size w w' := by
  have cC := fun w => canRaise_no x D N h w
  obtain ⟨c0, c1, c2⟩ := key_cells w (.int .i64 N) (.int .i64 E) (.int .i64 D)
  clear h
  go_enter Try.func7, Try.ntmps7
  go_wp2_with (go_at_call 11; refine (cC _).mono ?_; rintro e w' ⟨rfl, hw⟩; subst w')
  go_ret2
  exact ⟨rfl, (Below.refl _ _).alloc (Nat.le_refl _) _⟩

theorem Open_yes (N D x : Nat) (E : Int) (h : Cr (x : Int) (D : Int) (N : Int)) (w : World) :
    Calls Try.prog 7 #[.agg #[.int .i64 (N : Int), .int .i64 E, .int .i64 (D : Int)], .int .i64 (x : Int)] w fun e w' => e = .returned (.tuple #[.int .i64 (x ^ D % N : Nat), .int .i64 0]) ∧ Below w.heap.size w w' := by
  have cC := fun w => canRaise_yes (x : Int) (D : Int) (N : Int) h w
  obtain ⟨⟨h1, h2⟩, ⟨h3, h4⟩, h5, h6⟩ := h
  have cR := fun w => raised_any x D N (by omega) (by omega) (by omega) (by omega) w
  obtain ⟨c0, c1, c2⟩ := key_cells w (.int .i64 (N : Int)) (.int .i64 E) (.int .i64 (D : Int))
  clear h1 h2 h3 h4 h5 h6
  generalize x ^ D % N = y at *
  go_enter Try.func7, Try.ntmps7
  go_wp2_with (first | (go_at_call 11; refine (cC _).mono ?_; rintro e w' ⟨rfl, hw⟩; subst w') | (go_at_call 12; refine (cR _).mono ?_; rintro e w' ⟨rfl, hw⟩; subst w'))
  go_ret2
  exact ⟨rfl, (Below.refl _ _).alloc (Nat.le_refl _) _⟩

end Go.Proofs.Ytmhbkilldmcamaa.Calls152
