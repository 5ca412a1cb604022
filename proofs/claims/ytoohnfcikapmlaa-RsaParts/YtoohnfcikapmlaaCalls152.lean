/-
  Package rsa: what may be raised, and what it is then.
-/
import Derived.Test.YtoohnfcikapmlaaCalls151
namespace Go.Proofs.Ytoohnfcikapmlaa.Calls152
set_option linter.unusedVariables false
open Go.ChangeShapes Go.WideShapes Go.ChangeAt Go.RowKit Go.Deep Go.Proofs.Ytoohnfcikapmlaa.Base Go.Proofs.Ytoohnfcikapmlaa.Base2 Go.Proofs.Ytoohnfcikapmlaa.Num Go.Proofs.Ytoohnfcikapmlaa.Num13 Go.Proofs.Ytoohnfcikapmlaa.Num56 Go.Proofs.Ytoohnfcikapmlaa.Calls150 Go.Proofs.Ytoohnfcikapmlaa.Calls151
open Go.Proofs.Ytoohnfcikapmlaa.Calls19 (Pow_yes)

theorem pw_n (o k p : Nat) : pw (o : Int) k p = o ^ k % p := by unfold pw; rw [rs_nat, ← Nat.pow_mod]

/-- A key's cells. -/
def kx (N E D : Int) : Obj := .cells #[.int .i64 N, .int .i64 E, .int .i64 D] 23

/-- The call's first block is the key's box. -/
def Kb (w wr : World) (N E D : Int) : Prop := BoxC wr w.heap.size 23 #[.int .i64 N, .int .i64 E, .int .i64 D] ∧ Below w.heap.size w wr

theorem Kb.new (w : World) (N E D : Int) : Kb w (w.alloc (.cells #[.int .i64 N, .int .i64 E, .int .i64 D] 23)) N E D := ⟨BoxC.new _ _ _, (Below.refl _ _).alloc (Nat.le_refl _) _⟩

theorem Kb.alloc {w wr : World} {N E D : Int} (h : Kb w wr N E D) (o : Obj) : Kb w (wr.alloc o) N E D := ⟨h.1.alloc o, h.2.alloc h.2.size _⟩

theorem Kb.drew {w wr : World} {N E D : Int} (h : Kb w wr N E D) : Kb w wr.drew N E D := ⟨h.1, h.2.drew⟩

theorem Kb.below {w wr w' : World} {N E D : Int} (h : Kb w wr N E D) (hb : Below wr.heap.size wr w') : Kb w w' N E D := ⟨(hb.block _ h.1.lt).trans h.1, below_trans h.2 hb⟩

theorem Kb.cells {w wr : World} {N E D : Int} (h : Kb w wr N E D) : wr.cell? ⟨w.heap.size, 0, none⟩ = some (.int .i64 N) ∧ wr.cell? ⟨w.heap.size, 1, none⟩ = some (.int .i64 E) ∧ wr.cell? ⟨w.heap.size, 2, none⟩ = some (.int .i64 D) := ⟨by rw [h.1.cell 0]; rfl, by rw [h.1.cell 1]; rfl, by rw [h.1.cell 2]; rfl⟩

/-- Is the key within its limits, and x one of the numbers that are left, divided by N? -/
def Cr (x E D N : Int) : Prop := (1 ≤ N ∧ N ≤ 1048576) ∧ (1 ≤ E ∧ E ≤ 2147483648) ∧ (1 ≤ D ∧ D ≤ 2147483648) ∧ 0 ≤ x ∧ x < N

set_option maxRecDepth 100000 in
theorem fits_E (N E D x : Int) (h : ¬ (1 ≤ E ∧ E ≤ 2147483648)) (w : World) :
    Calls Try.prog 16 #[.agg #[.int .i64 N, .int .i64 E, .int .i64 D], .int .i64 x] w fun e w' => e = .returned (.bool false) ∧ Below w.heap.size w w' := by
  have i0 : ∀ w, (Instr.index 41 (.agg #[.int .i64 E, .int .i64 D]) (.int .i64 0)).run Try.prog w = .ok (.int .i64 E) w := fun _ => by kernel_rfl
  have K := hid (Kb.new w N E D)
  obtain ⟨c0, c1, c2⟩ := K.out.cells
  have hB := K.out.2
  have hh : E < 1 ∨ (¬ E < 1 ∧ 2147483648 < E) := by omega
  clear h
  go_enter Try.func16, Try.ntmps16
  go_wp2
  go_loopw [12] (fun i wr => i = .int .i64 0 ∧ Below w.heap.size w wr) (fun i wr => 2 - (intOf i).toNat)
  case atStart => exact ⟨rfl, hB⟩
  case round =>
    obtain ⟨rfl, hB⟩ := hrel
    rcases hh with hh | ⟨hh, hh2⟩
    · go_wp2
      go_ret
      exact ⟨rfl, hB⟩
    · go_wp2
      go_ret
      exact ⟨rfl, hB⟩

set_option maxRecDepth 100000 in
theorem fits_D (N E D x : Int) (hE : 1 ≤ E ∧ E ≤ 2147483648) (h : ¬ (1 ≤ D ∧ D ≤ 2147483648)) (w : World) :
    Calls Try.prog 16 #[.agg #[.int .i64 N, .int .i64 E, .int .i64 D], .int .i64 x] w fun e w' => e = .returned (.bool false) ∧ Below w.heap.size w w' := by
  have i0 : ∀ w, (Instr.index 41 (.agg #[.int .i64 E, .int .i64 D]) (.int .i64 0)).run Try.prog w = .ok (.int .i64 E) w := fun _ => by kernel_rfl
  have i1 : ∀ w, (Instr.index 41 (.agg #[.int .i64 E, .int .i64 D]) (.int .i64 1)).run Try.prog w = .ok (.int .i64 D) w := fun _ => by kernel_rfl
  have K := hid (Kb.new w N E D)
  obtain ⟨c0, c1, c2⟩ := K.out.cells
  have hB := K.out.2
  have hh : D < 1 ∨ (¬ D < 1 ∧ 2147483648 < D) := by omega
  have e1 : ¬ E < 1 := by omega
  have e2 : ¬ 2147483648 < E := by omega
  clear h hE
  go_enter Try.func16, Try.ntmps16
  go_wp2
  go_loopw [12] (fun i wr => (i = .int .i64 0 ∨ i = .int .i64 1) ∧ Below w.heap.size w wr) (fun i wr => 2 - (intOf i).toNat)
  case atStart => exact ⟨.inl rfl, hB⟩
  case round =>
    obtain ⟨rfl | rfl, hB⟩ := hrel
    · go_wp2
      go_roundw
      case rel => exact ⟨.inr rfl, hB⟩
      case measure => simp [intOf]
    · rcases hh with hh | ⟨hh, hh2⟩
      · go_wp2
        go_ret
        exact ⟨rfl, hB⟩
      · go_wp2
        go_ret
        exact ⟨rfl, hB⟩

set_option maxRecDepth 100000 in
theorem fits_in (N E D x : Int) (r : Bool) (hr : r = decide ((1 ≤ N ∧ N ≤ 1048576) ∧ 0 ≤ x ∧ x < N)) (hE : 1 ≤ E ∧ E ≤ 2147483648) (hD : 1 ≤ D ∧ D ≤ 2147483648) (w : World) :
    Calls Try.prog 16 #[.agg #[.int .i64 N, .int .i64 E, .int .i64 D], .int .i64 x] w fun e w' => e = .returned (.bool r) ∧ Below w.heap.size w w' := by
  have i0 : ∀ w, (Instr.index 41 (.agg #[.int .i64 E, .int .i64 D]) (.int .i64 0)).run Try.prog w = .ok (.int .i64 E) w := fun _ => by kernel_rfl
  have i1 : ∀ w, (Instr.index 41 (.agg #[.int .i64 E, .int .i64 D]) (.int .i64 1)).run Try.prog w = .ok (.int .i64 D) w := fun _ => by kernel_rfl
  have cR := fun w => inR_any N w
  have K := hid (Kb.new w N E D)
  obtain ⟨c0, c1, c2⟩ := K.out.cells
  have e1 : ¬ E < 1 := by omega
  have e2 : ¬ 2147483648 < E := by omega
  have e3 : ¬ D < 1 := by omega
  have e4 : ¬ 2147483648 < D := by omega
  clear hE hD
  go_enter Try.func16, Try.ntmps16
  go_wp2
  go_loopw [12] (fun i wr => (i = .int .i64 0 ∨ i = .int .i64 1 ∨ i = .int .i64 2) ∧ Hid (Kb w wr N E D)) (fun i wr => 2 - (intOf i).toNat)
  case atStart => exact ⟨.inl rfl, K⟩
  case round =>
    obtain ⟨rfl | rfl | rfl, K⟩ := hrel
    · go_wp2
      go_roundw
      case rel => exact ⟨.inr (.inl rfl), K⟩
      case measure => simp [intOf]
    · go_wp2
      go_roundw
      case rel => exact ⟨.inr (.inr rfl), K⟩
      case measure => simp [intOf]
    · obtain ⟨d0, d1, d2⟩ := K.out.cells
      by_cases hN : 1 ≤ N ∧ N ≤ 1048576
      · rw [decide_eq_true hN] at cR
        by_cases hx : 0 ≤ x
        · obtain rfl : r = decide (x < N) := by rw [hr]; simp [hN, hx]
          clear hr
          go_wp2_with (go_at_call 25; refine (cR _).mono ?_; rintro e w' ⟨rfl, hw⟩; subst w')
          go_ret
          exact ⟨by simp, K.out.2⟩
        · obtain rfl : r = false := by rw [hr]; exact decide_eq_false (by omega)
          clear hr
          go_wp2_with (go_at_call 25; refine (cR _).mono ?_; rintro e w' ⟨rfl, hw⟩; subst w')
          go_ret
          exact ⟨by simp, K.out.2⟩
      · rw [decide_eq_false hN] at cR
        obtain rfl : r = false := by rw [hr]; exact decide_eq_false (by omega)
        clear hr
        go_wp2_with (go_at_call 25; refine (cR _).mono ?_; rintro e w' ⟨rfl, hw⟩; subst w')
        go_ret
        exact ⟨by simp, K.out.2⟩

theorem fits_yes (N E D x : Int) (h : Cr x E D N) (w : World) :
    Calls Try.prog 16 #[.agg #[.int .i64 N, .int .i64 E, .int .i64 D], .int .i64 x] w fun e w' => e = .returned (.bool true) ∧ Below w.heap.size w w' := by
  exact fits_in N E D x true (decide_eq_true ⟨h.1, h.2.2.2⟩).symm h.2.1 h.2.2.1 w

theorem fits_no (N E D x : Int) (h : ¬ Cr x E D N) (w : World) :
    Calls Try.prog 16 #[.agg #[.int .i64 N, .int .i64 E, .int .i64 D], .int .i64 x] w fun e w' => e = .returned (.bool false) ∧ Below w.heap.size w w' := by
  by_cases hE : 1 ≤ E ∧ E ≤ 2147483648
  · by_cases hD : 1 ≤ D ∧ D ≤ 2147483648
    · exact fits_in N E D x false (decide_eq_false (fun e => h ⟨e.1, hE, hD, e.2⟩)).symm hE hD w
    · exact fits_D N E D x hE hD w
  · exact fits_E N E D x hE w

theorem raised_any (x k m : Nat) (hx : x ≤ 1048576) (hk : k ≤ 2147483648) (h1 : 1 ≤ m) (h2 : m ≤ 1048576) (w : World) :
    Calls Try.prog 17 #[.int .i64 (x : Int), .int .i64 (k : Int), .int .i64 (m : Int)] w fun e w' => e = .returned (.int .i64 (x ^ k % m : Nat)) ∧ w' = w := by
  have cP := fun w => Pow_yes (x : Int) k m (by omega) (by omega) hk h1 h2 w
  rw [pw_n] at cP
  generalize x ^ k % m = y at *
  go_enter Try.func17, Try.ntmps17
  go_wp2_with (go_at_call 26; refine (cP _).mono ?_; rintro e w' ⟨rfl, hw⟩; subst w')
  go_ret
  exact ⟨rfl, rfl⟩

theorem Cr.nat {x E D N : Int} (h : Cr x E D N) : ∃ a b c d : Nat, x = (a : Int) ∧ E = (b : Int) ∧ D = (c : Int) ∧ N = (d : Int) := ⟨x.toNat, E.toNat, D.toNat, N.toNat, by have := h.2.2.2.1; omega, by have := h.2.1.1; omega, by have := h.2.2.1.1; omega, by have := h.1.1; omega⟩

theorem key_cells (w : World) (a b c : Value) : (w.alloc (.cells #[a, b, c] 23)).cell? ⟨w.heap.size, 0, none⟩ = some a ∧ (w.alloc (.cells #[a, b, c] 23)).cell? ⟨w.heap.size, 1, none⟩ = some b ∧ (w.alloc (.cells #[a, b, c] 23)).cell? ⟨w.heap.size, 2, none⟩ = some c := by
  have b0 := BoxC.new w 23 #[a, b, c]
  have c0 := b0.cell 0
  have c1 := b0.cell 1
  have c2 := b0.cell 2
  exact ⟨c0, c1, c2⟩

set_option maxRecDepth 100000 in
theorem Lock_bad (N E D x : Int) (h : ¬ Cr x E D N) (w : World) :
    Calls Try.prog 8 #[.agg #[.int .i64 N, .int .i64 E, .int .i64 D], .int .i64 x] w fun e w' => e = .returned (.tuple #[.int .i64 0, .int .i64 2]) ∧ Below w.heap.size w w' := by
  have cC := fun w => fits_no N E D x h w
  have K := hid (Kb.new w N E D)
  obtain ⟨c0, c1, c2⟩ := K.out.cells
  clear h
  go_enter Try.func8, Try.ntmps8
  go_wp2_with (go_at_call 16; refine (cC _).mono ?_; rintro e w1 ⟨rfl, hB1⟩; have K1 := hid (K.out.below hB1); obtain ⟨d0, d1, d2⟩ := K1.out.cells; clear hB1)
  go_ret2
  exact ⟨rfl, K1.out.2⟩

set_option maxRecDepth 100000 in
theorem Lock_yes (N E D x : Nat) (h : Cr (x : Int) (E : Int) (D : Int) (N : Int)) (w : World) :
    Calls Try.prog 8 #[.agg #[.int .i64 (N : Int), .int .i64 (E : Int), .int .i64 (D : Int)], .int .i64 (x : Int)] w fun e w' => e = .returned (.tuple #[.int .i64 (x ^ E % N : Nat), .int .i64 0]) ∧ Below w.heap.size w w' := by
  have cC := fun w => fits_yes (N : Int) (E : Int) (D : Int) (x : Int) h w
  obtain ⟨⟨h1, h2⟩, ⟨h3, h4⟩, ⟨h5, h6⟩, h7, h8⟩ := h
  have cR := fun w => raised_any x E N (by omega) (by omega) (by omega) (by omega) w
  have K := hid (Kb.new w (N : Int) (E : Int) (D : Int))
  obtain ⟨c0, c1, c2⟩ := K.out.cells
  clear h1 h2 h3 h4 h5 h6 h7 h8
  generalize x ^ E % N = y at *
  go_enter Try.func8, Try.ntmps8
  go_wp2_with (first | (go_at_call 16; refine (cC _).mono ?_; rintro e w1 ⟨rfl, hB1⟩; have K1 := hid (K.out.below hB1); obtain ⟨d0, d1, d2⟩ := K1.out.cells; clear hB1) | (go_at_call 17; refine (cR _).mono ?_; rintro e w' ⟨rfl, hw⟩; subst w'))
  go_ret2
  exact ⟨rfl, K1.out.2⟩

set_option maxRecDepth 100000 in
theorem Open_bad (N E D x : Int) (h : ¬ Cr x E D N) (w : World) :
    Calls Try.prog 11 #[.agg #[.int .i64 N, .int .i64 E, .int .i64 D], .int .i64 x] w fun e w' => e = .returned (.tuple #[.int .i64 0, .int .i64 2]) ∧ Below w.heap.size w w' := by
  have cC := fun w => fits_no N E D x h w
  have K := hid (Kb.new w N E D)
  obtain ⟨c0, c1, c2⟩ := K.out.cells
  clear h
  go_enter Try.func11, Try.ntmps11
  go_wp2_with (go_at_call 16; refine (cC _).mono ?_; rintro e w1 ⟨rfl, hB1⟩; have K1 := hid (K.out.below hB1); obtain ⟨d0, d1, d2⟩ := K1.out.cells; clear hB1)
  go_ret2
  exact ⟨rfl, K1.out.2⟩

set_option maxRecDepth 100000 in
theorem Open_yes (N E D x : Nat) (h : Cr (x : Int) (E : Int) (D : Int) (N : Int)) (w : World) :
    Calls Try.prog 11 #[.agg #[.int .i64 (N : Int), .int .i64 (E : Int), .int .i64 (D : Int)], .int .i64 (x : Int)] w fun e w' => e = .returned (.tuple #[.int .i64 (x ^ D % N : Nat), .int .i64 0]) ∧ Below w.heap.size w w' := by
  have cC := fun w => fits_yes (N : Int) (E : Int) (D : Int) (x : Int) h w
  obtain ⟨⟨h1, h2⟩, ⟨h3, h4⟩, ⟨h5, h6⟩, h7, h8⟩ := h
  have cR := fun w => raised_any x D N (by omega) (by omega) (by omega) (by omega) w
  have K := hid (Kb.new w (N : Int) (E : Int) (D : Int))
  obtain ⟨c0, c1, c2⟩ := K.out.cells
  clear h1 h2 h3 h4 h5 h6 h7 h8
  generalize x ^ D % N = y at *
  go_enter Try.func11, Try.ntmps11
  go_wp2_with (first | (go_at_call 16; refine (cC _).mono ?_; rintro e w1 ⟨rfl, hB1⟩; have K1 := hid (K.out.below hB1); obtain ⟨d0, d1, d2⟩ := K1.out.cells; clear hB1) | (go_at_call 17; refine (cR _).mono ?_; rintro e w' ⟨rfl, hw⟩; subst w'))
  go_ret2
  exact ⟨rfl, K1.out.2⟩

end Go.Proofs.Ytoohnfcikapmlaa.Calls152
