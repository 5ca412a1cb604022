/-
  Package crt: what Solve answers, where all is within the limits.
-/
import Derived.Test.YtoohnfcikapmlaaCalls25
namespace Go.Proofs.Ytoohnfcikapmlaa.Calls26
set_option linter.unusedVariables false
open Go.ChangeShapes Go.WideShapes Go.ChangeAt Go.RowKit Go.Proofs.Ytoohnfcikapmlaa.Base Go.Proofs.Ytoohnfcikapmlaa.Num14 Go.Proofs.Ytoohnfcikapmlaa.Num27 Go.Proofs.Ytoohnfcikapmlaa.Calls24 Go.Proofs.Ytoohnfcikapmlaa.Calls25

/-- Some number fits all. -/
def Fitted (l : List (Int × Int)) : Prop := ∃ x, ∀ j, j < l.length → Fits x ((nats l).getD j (0, 1))

/-- The rest for the first k ones, as it lies in a box. -/
structure Upto (l : List (Int × Int)) (k : Nat) (A : Int) (M : Nat) : Prop where
  sol : Sol (nats l) k A M
  eq : M = lc (nats l) k

theorem Upto.start (l : List (Int × Int)) : Upto l 0 0 1 := ⟨Sol.start _, rfl⟩

theorem Upto.next {l : List (Int × Int)} {k M n : Nat} {A C a : Int} (h : Upto l k A M) (hk : k < l.length) (hn : 1 ≤ n) (hx : l.getD k (0, 0) = (a, (n : Int))) (h1 : Fits C (A, M)) (h2 : Fits C (a, n)) (h3 : 0 ≤ C) (h4 : C < ((Nat.lcm M n : Nat) : Int)) : Upto l (k + 1) C (Nat.lcm M n) := by
  have e := get_nats hk hx
  have s := h.sol.next (C := C) (by rw [e]; exact hn) h1 (by rw [e]; exact h2) h3 (by rw [e]; exact h4)
  rw [e] at s
  exact ⟨s, by rw [lc_next hk hx, ← h.eq]⟩

theorem Upto.not {l : List (Int × Int)} {k M n : Nat} {A a : Int} (h : Upto l k A M) (hk : k < l.length) (hx : l.getD k (0, 0) = (a, (n : Int))) (hd : ¬ ((Nat.gcd M n : Nat) : Int) ∣ a - A) : ¬ Fitted l := by
  rintro ⟨x, hx2⟩
  have e := get_nats hk hx
  have := h.sol.can.1 ⟨x, fun j hj => hx2 j (by omega)⟩
  rw [e] at this
  exact hd this

/-- What Solve returns. -/
def Told (l : List (Int × Int)) (e : Ending) : Prop :=
  (∃ A, Sol (nats l) l.length A (lc (nats l) l.length) ∧ e = .returned (.tuple #[.agg #[.int .i64 A, .int .i64 (lc (nats l) l.length : Int)], .int .i64 0])) ∨
  (¬ Fitted l ∧ e = .returned (.tuple #[.agg #[.int .i64 0, .int .i64 0], .int .i64 5]))

set_option maxRecDepth 100000 in
theorem Solve_in (bo : Option Addr) (cb : Nat) (l : List (Int × Int)) (hl : l.length ≤ 8) (w : World) (hrow : PRow w bo l) (hblk : Lies w bo l) (h : InR l) :
    Calls Try.prog 20 #[.slice bo l.length cb] w fun e w' => Told l e ∧ Below w.heap.size w w' := by
  have hl' : ¬ 8 < (l.length : Int) := by omega
  have hal : Below w.heap.size w (w.alloc (.cells #[.int .i64 0, .int .i64 0] 43)) := (Below.refl _ _).alloc (Nat.le_refl _) _
  have HR := hid (inRange_yes bo cb l hl _ (prow_below hrow hal hblk) (hblk.below hal) h)
  have HI := hid h
  clear h
  go_enter Try.func20, Try.ntmps20
  go_wp2_with (go_at_call 28; refine HR.out.mono ?_; rintro e w1 ⟨rfl, hB1⟩; have b0 := (BoxC.new w 43 #[.int .i64 0, .int .i64 0]).below hB1 (by simp); have B0 := hid b0; clear b0)
  have hB0 : Below w.heap.size w w1 := below_trans hal hB1
  have hsz : w.heap.size < w1.heap.size := B0.out.lt
  go_loopw [20] (fun i wr => ∃ (k M : Nat) (A : Int), i = .int .i64 (k : Int) ∧ k ≤ l.length ∧ Hid (Upto l k A M) ∧ Hid (BoxC wr w1.heap.size 43 #[.int .i64 A, .int .i64 (M : Int)]) ∧ Hid (BoxC wr w.heap.size 43 #[.int .i64 0, .int .i64 0]) ∧ Below w.heap.size w wr) (fun i wr => ((l.length : Int) - intOf i).toNat)
  case atStart => exact ⟨0, 1, 0, rfl, by omega, Upto.start l, BoxC.new w1 43 _, B0.out.alloc _, hB0.alloc hB0.size _⟩
  case round =>
    obtain ⟨k, M, A, rfl, hk, hU, bA, bR, hBr⟩ := hrel
    have cA0 := bA.out.cell 0
    have cA1 := bA.out.cell 1
    have fA0 := bA.out.frozen 0
    have fA1 := bA.out.frozen 1
    have cR0 := bR.out.cell 0
    have cR1 := bR.out.cell 1
    have fR0 := bR.out.frozen 0
    have fR1 := bR.out.frozen 1
    simp at cA0 cA1 cR0 cR1
    have hM1 := hU.out.sol.pos
    have hA0 := hU.out.sol.lo
    have hA1 := hU.out.sol.hi
    by_cases hgo : k < l.length
    · have hgo' : (k : Int) < (l.length : Int) := by omega
      rcases bo with _ | ad
      · exact (prow_none hrow hgo).elim
      · obtain ⟨c1, c2⟩ := prow_at (prow_below hrow hBr hblk) hgo
        have hok := HI.out.each k hgo
        have hMl : M ≤ 2147483648 := by rw [hU.out.eq]; exact HI.out.lc_le (by omega)
        obtain ⟨x, hx⟩ : ∃ x, l.getD k (0, 0) = x := ⟨_, rfl⟩
        rw [hx] at c1 c2 hok
        obtain ⟨a, m⟩ := x
        obtain ⟨n, rfl⟩ : ∃ n : Nat, m = (n : Int) := ⟨m.toNat, by have := hok.1; simp only at this; omega⟩
        simp only at c1 c2
        have hn1 : 1 ≤ n := by have := hok.1; simp only at this; omega
        have hlc : Nat.lcm M n ≤ 2147483648 := by
          have := HI.out.lc_le (show k + 1 ≤ l.length by omega)
          rw [lc_next hgo hx, ← hU.out.eq] at this
          exact this
        have HX := hid hx
        clear hx
        have bA1 := bA.out.alloc (.cells #[.int .i64 a, .int .i64 (n : Int)] 43)
        have xA0 := bA1.cell 0
        have xA1 := bA1.cell 1
        simp at xA0 xA1
        clear bA1
        by_cases hd : ((Nat.gcd M n : Nat) : Int) ∣ a - A
        · have cJ := fun w => join_yes A a M n w hM1 hA0 hA1 hok hlc hd
          clear hd hok
          go_wp2_with (go_at_call 29; refine (cJ _).mono ?_; rintro e w2 ⟨⟨C, rfl, g1, g2, g3, g4⟩, hB2⟩; have G1 := hid g1; have G2 := hid g2; have bA2 := hid (((bA.out.alloc _).below hB2 (by simp; have := bA.out.lt; omega)).alloc (.cells #[.int .i64 C, .int .i64 (Nat.lcm M n : Int)] 43)); have bR2 := hid (((bR.out.alloc _).below hB2 (by simp; have := bR.out.lt; omega)).alloc (.cells #[.int .i64 C, .int .i64 (Nat.lcm M n : Int)] 43)); have dA0 := bA2.out.cell 0; have dA1 := bA2.out.cell 1; have eA0 := bA2.out.frozen 0; have eA1 := bA2.out.frozen 1; simp at dA0 dA1; clear g1 g2)
          have hb2 : Below w.heap.size w (w2.alloc (.cells #[.int .i64 C, .int .i64 (Nat.lcm M n : Int)] 43)) := by
            have h2 : Below w.heap.size w w2 := hBr.trans ((below_trans ((Below.refl _ _).alloc (Nat.le_refl _) _) hB2).mono hBr.size)
            exact h2.alloc h2.size _
          go_roundw
          case rel => exact ⟨k + 1, Nat.lcm M n, C, by simp, by omega, hU.out.next hgo hn1 HX.out G1.out G2.out g3 g4, bA2.out.set2 _ _, (bR2.out.other (by omega) _ _).other (by omega) _ _, (hb2.setCell (by simp; omega) _).setCell (by simp; omega) _⟩
          case measure => exact measK hgo
        · have hnot := hid (hU.out.not hgo HX.out hd)
          have cJ := fun w => join_no A a M n w hM1 hMl hA0 hA1 hok hd
          clear hd hok
          go_wp2_with (go_at_call 29; refine (cJ _).mono ?_; rintro e w2 ⟨rfl, hB2⟩; have bR2 := hid (((bR.out.alloc _).below hB2 (by simp; have := bR.out.lt; omega)).alloc (.cells #[.int .i64 0, .int .i64 0] 43)); have dR0 := bR2.out.cell 0; have dR1 := bR2.out.cell 1; have eR0 := bR2.out.frozen 0; have eR1 := bR2.out.frozen 1; simp at dR0 dR1)
          have h2 : Below w.heap.size w w2 := hBr.trans ((below_trans ((Below.refl _ _).alloc (Nat.le_refl _) _) hB2).mono hBr.size)
          have hb2 : Below w.heap.size w (w2.alloc (.cells #[.int .i64 0, .int .i64 0] 43)) := h2.alloc h2.size _
          have r := bR2.out.set2 (.int .i64 0) (.int .i64 0)
          have r0 := r.cell 0
          have r1 := r.cell 1
          simp at r0 r1
          exact bodyPost_ret (v := .tuple #[.agg #[.int .i64 0, .int .i64 0], .int .i64 5]) (by simp [results, Try.results20, go_sem, r0, r1]) rfl ⟨.inr ⟨hnot.out, rfl⟩, (hb2.setCell (by simp) _).setCell (by simp) _⟩
    · have hgo' : ¬ (k : Int) < (l.length : Int) := by omega
      have e : k = l.length := by omega
      have hS : Hid (Sol (nats l) l.length A (lc (nats l) l.length)) := by
        have h1 := hU.out.sol
        have h2 := hU.out.eq
        rw [h2, e] at h1
        exact h1
      have hM : Hid (M = lc (nats l) l.length) := by rw [← e]; exact hU.out.eq
      clear e
      go_wp2
      have r := bR.out.set2 (.int .i64 A) (.int .i64 (M : Int))
      have r0 := r.cell 0
      have r1 := r.cell 1
      simp at r0 r1
      exact bodyPost_ret (v := .tuple #[.agg #[.int .i64 A, .int .i64 (M : Int)], .int .i64 0]) (by simp [results, Try.results20, go_sem, r0, r1]) rfl ⟨.inl ⟨A, hS.out, by rw [← hM.out]⟩, (hBr.setCell (by simp) _).setCell (by simp) _⟩

theorem Solve_yes (bo : Option Addr) (cb : Nat) (l : List (Int × Int)) (hl : l.length ≤ 8) (w : World) (hrow : PRow w bo l) (hblk : Lies w bo l) (h : InR l) (hc : Fitted l) :
    Calls Try.prog 20 #[.slice bo l.length cb] w fun e w' => (∃ A, Sol (nats l) l.length A (lc (nats l) l.length) ∧ e = .returned (.tuple #[.agg #[.int .i64 A, .int .i64 (lc (nats l) l.length : Int)], .int .i64 0])) ∧ Below w.heap.size w w' :=
  (Solve_in bo cb l hl w hrow hblk h).mono fun e w' ⟨h1, h2⟩ => ⟨h1.resolve_right (fun h3 => h3.1 hc), h2⟩

theorem Solve_none (bo : Option Addr) (cb : Nat) (l : List (Int × Int)) (hl : l.length ≤ 8) (w : World) (hrow : PRow w bo l) (hblk : Lies w bo l) (h : InR l) (hc : ¬ Fitted l) :
    Calls Try.prog 20 #[.slice bo l.length cb] w fun e w' => e = .returned (.tuple #[.agg #[.int .i64 0, .int .i64 0], .int .i64 5]) ∧ Below w.heap.size w w' :=
  (Solve_in bo cb l hl w hrow hblk h).mono fun e w' ⟨h1, h2⟩ => ⟨(h1.resolve_left (fun ⟨A, h3, _⟩ => hc ⟨A, h3.self⟩)).2, h2⟩

end Go.Proofs.Ytoohnfcikapmlaa.Calls26
