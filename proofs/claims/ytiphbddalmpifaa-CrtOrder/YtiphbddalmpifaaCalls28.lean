/-
  The document's own road: whether each two of many rests can be fitted.
-/
import Derived.Test.YtiphbddalmpifaaCalls27
namespace Go.Proofs.Ytiphbddalmpifaa.Calls28
set_option linter.unusedVariables false
open Go.ChangeShapes Go.WideShapes Go.ChangeAt Go.RowKit Go.Proofs.Ytiphbddalmpifaa.Base Go.Proofs.Ytiphbddalmpifaa.Num14 Go.Proofs.Ytiphbddalmpifaa.Num27 Go.Proofs.Ytiphbddalmpifaa.Calls24 Go.Proofs.Ytiphbddalmpifaa.Calls25 Go.Proofs.Ytiphbddalmpifaa.Calls26 Go.Proofs.Ytiphbddalmpifaa.Calls27
open Go.Proofs.Ytiphbddalmpifaa.Math (gg)
open Go.Proofs.Ytiphbddalmpifaa.Calls1 (Far_yes Far_no refMod_any)
open Go.Proofs.Ytiphbddalmpifaa.Calls4 (refGcd_any)

theorem refGcd_n (a b : Nat) (w : World) (ha2 : a ≤ 2147483648) (hb2 : b ≤ 2147483648) :
    Calls Try.prog 11 #[.int .i64 (a : Int), .int .i64 (b : Int)] w fun e w' => e = .returned (.int .i64 ((Nat.gcd a b : Nat) : Int)) ∧ w' = w := by
  rw [← gg_nat]
  exact refGcd_any _ _ _ (by omega) (by omega) (by omega) (by omega)

/-- Two rests can be fitted. -/
def Two (l : List (Int × Int)) (i j : Nat) : Prop := ((Nat.gcd ((nats l).getD i (0, 1)).2 ((nats l).getD j (0, 1)).2 : Nat) : Int) ∣ ((nats l).getD i (0, 1)).1 - ((nats l).getD j (0, 1)).1

/-- All pairs up to row k, and of row k those up to q. -/
def Done (l : List (Int × Int)) (k q : Nat) : Prop := (∀ i j, i < k → j < l.length → Two l i j) ∧ ∀ j, j < q → Two l k j

theorem Done.next {l : List (Int × Int)} {k q : Nat} (h : Done l k q) (h2 : Two l k q) : Done l k (q + 1) := ⟨h.1, fun j hj => by
  by_cases e : j = q
  · subst e; exact h2
  · exact h.2 j (by omega)⟩

theorem Done.row {l : List (Int × Int)} {k : Nat} (h : Done l k l.length) : Done l (k + 1) 0 := ⟨fun i j hi hj => by
  by_cases e : i = k
  · subst e; exact h.2 j hj
  · exact h.1 i j (by omega) hj, fun j hj => by omega⟩

theorem Done.all {l : List (Int × Int)} {q : Nat} (h : Done l l.length q) : Pairs (nats l) l.length := fun i j hi hj => h.1 i j hi hj

theorem two_ne {l : List (Int × Int)} {i j : Nat} (hi : i < l.length) (hj : j < l.length) (h : ¬ Two l i j) : ¬ Pairs (nats l) l.length := fun h2 => h (h2 i j hi hj)

theorem two_eq {l : List (Int × Int)} {i j n m : Nat} {a b : Int} (hi : i < l.length) (hj : j < l.length) (h1 : l.getD i (0, 0) = (a, (n : Int))) (h2 : l.getD j (0, 0) = (b, (m : Int))) : Two l i j ↔ ((Nat.gcd n m : Nat) : Int) ∣ a - b := by
  unfold Two
  rw [get_nats hi h1, get_nats hj h2]

theorem nat_pair {x : Int × Int} (h : OkR x) : ∃ (a : Int) (n : Nat), x = (a, (n : Int)) ∧ 1 ≤ n ∧ n ≤ 1048576 ∧ -2147483648 ≤ a ∧ a ≤ 2147483648 := by
  obtain ⟨a, m⟩ := x
  obtain ⟨h1, h2, h3, h4⟩ := h
  simp only at h1 h2 h3 h4
  exact ⟨a, m.toNat, by rw [Int.toNat_of_nonneg (by omega)], by omega, by omega, h3, h4⟩

set_option maxRecDepth 100000 in
theorem Fit_any (bo : Option Addr) (cb : Nat) (l : List (Int × Int)) (hl : l.length ≤ 8) (w : World) (hrow : PRow w bo l) (hblk : Lies w bo l) (h : InR l) :
    Calls Try.prog 8 #[.slice bo l.length cb] w fun e w' => Says (Pairs (nats l) l.length) e ∧ Below w.heap.size w w' := by
  have HI := hid h
  clear h
  go_enter Try.func8, Try.ntmps8
  go_wp2
  go_loopw [9] (fun i wr => ∃ k : Nat, i = .int .i64 (k : Int) ∧ k ≤ l.length ∧ Hid (Done l k 0) ∧ Below w.heap.size w wr) (fun i wr => ((l.length : Int) - intOf i).toNat)
  case atStart => exact ⟨0, rfl, by omega, ⟨fun i j hi => by omega, fun j hj => by omega⟩, Below.refl _ _⟩
  case round =>
    obtain ⟨k, rfl, hk, hD, hBr⟩ := hrel
    by_cases hgo : k < l.length
    · have hgo' : (k : Int) < (l.length : Int) := by omega
      rcases bo with _ | ad
      · exact (prow_none hrow hgo).elim
      · obtain ⟨c1, c2⟩ := prow_at (prow_below hrow hBr hblk) hgo
        obtain ⟨a, n, hx, hn1, hn2, ha1, ha2⟩ := nat_pair (HI.out.each k hgo)
        rw [hx] at c1 c2
        simp only at c1 c2
        have HX := hid hx
        clear hx
        have hB1 : Below w.heap.size w (wr.alloc (.cells #[.int .i64 a, .int .i64 (n : Int)] 24)) := hBr.alloc hBr.size _
        have hsz := hBr.size
        go_wp2
        go_loopw [15] (fun i ws => ∃ q : Nat, i = .int .i64 (q : Int) ∧ q ≤ l.length ∧ Hid (Done l k q) ∧ Hid (BoxC ws wr.heap.size 24 #[.int .i64 a, .int .i64 (n : Int)]) ∧ Below w.heap.size w ws) (fun i ws => ((l.length : Int) - intOf i).toNat)
        case atStart => exact ⟨0, rfl, by omega, hD, BoxC.new wr 24 _, hB1⟩
        case round =>
          obtain ⟨q, rfl, hq, hDq, bR, hBs⟩ := hrel
          by_cases hg2 : q < l.length
          · have hg2' : (q : Int) < (l.length : Int) := by omega
            obtain ⟨d1, d2⟩ := prow_at (prow_below hrow hBs hblk) hg2
            obtain ⟨b, m, hy, hm1, hm2, hb1, hb2⟩ := nat_pair (HI.out.each q hg2)
            rw [hy] at d1 d2
            simp only at d1 d2
            have hT := two_eq hgo hg2 HX.out hy
            clear hy c1 c2
            have bR1 := bR.out.alloc (.cells #[.int .i64 b, .int .i64 (m : Int)] 24)
            have r0 := bR1.cell 0
            have r1 := bR1.cell 1
            simp at r0 r1
            have hg : 1 ≤ Nat.gcd n m := Nat.gcd_pos_of_pos_left _ hn1
            have hgl : Nat.gcd n m ≤ n := Nat.le_of_dvd hn1 (Nat.gcd_dvd_left _ _)
            have hg' : 1 ≤ ((Nat.gcd n m : Nat) : Int) := by omega
            have cG := fun w => refGcd_n n m w (by omega) (by omega)
            have cM := fun w => refMod_any (a - b) ((Nat.gcd n m : Nat) : Int) w (by omega) (by omega)
            by_cases hd : ((Nat.gcd n m : Nat) : Int) ∣ a - b
            · have hD2 := hid (hDq.out.next (hT.2 hd))
              have e1 : ((a - b) % ((Nat.gcd n m : Nat) : Int) != 0) = false := by
                rw [Int.emod_eq_zero_of_dvd hd]; rfl
              clear hd hT bR1
              go_wp2
              go_quiet ((first | (go_at_call 11; exact Calls.quiet_of_same (cG _)) | (go_at_call 10; exact Calls.quiet_of_same (cM _))))
              go_wp2
              go_roundw
              case rel => exact ⟨q + 1, by simp, by omega, hD2, (bR.out.alloc _), below_drewN (hBs.alloc hBs.size _) _⟩
              case measure => exact measK hg2
            · have hN := hid (two_ne hgo hg2 (fun h2 => hd (hT.1 h2)))
              have e1 : ((a - b) % ((Nat.gcd n m : Nat) : Int) != 0) = true := by
                have : ¬ (a - b) % ((Nat.gcd n m : Nat) : Int) = 0 := fun h2 => hd (Int.dvd_of_emod_eq_zero h2)
                simpa using this
              clear hd hT bR1
              go_wp2
              go_quiet ((first | (go_at_call 11; exact Calls.quiet_of_same (cG _)) | (go_at_call 10; exact Calls.quiet_of_same (cM _))))
              go_wp2
              go_ret
              exact ⟨Says.no hN.out, below_drewN (hBs.alloc hBs.size _) _⟩
          · have hg2' : ¬ (q : Int) < (l.length : Int) := by omega
            have e : q = l.length := by omega
            have hD2 : Hid (Done l (k + 1) 0) := by
              have := hDq.out
              rw [e] at this
              exact this.row
            clear e
            go_wp2
            go_roundw
            case rel => exact ⟨k + 1, by simp, by omega, hD2, hBs⟩
            case measure => exact measK hgo
    · have hgo' : ¬ (k : Int) < (l.length : Int) := by omega
      have e : k = l.length := by omega
      have hA : Hid (Pairs (nats l) l.length) := by
        have := hD.out
        rw [e] at this
        exact this.all
      clear e
      go_wp2
      go_ret
      exact ⟨Says.yes hA.out, hBr⟩

/-- Each two can be fitted: all can. -/
theorem can_iff {l : List (Int × Int)} (h : InR l) : Fitted l ↔ Pairs (nats l) l.length := by
  constructor
  · exact pairs_of
  · intro hP
    have key : ∀ k, k ≤ l.length → ∃ A, Sol (nats l) k A (lc (nats l) k) := by
      intro k
      induction k with
      | zero => intro _; exact ⟨0, Sol.start _⟩
      | succ k ih =>
        intro hk
        obtain ⟨A, hA⟩ := ih (by omega)
        have hd := hA.pairs h.pos (fun i j hi hj => hP i j (by omega) (by omega))
        obtain ⟨x, h1, h2⟩ := two_fit.2 hd
        have hpos := Nat.lcm_pos hA.pos (h.pos k)
        refine ⟨x % ((lc (nats l) (k + 1) : Nat) : Int), ?_⟩
        have hp2 : 0 < ((lc (nats l) (k + 1) : Nat) : Int) := by
          have : 0 < lc (nats l) (k + 1) := hpos
          omega
        have hm : ∀ d : Nat, d ∣ lc (nats l) (k + 1) → (d : Int) ∣ x % ((lc (nats l) (k + 1) : Nat) : Int) - x := by
          intro d hd
          have := Int.emod_add_mul_ediv x ((lc (nats l) (k + 1) : Nat) : Int)
          refine Int.dvd_trans (Int.ofNat_dvd.2 hd) ⟨-(x / ((lc (nats l) (k + 1) : Nat) : Int)), ?_⟩
          rw [Int.mul_neg]; omega
        refine hA.next (h.pos k) ?_ ?_ (Int.emod_nonneg _ (by omega)) (Int.emod_lt_of_pos _ hp2)
        · exact (fits_move h1).2 (hm _ (Nat.dvd_lcm_left _ _))
        · exact (fits_move h2).2 (hm _ (Nat.dvd_lcm_right _ _))
    obtain ⟨A, hA⟩ := key l.length (Nat.le_refl _)
    exact ⟨A, hA.self⟩

theorem Fit_yes (bo : Option Addr) (cb : Nat) (l : List (Int × Int)) (hl : l.length ≤ 8) (w : World) (hrow : PRow w bo l) (hblk : Lies w bo l) (h : InR l) (hc : Fitted l) :
    Calls Try.prog 8 #[.slice bo l.length cb] w fun e w' => e = .returned (.bool true) ∧ Below w.heap.size w w' :=
  (Fit_any bo cb l hl w hrow hblk h).mono fun e w' ⟨h1, h2⟩ => ⟨h1.get ((can_iff h).1 hc), h2⟩

theorem Fit_no (bo : Option Addr) (cb : Nat) (l : List (Int × Int)) (hl : l.length ≤ 8) (w : World) (hrow : PRow w bo l) (hblk : Lies w bo l) (h : InR l) (hc : ¬ Fitted l) :
    Calls Try.prog 8 #[.slice bo l.length cb] w fun e w' => e = .returned (.bool false) ∧ Below w.heap.size w w' :=
  (Fit_any bo cb l hl w hrow hblk h).mono fun e w' ⟨h1, h2⟩ => ⟨h1.not (fun h3 => hc ((can_iff h).2 h3)), h2⟩

end Go.Proofs.Ytiphbddalmpifaa.Calls28
