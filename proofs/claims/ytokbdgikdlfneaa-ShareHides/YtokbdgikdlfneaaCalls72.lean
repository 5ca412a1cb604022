/-
  What is wrong with points, by the document.
-/
import Derived.Test.YtokbdgikdlfneaaCalls69
import Derived.Test.YtokbdgikdlfneaaCalls61
import Derived.Deep.QuietTactic
import Derived.BigQuiet
namespace Go.Proofs.Ytokbdgikdlfneaa.Calls72
set_option linter.unusedVariables false
open Go.ChangeShapes Go.WideShapes Go.ChangeAt Go.RowKit Go.Deep Go.Proofs.Ytokbdgikdlfneaa.Base Go.Proofs.Ytokbdgikdlfneaa.Num Go.Proofs.Ytokbdgikdlfneaa.Num13 Go.Proofs.Ytokbdgikdlfneaa.Num16 Go.Proofs.Ytokbdgikdlfneaa.Num17 Go.Proofs.Ytokbdgikdlfneaa.Num34 Go.Proofs.Ytokbdgikdlfneaa.Num35 Go.Proofs.Ytokbdgikdlfneaa.Base4 Go.Proofs.Ytokbdgikdlfneaa.Calls56 Go.Proofs.Ytokbdgikdlfneaa.Calls57 Go.Proofs.Ytokbdgikdlfneaa.Calls69

theorem al {w W : World} (h : Below w.heap.size w W) (o : Obj) : Below w.heap.size w (W.alloc o) := h.alloc h.size o

theorem inp_step {p : Int} {l : List (Int × Int)} {k : Nat} (h : InP p l k) (hk : (0 ≤ px l k ∧ px l k < p) ∧ 0 ≤ py l k ∧ py l k < p) : InP p l (k + 1) := fun j hj => by
  by_cases e : j = k
  · subst e; exact hk
  · exact h j (by omega)

def Diff (l : List (Int × Int)) (i k : Nat) : Prop := ∀ j, j < k → px l i ≠ px l j

theorem dis_next {l : List (Int × Int)} {k : Nat} (h : Dis l k) (hn : Diff l k k) : Dis l (k + 1) := fun i j hi hj => by
  by_cases e : i = k
  · subst e; exact hn j hj
  · exact h i j (by omega) hj

theorem diff_next {l : List (Int × Int)} {i k : Nat} (h : Diff l i k) (hn : px l i ≠ px l k) : Diff l i (k + 1) := fun j hj => by
  by_cases e : j = k
  · subst e; exact hn
  · exact h j (by omega)

theorem refPointsCheck_bad (p : Int) (ao : Option Addr) (cap n : Nat) (c : Int) (hc : PrC p c) (h0 : c ≠ 0) (w : World) :
    Calls Try.prog 27 #[.int .i64 p, .slice ao n cap] w fun e w' => e = .returned (.int .i64 c) ∧ Below w.heap.size w w' := by
  have cP := refPrimeCheck_any p c hc w
  have h1 : (c != 0) = true := by simpa using h0
  have h2 : (c == 0) = false := by simpa using h0
  clear hc
  go_enter Try.func27, Try.ntmps27
  go_wp2_with (go_at_call 10; refine cP.mono ?_; rintro e w1 ⟨rfl, hw⟩; subst w1)
  go_ret
  exact ⟨rfl, Below.refl _ _⟩

theorem refPointsCheck_long (p : Int) (ao : Option Addr) (cap n : Nat) (hl : 13 < n) (hc : PrC p 0) (w : World) :
    Calls Try.prog 27 #[.int .i64 p, .slice ao n cap] w fun e w' => e = .returned (.int .i64 1) ∧ Below w.heap.size w w' := by
  have cP := refPrimeCheck_any p 0 hc w
  have hl' : (13 : Int) < (n : Int) := by omega
  clear hc
  go_enter Try.func27, Try.ntmps27
  go_wp2_with (go_at_call 10; refine cP.mono ?_; rintro e w1 ⟨rfl, hw⟩; subst w1)
  go_ret
  exact ⟨rfl, Below.refl _ _⟩

set_option maxRecDepth 100000 in
set_option maxHeartbeats 1000000 in
theorem refPointsCheck_short (p : Int) (ao : Option Addr) (cap : Nat) (l : List (Int × Int)) (hl : l.length ≤ 13) (hc : PrC p 0) (c : Int) (h2 : ¬ InP p l l.length → c = 2) (h4 : InP p l l.length → ¬ Dis l l.length → c = 4) (h0 : InP p l l.length → Dis l l.length → c = 0) (w : World) (hrow : PRow w ao l) (hli : Lies w ao l) :
    Calls Try.prog 27 #[.int .i64 p, .slice ao l.length cap] w fun e w' => e = .returned (.int .i64 c) ∧ Below w.heap.size w w' := by
  have cP := refPrimeCheck_any p 0 hc w
  obtain ⟨N, hN⟩ : ∃ N, N = l.length := ⟨_, rfl⟩
  have HN : Hid (N = l.length) := hN
  rw [← hN] at hl ⊢
  have H2 : Hid (¬ InP p l N → c = 2) := by rw [hN]; exact h2
  have H4 : Hid (InP p l N → ¬ Dis l N → c = 4) := by rw [hN]; exact h4
  have H0 : Hid (InP p l N → Dis l N → c = 0) := by rw [hN]; exact h0
  have hl' : decide ((13 : Int) < (N : Int)) = false := by simp; omega
  clear hN h2 h4 h0 hc
  go_enter Try.func27, Try.ntmps27
  go_wp2_with (go_at_call 10; refine cP.mono ?_; rintro e w1 ⟨rfl, hw⟩; subst w1)
  go_loopw [20] (fun i wr => ∃ k : Nat, i = .int .i64 (k : Int) ∧ k ≤ N ∧ Hid (InP p l k) ∧ Hid (Below w.heap.size w wr)) (fun i wr => ((N : Int) - intOf i).toNat)
  case atStart => exact ⟨0, rfl, by omega, fun j hj => absurd hj (by omega), Below.refl _ _⟩
  case round =>
    obtain ⟨k, rfl, hk, hI, hBr⟩ := hrel
    by_cases hgo : k < N
    · have hgo' : (k : Int) < (N : Int) := by omega
      have hkl : Hid (k < l.length) := by have := HN.out; show k < l.length; omega
      have hno : Hid ((0 ≤ px l k ∧ px l k < p) ∧ 0 ≤ py l k ∧ py l k < p ∨ c = 2) := by
        show _ ∨ _
        rcases Classical.em ((0 ≤ px l k ∧ px l k < p) ∧ 0 ≤ py l k ∧ py l k < p) with h | h
        · exact .inl h
        · exact .inr (H2.out (fun hI => h (hI k hgo)))
      have hI2 : Hid ((0 ≤ px l k ∧ px l k < p) ∧ 0 ≤ py l k ∧ py l k < p → InP p l (k + 1)) := fun h => inp_step hI.out h
      rcases ao with _ | ad
      · exact (prow_none hrow hkl.out).elim
      · obtain ⟨c1, c2⟩ := pcell (prow_below hrow hBr.out hli) hkl.out
        have hBa := hid (al hBr.out (.cells #[.int .i64 (px l k), .int .i64 (py l k)] 39))
        generalize px l k = x at *
        generalize py l k = y at *
        by_cases o1 : x < 0
        · obtain rfl : c = 2 := hno.out.resolve_left (by omega)
          go_wp2
          go_ret
          exact ⟨rfl, hBa.out⟩
        · have o1' : decide (x < 0) = false := by simpa using o1
          by_cases o2 : p ≤ x
          · obtain rfl : c = 2 := hno.out.resolve_left (by omega)
            go_wp2
            go_ret
            exact ⟨rfl, hBa.out⟩
          · have o2' : decide (p ≤ x) = false := by simp; omega
            by_cases o3 : y < 0
            · obtain rfl : c = 2 := hno.out.resolve_left (by omega)
              go_wp2
              go_ret
              exact ⟨rfl, hBa.out⟩
            · have o3' : decide (y < 0) = false := by simpa using o3
              by_cases o4 : p ≤ y
              · obtain rfl : c = 2 := hno.out.resolve_left (by omega)
                go_wp2
                go_ret
                exact ⟨rfl, hBa.out⟩
              · have o4' : decide (p ≤ y) = false := by simp; omega
                have hI3 := hid (hI2.out ⟨⟨by omega, by omega⟩, by omega, by omega⟩)
                go_wp2
                go_roundw
                case rel => exact ⟨k + 1, by simp, by omega, hI3, hBa⟩
                case measure => exact measK hgo
    · have hgo' : ¬ (k : Int) < (N : Int) := by omega
      obtain rfl : k = N := by omega
      go_wp2
      go_loopw [8] (fun i wr => ∃ i' : Nat, i = .int .i64 (i' : Int) ∧ i' ≤ k ∧ Hid (Dis l i') ∧ Hid (Below w.heap.size w wr)) (fun i wr => ((k : Int) - intOf i).toNat)
      case atStart => exact ⟨0, rfl, by omega, fun i j hi => absurd hi (by omega), hBr⟩
      case round =>
        obtain ⟨i, rfl, hi, hD, hB2⟩ := hrel
        by_cases hgi : i < k
        · have hgi' : (i : Int) < (k : Int) := by omega
          obtain ⟨wo, hwo⟩ : ∃ wo, wo = wr := ⟨_, rfl⟩
          subst hwo
          go_wp2
          go_loopw [9] (fun j wr => ∃ j' : Nat, j = .int .i64 (j' : Int) ∧ j' ≤ i ∧ Hid (Diff l i j') ∧ Hid (Below w.heap.size w wr)) (fun j wr => ((i : Int) - intOf j).toNat)
          case atStart => exact ⟨0, rfl, by omega, fun j hj => absurd hj (by omega), hB2⟩
          case round =>
            obtain ⟨j, rfl, hj, hF, hB3⟩ := hrel
            by_cases hgj : j < i
            · have hgj' : (j : Int) < (i : Int) := by omega
              have hjk : (j : Int) < (k : Int) := by omega
              have hil : Hid (i < l.length) := by have := HN.out; show i < l.length; omega
              have hjl : Hid (j < l.length) := by have := HN.out; show j < l.length; omega
              rcases ao with _ | ad
              · exact (prow_none hrow hil.out).elim
              · have c1 := (pcell (prow_below hrow hB3.out hli) hil.out).1
                have c2 := (pcell (prow_below hrow hB3.out hli) hjl.out).1
                have hno : Hid (px l i = px l j → c = 4) := fun e => H4.out hI.out (fun h => h i j hgi hgj e)
                have hF2 : Hid (px l i ≠ px l j → Diff l i (j + 1)) := fun h => diff_next hF.out h
                generalize px l i = x at *
                generalize px l j = y at *
                by_cases he : x = y
                · obtain rfl : c = 4 := hno.out he
                  subst he
                  clear hno hF2
                  go_wp2
                  go_quiet (fail)
                  go_wp2
                  go_ret
                  exact ⟨rfl, below_drewN hB3.out _⟩
                · have he' : (x == y) = false := by simpa using he
                  have hF3 := hid (hF2.out he)
                  go_wp2
                  go_quiet (fail)
                  go_wp2
                  go_roundw
                  case rel => exact ⟨j + 1, by simp, by omega, hF3, below_drewN hB3.out _⟩
                  case measure => exact measK hgj
            · have hgj' : ¬ (j : Int) < (i : Int) := by omega
              obtain rfl : j = i := by omega
              have hD2 := hid (dis_next hD.out hF.out)
              go_wp2
              go_roundw
              case rel => exact ⟨j + 1, by simp, by omega, hD2, hB3⟩
              case measure => exact measK hgi
        · have hgi' : ¬ (i : Int) < (k : Int) := by omega
          obtain rfl : i = k := by omega
          obtain rfl : c = 0 := H0.out hI.out hD.out
          go_wp2
          go_ret
          exact ⟨rfl, hB2.out⟩

theorem refPointsCheck_any (p : Int) (ao : Option Addr) (cap : Nat) (l : List (Int × Int)) (c : Int) (hc : PtC p l c) (w : World) (hrow : PRow w ao l) (hli : Lies w ao l) :
    Calls Try.prog 27 #[.int .i64 p, .slice ao l.length cap] w fun e w' => e = .returned (.int .i64 c) ∧ Below w.heap.size w w' := by
  rcases hc with ⟨hc, h0⟩ | ⟨hc, ⟨hl, rfl⟩ | ⟨hl, hc2⟩⟩
  · exact refPointsCheck_bad p ao cap l.length c hc h0 w
  · exact refPointsCheck_long p ao cap l.length hl hc w
  · refine refPointsCheck_short p ao cap l hl hc c (fun h => ?_) (fun h1 h2 => ?_) (fun h1 h2 => ?_) w hrow hli
    · rcases hc2 with ⟨_, h3⟩ | ⟨h3, _⟩
      · exact h3
      · exact absurd h3 h
    · rcases hc2 with ⟨h3, _⟩ | ⟨_, ⟨_, h3⟩ | ⟨h3, _⟩⟩
      · exact absurd h1 h3
      · exact h3
      · exact absurd h3 h2
    · rcases hc2 with ⟨h3, _⟩ | ⟨_, ⟨h3, _⟩ | ⟨_, h3⟩⟩
      · exact absurd h1 h3
      · exact absurd h2 h3
      · exact h3

end Go.Proofs.Ytokbdgikdlfneaa.Calls72
