/-
  The gates: what is wrong with rounds, as the document says it; and package feistel's Seal.
-/
import Derived.Test.YtngdhhhdnkkagaaCalls104
namespace Go.Proofs.Ytngdhhhdnkkagaa.Calls105
set_option linter.unusedVariables false
open Go.ChangeShapes Go.WideShapes Go.ChangeAt Go.RowKit Go.Deep Go.Proofs.Ytngdhhhdnkkagaa.Base Go.Proofs.Ytngdhhhdnkkagaa.Base2 Go.Proofs.Ytngdhhhdnkkagaa.Num16 Go.Proofs.Ytngdhhhdnkkagaa.Num17 Go.Proofs.Ytngdhhhdnkkagaa.Num34 Go.Proofs.Ytngdhhhdnkkagaa.Num51 Go.Proofs.Ytngdhhhdnkkagaa.Base4 Go.Proofs.Ytngdhhhdnkkagaa.Base5 Go.Proofs.Ytngdhhhdnkkagaa.Calls96 Go.Proofs.Ytngdhhhdnkkagaa.Calls103 Go.Proofs.Ytngdhhhdnkkagaa.Calls104

/-- A number below 0, or above 15. -/
def Far15 (x : Int) : Prop := x < 0 ∨ 16 ≤ x

set_option maxRecDepth 100000 in
set_option maxHeartbeats 2000000 in
theorem refRounds_any (ao : Option Addr) (cap : Nat) (L : List (List Int)) (x c : Int) (hc : FC L x c) (hl : L.length ≤ 9223372036854775807) (w : World) (hrow : RRow w ao L) :
    Calls Try.prog 10 #[.slice ao L.length cap, .int .i64 x] w fun e w' => e = .returned (.int .i64 c) ∧ w' = w := by
  obtain ⟨N, hN⟩ : ∃ N, N = L.length := ⟨_, rfl⟩
  have HN : Hid (N = L.length) := hN
  have HC := hid hc
  have HR := hid hrow
  rw [← hN] at hl ⊢
  clear hN hc hrow
  by_cases hbig : 64 < N
  · have hb' : (64 : Int) < (N : Int) := by omega
    have e : Hid (1 = c) := HC.out.big (by rw [← HN.out]; exact hbig)
    go_enter Try.func10, Try.ntmps10
    go_wp2
    go_ret
    exact ⟨ret_int e.out, rfl⟩
  have hb' : ¬ (64 : Int) < (N : Int) := by omega
  have hnb : Hid (¬ 64 < L.length) := by show ¬ _; rw [← HN.out]; exact hbig
  go_enter Try.func10, Try.ntmps10
  go_wp2
  go_loop [16] (fun i => ∃ k : Nat, i = .int .i64 (k : Int) ∧ k ≤ N ∧ Hid (∀ j, j < k → (rw' L j).length = 16)) (fun i => ((N : Int) - intOf i).toNat)
  case atStart => exact ⟨0, rfl, by omega, fun j hj => by omega⟩
  case round =>
    obtain ⟨k, rfl, hk, hA⟩ := hrel
    by_cases hgo : k < N
    · have hgo' : (k : Int) < (N : Int) := by omega
      have hkl : Hid (k < L.length) := by have := HN.out; show k < L.length; omega
      rcases ao with _ | ad
      · exact (rrow_none HR.out hkl.out).elim
      · obtain ⟨bo, cc, c1, hr, hlc, hlm⟩ := HR.out.2 ad rfl k hkl.out
        obtain ⟨n, hn⟩ : ∃ n, (rw' L k).length = n := ⟨_, rfl⟩
        rw [hn] at c1 hlm
        have HE := hid hn
        clear hn hr hlc
        by_cases hx : n = 16
        · subst hx
          have hA2 : Hid (∀ j, j < k + 1 → (rw' L j).length = 16) := fun j hj => by
            by_cases e : j = k
            · subst e; exact HE.out
            · exact hA.out j (by omega)
          go_wp2
          go_round
          case rel => exact ⟨k + 1, by simp, by omega, hA2⟩
          case measure => exact measK hgo
        · have hx' : ¬ (n : Int) = 16 := by omega
          have e : Hid (4 = c) := HC.out.un hnb.out ⟨_, rw_mem hkl.out, by rw [HE.out]; exact hx⟩
          go_wp2
          go_ret
          exact ⟨ret_int e.out, rfl⟩
    · have hgo' : ¬ (k : Int) < (N : Int) := by omega
      obtain rfl : k = N := by omega
      have hnu : Hid (¬ UnF L) := fun ⟨r, hr, h⟩ => by
        obtain ⟨j, hj, rfl⟩ := rw_of_mem hr
        exact h (hA.out j (by rw [HN.out]; exact hj))
      clear hA hgo hgo' hk
      go_wp2
      go_loop [26] (fun i => ∃ j : Nat, i = .int .i64 (j : Int) ∧ j ≤ k ∧ Hid (∀ i, i < j → ∀ q ∈ rw' L i, ¬ Far15 q)) (fun i => ((k : Int) - intOf i).toNat)
      case atStart => exact ⟨0, rfl, by omega, fun j hj => by omega⟩
      case round =>
        obtain ⟨j, rfl, hj, hA⟩ := hrel
        by_cases hgo2 : j < k
        · have hgo2' : (j : Int) < (k : Int) := by omega
          have hjl : Hid (j < L.length) := by have := HN.out; show j < L.length; omega
          rcases ao with _ | ad
          · exact (rrow_none HR.out hjl.out).elim
          · obtain ⟨bo, cc, c1, hr, hlc, hlm⟩ := HR.out.2 ad rfl j hjl.out
            have hmem := hid (rw_mem hjl.out)
            obtain ⟨r, hr'⟩ : ∃ r, rw' L j = r := ⟨_, rfl⟩
            rw [hr'] at c1 hr hlc hlm hmem
            have HE := hid hr'
            have hl16 : Hid (r.length = 16) := not_un hnu.out hmem.out
            rw [hl16.out] at c1 hlc
            clear hr' hlm
            go_wp2
            go_loop [32] (fun i => ∃ m : Nat, i = .int .i64 (m : Int) ∧ m ≤ 16 ∧ Hid (∀ i, i < m → ¬ Far15 (co r i))) (fun i => (16 - intOf i).toNat)
            case atStart => exact ⟨0, rfl, by omega, fun j hj => by omega⟩
            case round =>
              obtain ⟨m, rfl, hm, hM⟩ := hrel
              by_cases hgo3 : m < 16
              · have hgo3' : (m : Int) < 16 := by omega
                have hml : Hid (m < r.length) := by rw [hl16.out]; exact hgo3
                rcases bo with _ | bd
                · exact (irow_none hr hml.out).elim
                · have c2 := hr.2 bd rfl m hml.out
                  obtain ⟨y, hy⟩ : ∃ y, co r m = y := ⟨_, rfl⟩
                  have hym : Hid (y ∈ r) := by rw [← hy]; exact co_mem hml.out
                  rw [hy] at c2
                  have HY := hid hy
                  clear hy
                  by_cases h1 : y < 0
                  · have e : Hid (2 = c) := HC.out.out hnb.out hnu.out (.inl ⟨r, hmem.out, y, hym.out, .inl h1⟩)
                    go_wp2
                    go_ret
                    exact ⟨ret_int e.out, rfl⟩
                  · have h1' : decide (y < 0) = false := by simpa using h1
                    by_cases h2 : 15 < y
                    · have e : Hid (2 = c) := HC.out.out hnb.out hnu.out (.inl ⟨r, hmem.out, y, hym.out, .inr (by omega)⟩)
                      go_wp2
                      go_ret
                      exact ⟨ret_int e.out, rfl⟩
                    · have h2' : decide (15 < y) = false := by simpa using h2
                      have hM2 : Hid (∀ i, i < m + 1 → ¬ Far15 (co r i)) := fun i hi => by
                        by_cases e : i = m
                        · subst e; rw [HY.out]; unfold Far15; omega
                        · exact hM.out i (by omega)
                      go_wp2
                      go_round
                      case rel => exact ⟨m + 1, by simp, by omega, hM2⟩
                      case measure => simp [intOf]; omega
              · have hgo3' : ¬ (m : Int) < 16 := by omega
                obtain rfl : m = 16 := by omega
                have hA2 : Hid (∀ i, i < j + 1 → ∀ q ∈ rw' L i, ¬ Far15 q) := fun i hi q hq => by
                  by_cases e : i = j
                  · subst e
                    rw [HE.out] at hq
                    obtain ⟨t, ht, e⟩ := List.getElem_of_mem hq
                    have := hM.out t (by rw [← hl16.out]; exact ht)
                    simpa [co, List.getD, ht, e] using this
                  · exact hA.out i (by omega) q hq
                go_wp2
                go_round
                case rel => exact ⟨j + 1, by simp, by omega, hA2⟩
                case measure => exact measK hgo2
        · have hgo2' : ¬ (j : Int) < (k : Int) := by omega
          obtain rfl : j = k := by omega
          have hno : Hid (¬ OutF L) := fun ⟨r, hr, q, hq, h⟩ => by
            obtain ⟨i, hi, rfl⟩ := rw_of_mem hr
            exact hA.out i (by rw [HN.out]; exact hi) q hq h
          clear hA
          by_cases h1 : x < 0
          · have e : Hid (2 = c) := HC.out.out hnb.out hnu.out (.inr (.inl h1))
            go_wp2
            go_ret
            exact ⟨ret_int e.out, rfl⟩
          · have h1' : decide (x < 0) = false := by simpa using h1
            by_cases h2 : 255 < x
            · have e : Hid (2 = c) := HC.out.out hnb.out hnu.out (.inr (.inr (by omega)))
              go_wp2
              go_ret
              exact ⟨ret_int e.out, rfl⟩
            · have h2' : decide (255 < x) = false := by simpa using h2
              have e : Hid (0 = c) := HC.out.fine hnb.out hnu.out (fun h => by
                rcases h with h | h | h
                · exact hno.out h
                · exact h1 h
                · omega)
              go_wp2
              go_ret
              exact ⟨ret_int e.out, rfl⟩

/-- The check with one number beside the rounds: a new block. -/
theorem check1_any (ao : Option Addr) (cap : Nat) (L : List (List Int)) (x c : Int) (hc : FC L x c) (hl : L.length ≤ 9223372036854775807) (w : World) (hrow : RRow w ao L) :
    Calls Try.prog 16 #[.slice ao L.length cap, .slice (some ⟨w.heap.size, 0, none⟩) 1 1] (w.alloc (.cells #[.int .i64 x] 3)) fun e w' => e = .returned (.int .i64 c) ∧ Below w.heap.size w w' := by
  have hB0 : Below w.heap.size w (w.alloc (.cells #[.int .i64 x] 3)) := (Below.refl _ _).alloc (Nat.le_refl _) _
  have hI : IRow (w.alloc (.cells #[.int .i64 x] 3)) (some ⟨w.heap.size, 0, none⟩) [x] := ⟨fun e => (by cases e), fun ad e j hj => by
    obtain rfl : (⟨w.heap.size, 0, none⟩ : Addr) = ad := by simpa using e
    obtain rfl : j = 0 := by simp at hj; omega
    exact (BoxC.new w 3 #[.int .i64 x]).cell 0⟩
  exact (check_any ao (some ⟨w.heap.size, 0, none⟩) cap 1 L [x] x c hc (by simp) hl (by simp) _ (rb hrow hB0) hI).mono (fun e w' h => ⟨h.1, below_trans hB0 h.2⟩)

/-- The check of rounds alone: as with a number that may be. -/
theorem check0_any (ao : Option Addr) (cap : Nat) (L : List (List Int)) (c : Int) (hc : FC L 0 c) (hl : L.length ≤ 9223372036854775807) (w : World) (hrow : RRow w ao L) :
    Calls Try.prog 16 #[.slice ao L.length cap, .slice none 0 0] w fun e w' => e = .returned (.int .i64 c) ∧ Below w.heap.size w w' :=
  check_any ao none cap 0 L [] 0 c hc (by simp) hl (by simp) w hrow (irow_nil _ _)

set_option maxRecDepth 100000 in
theorem Seal_bad (ao : Option Addr) (cap : Nat) (L : List (List Int)) (x c : Int) (hc : FC L x c) (h0 : ¬ c = 0) (hl : L.length ≤ 9223372036854775807) (w : World) (hrow : RRow w ao L) :
    Calls Try.prog 9 #[.slice ao L.length cap, .int .i64 x] w fun e w' => e = .returned (.tuple #[.int .i64 0, .int .i64 c]) ∧ Below w.heap.size w w' := by
  have cC := check1_any ao cap L x c hc hl w hrow
  generalize L.length = N at *
  clear hc hrow
  have h0' : (c != 0) = true := by simpa using h0
  go_enter Try.func9, Try.ntmps9
  go_wp2_with (go_at_call 16; refine cC.mono ?_; rintro e w1 ⟨rfl, hB1⟩)
  go_ret2
  exact ⟨rfl, hB1⟩

set_option maxRecDepth 100000 in
theorem Seal_yes (ao : Option Addr) (cap : Nat) (L : List (List Int)) (hR : Ros L) (hl : L.length ≤ 64) (x : Nat) (hx : x < 256) (w : World) (hrow : RRow w ao L) :
    Calls Try.prog 9 #[.slice ao L.length cap, .int .i64 (x : Int)] w fun e w' => e = .returned (.tuple #[.int .i64 ((sl L x : Nat) : Int), .int .i64 0]) ∧ Below w.heap.size w w' := by
  obtain ⟨c, hc⟩ := FC.ex L (x : Int)
  obtain rfl := hc.ok.2 ⟨hl, hR, by omega, by omega⟩
  have cC := check1_any ao cap L (x : Int) 0 hc (by omega) w hrow
  have cS := fun w1 (hB : Below w.heap.size w w1) => seal_any ao cap L hR hl x hx w1 (rb hrow hB)
  generalize L.length = N at *
  generalize sl L x = y at *
  clear hc hrow
  go_enter Try.func9, Try.ntmps9
  go_wp2_with (first
    | (go_at_call 16; refine cC.mono ?_; rintro e w1 ⟨rfl, hB1⟩; clear cC)
    | (go_at_call 17; refine (cS _ hB1).mono ?_; rintro e w2 ⟨rfl, hB2⟩))
  go_ret2
  exact ⟨rfl, below_trans hB1 hB2⟩

end Go.Proofs.Ytngdhhhdnkkagaa.Calls105
