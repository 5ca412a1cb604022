/-
  The document's polynomials: what stands at a place, zeros at the end, sums, products, what makes 1, values; when two lists are the same.
-/
import Derived.Test.YtjpmkcijkcnfiabCalls58
namespace Go.Proofs.Ytjpmkcijkcnfiab.Calls61
set_option linter.unusedVariables false
open Go.ChangeShapes Go.WideShapes Go.ChangeAt Go.RowKit Go.Deep Go.Proofs.Ytjpmkcijkcnfiab.Base Go.Proofs.Ytjpmkcijkcnfiab.Base2 Go.Proofs.Ytjpmkcijkcnfiab.Num Go.Proofs.Ytjpmkcijkcnfiab.Num7 Go.Proofs.Ytjpmkcijkcnfiab.Num13 Go.Proofs.Ytjpmkcijkcnfiab.Num16 Go.Proofs.Ytjpmkcijkcnfiab.Num17 Go.Proofs.Ytjpmkcijkcnfiab.Num34 Go.Proofs.Ytjpmkcijkcnfiab.Base4 Go.Proofs.Ytjpmkcijkcnfiab.Calls56 Go.Proofs.Ytjpmkcijkcnfiab.Calls57 Go.Proofs.Ytjpmkcijkcnfiab.Calls58
open Go.Proofs.Ytjpmkcijkcnfiab.Calls19 (refPow_any refMod_at)

theorem quiet_at {P : Program} {f : FuncId} {args : Array Value} {w : World} {d n : Nat} {v : Value} (h : Calls P f args (w.drewN (d + n)) fun e w' => e = .returned v ∧ w' = w.drewN (d + n)) :
    Calls P f args (w.drewN (d + n)) fun e w'' => e = .returned v ∧ ∃ m, w'' = w.drewN (d + m) := h.mono fun _ _ ⟨he, hm⟩ => ⟨he, n, hm⟩

theorem refAt_any (ao : Option Addr) (cap : Nat) (l : List Int) (i : Nat) (hl : l.length ≤ 9223372036854775807) (hi : i ≤ 9223372036854775807) (w : World) (hrow : IRow w ao l) :
    Calls Try.prog 54 #[.slice ao l.length cap, .int .i64 (i : Int)] w fun e w' => e = .returned (.int .i64 (co l i)) ∧ w' = w := by
  obtain ⟨n, hn⟩ : ∃ n, n = l.length := ⟨_, rfl⟩
  by_cases h : i < n
  · rcases ao with _ | ad
    · exact (irow_none hrow (j := i) (by omega)).elim
    · have c := hrow.2 ad rfl i (by omega)
      rw [← hn] at hl ⊢
      have h1 : decide ((i : Int) < 0) = false := by simp
      have h2 : decide ((n : Int) ≤ (i : Int)) = false := by simp; omega
      have h3 : (i : Int) < (n : Int) := by omega
      generalize co l i = x at *
      clear hn hrow
      go_enter Try.func54, Try.ntmps54
      go_wp2
      go_ret
      exact ⟨rfl, rfl⟩
  · rw [co_over (by omega)]
    rw [← hn] at hl ⊢
    have h1 : decide ((i : Int) < 0) = false := by simp
    have h2 : (n : Int) ≤ (i : Int) := by omega
    clear hn hrow
    go_enter Try.func54, Try.ntmps54
    go_wp2
    go_ret
    exact ⟨rfl, rfl⟩

set_option maxRecDepth 100000 in
theorem refTrimmed_any (ao : Option Addr) (cap : Nat) (l : List Int) (hm : l.length ≤ 9223372036854775807) (hcap : l.length ≤ cap) (w : World) (hrow : IRow w ao l) :
    Calls Try.prog 57 #[.slice ao l.length cap] w fun e w' => RetL (tr l) e w' ∧ w' = w := by
  obtain ⟨n, hn⟩ : ∃ n, n = l.length := ⟨_, rfl⟩
  have HN : Hid (n = l.length) := hn
  have HR := hid hrow
  rw [← hn] at hm hcap ⊢
  clear hn hrow
  go_enter Try.func57, Try.ntmps57
  go_wp2
  go_loop [3] (fun v => ∃ k : Nat, v = .int .i64 (k : Int) ∧ k ≤ n ∧ Hid (tr (l.take k) = tr l)) (fun v => (intOf v).toNat)
  case atStart => exact ⟨n, rfl, by omega, by show _ = _; rw [HN.out, List.take_of_length_le (Nat.le_refl _)]⟩
  case round =>
    obtain ⟨k, rfl, hk, hT⟩ := hrel
    match k, hk, hT with
    | 0, hk, hT =>
      go_wp2
      all_goals (
        go_ret
        refine ⟨?_, rfl⟩
        have e : tr l = [] := by rw [← hT.out]; simp [tr]
        rw [e]
        exact ⟨_, _, rfl, by simp, irow_nil _ _⟩)
    | m + 1, hk, hT =>
      have hz : Hid (co l m = 0 → tr (l.take (m + 1)) = tr (l.take m)) := fun h0 => tr_take_zero (l := l) (k := m) (by have := HN.out; omega) h0
      have hs : Hid (co l m ≠ 0 → tr (l.take (m + 1)) = l.take (m + 1)) := fun h0 => tr_take_stop (l := l) (k := m + 1) (by have := HN.out; omega) (.inr (by rw [Nat.add_sub_cancel]; exact h0))
      rcases ao with _ | ad
      · exact (irow_none HR.out (j := m) (by have := HN.out; omega)).elim
      · have c := HR.out.2 ad rfl m (by have := HN.out; omega)
        generalize co l m = x at *
        have hmn : (m : Int) < (n : Int) := by omega
        have hmc : (m : Int) + 1 ≤ (cap : Int) := by omega
        by_cases h0 : x = 0
        · subst h0
          have hz2 : Hid (tr (l.take (m + 1)) = tr (l.take m)) := hz.out rfl
          clear hz hs
          go_wp2
          go_round
          case rel => exact ⟨m, by simp, by omega, by show _ = _; rw [← hz2.out, hT.out]⟩
          case measure => simp [intOf]
        · have h0' : (x == 0) = false := by simpa using h0
          have hs2 : Hid (tr (l.take (m + 1)) = l.take (m + 1)) := hs.out h0
          clear hz hs
          go_wp2
          go_ret
          refine ⟨?_, rfl⟩
          have e : tr l = l.take (m + 1) := by rw [← hT.out, hs2.out]
          have el : (l.take (m + 1)).length = m + 1 := by rw [List.length_take]; have := HN.out; omega
          rw [e]
          exact ⟨some ad, cap, by rw [el]; rfl, by rw [el]; omega, irow_take HR.out _⟩

/-- A row that grows by one number each round. -/
theorem owns_grown_below {W w1 : World} {base : Nat} {e : TypeId} {size : Nat} {v : Value} {k : Nat} {xs : List Value} {tmp : Obj} {w : World} (hB : Below w.heap.size w W) (hb : w.heap.size = base)
    (hown : W.ownsRow base e size v k xs) (hgrow : (W.alloc tmp).grownBy w1 v.ownBlock) : Below w.heap.size w w1 := by
  refine (hB.alloc hB.size tmp).grown hgrow (by have := hB.size; simp; omega) fun j ej => ?_
  rw [hb]
  exact (hown.lt j ej).1

theorem refInv_any (p : Nat) (h1 : 2 ≤ p) (h2 : p ≤ 251) (x : Int) (w : World) :
    Calls Try.prog 55 #[.int .i64 x, .int .i64 (p : Int)] w fun e w' => e = .returned (.int .i64 (iv p x : Int)) ∧ w' = w := by
  have cP := fun w => refPow_any x p (by omega) (by omega) (p - 2 + (p - 1) * (2 / p)) w (by
    have : 2 / p ≤ 1 := by have := Nat.div_le_self 2 p; have h3 : 2 / p ≤ 2 / 2 := Nat.div_le_div_left h1 (by omega); omega
    have h4 : (p - 1) * (2 / p) ≤ (p - 1) * 1 := Nat.mul_le_mul_left _ this
    omega)
  have hE : Hid ((pw x (p - 2 + (p - 1) * (2 / p)) p : Int) = (iv p x : Int)) := rfl
  by_cases e : p = 2
  · subst e
    have e2 : ((2 - 2 + (2 - 1) * (2 / 2) : Nat) : Int) = 1 := rfl
    rw [e2] at cP
    clear e2
    rw [hE.out] at cP
    go_enter Try.func55, Try.ntmps55
    go_wp2_with (go_at_call 62; refine (cP _).mono ?_; rintro e w1 ⟨rfl, hw⟩; subst w1)
    go_ret
    exact ⟨rfl, rfl⟩
  · have e3 : 2 / p = 0 := Nat.div_eq_of_lt (by omega)
    have e2 : ((p - 2 + (p - 1) * (2 / p) : Nat) : Int) = (p : Int) - 2 := by rw [e3, Nat.mul_zero, Nat.add_zero]; omega
    rw [e2] at cP
    rw [hE.out] at cP
    have e4 : (2 : Int) / (p : Int) = 0 := by
      have : ((2 / p : Nat) : Int) = 0 := by rw [e3]; rfl
      simpa using this
    have hp0 : ¬ (p : Int) = 0 := by omega
    clear e2 e3
    go_enter Try.func55, Try.ntmps55
    go_wp2_with (go_at_call 62; refine (cP _).mono ?_; rintro e w1 ⟨rfl, hw⟩; subst w1)
    go_ret
    exact ⟨rfl, rfl⟩

end Go.Proofs.Ytjpmkcijkcnfiab.Calls61
