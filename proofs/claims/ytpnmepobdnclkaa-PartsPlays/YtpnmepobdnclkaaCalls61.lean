/-
  The document's polynomials: what stands at a place, zeros at the end, sums, products, what makes 1, values; when two lists are the same.
-/
import Derived.Test.YtpnmepobdnclkaaCalls58
namespace Go.Proofs.Ytpnmepobdnclkaa.Calls61
set_option linter.unusedVariables false
open Go.ChangeShapes Go.WideShapes Go.ChangeAt Go.RowKit Go.Deep Go.Proofs.Ytpnmepobdnclkaa.Base Go.Proofs.Ytpnmepobdnclkaa.Base2 Go.Proofs.Ytpnmepobdnclkaa.Num Go.Proofs.Ytpnmepobdnclkaa.Num7 Go.Proofs.Ytpnmepobdnclkaa.Num13 Go.Proofs.Ytpnmepobdnclkaa.Num16 Go.Proofs.Ytpnmepobdnclkaa.Num17 Go.Proofs.Ytpnmepobdnclkaa.Num34 Go.Proofs.Ytpnmepobdnclkaa.Base4 Go.Proofs.Ytpnmepobdnclkaa.Calls56 Go.Proofs.Ytpnmepobdnclkaa.Calls57 Go.Proofs.Ytpnmepobdnclkaa.Calls58
open Go.Proofs.Ytpnmepobdnclkaa.Calls19 (refPow_any refMod_at)

theorem quiet_at {P : Program} {f : FuncId} {args : Array Value} {w : World} {d n : Nat} {v : Value} (h : Calls P f args (w.drewN (d + n)) fun e w' => e = .returned v ∧ w' = w.drewN (d + n)) :
    Calls P f args (w.drewN (d + n)) fun e w'' => e = .returned v ∧ ∃ m, w'' = w.drewN (d + m) := h.mono fun _ _ ⟨he, hm⟩ => ⟨he, n, hm⟩

/-- A row that grows by one number each round. -/
theorem owns_grown_below {W w1 : World} {base : Nat} {e : TypeId} {size : Nat} {v : Value} {k : Nat} {xs : List Value} {tmp : Obj} {w : World} (hB : Below w.heap.size w W) (hb : w.heap.size = base)
    (hown : W.ownsRow base e size v k xs) (hgrow : (W.alloc tmp).grownBy w1 v.ownBlock) : Below w.heap.size w w1 := by
  refine (hB.alloc hB.size tmp).grown hgrow (by have := hB.size; simp; omega) fun j ej => ?_
  rw [hb]
  exact (hown.lt j ej).1

theorem refInv_any (p : Nat) (h1 : 2 ≤ p) (h2 : p ≤ 251) (x : Int) (w : World) :
    Calls Try.prog 23 #[.int .i64 x, .int .i64 (p : Int)] w fun e w' => e = .returned (.int .i64 (iv p x : Int)) ∧ w' = w := by
  have cP := fun w => refPow_any x p (by omega) (by omega) (p - 2 + (p - 1) * (2 / p)) w (by
    have : 2 / p ≤ 1 := by have := Nat.div_le_self 2 p; have h3 : 2 / p ≤ 2 / 2 := Nat.div_le_div_left h1 (by omega); omega
    have h4 : (p - 1) * (2 / p) ≤ (p - 1) * 1 := Nat.mul_le_mul_left _ this
    omega)
  have hE : Hid ((pw x (p - 2 + (p - 1) * (2 / p)) p : Int) = (iv p x : Int)) := rfl
  by_cases e : p = 2
  · subst e
    have e2 : ((2 - 2 + (2 - 1) * (2 / 2) : Nat) : Int) = 1 := rfl
    rw [e2] at cP
    clear e2
    rw [hE.out] at cP
    go_enter Try.func23, Try.ntmps23
    go_wp2_with (go_at_call 38; refine (cP _).mono ?_; rintro e w1 ⟨rfl, hw⟩; subst w1)
    go_ret
    exact ⟨rfl, rfl⟩
  · have e3 : 2 / p = 0 := Nat.div_eq_of_lt (by omega)
    have e2 : ((p - 2 + (p - 1) * (2 / p) : Nat) : Int) = (p : Int) - 2 := by rw [e3, Nat.mul_zero, Nat.add_zero]; omega
    rw [e2] at cP
    rw [hE.out] at cP
    have e4 : (2 : Int) / (p : Int) = 0 := by
      have : ((2 / p : Nat) : Int) = 0 := by rw [e3]; rfl
      simpa using this
    have hp0 : ¬ (p : Int) = 0 := by omega
    clear e2 e3
    go_enter Try.func23, Try.ntmps23
    go_wp2_with (go_at_call 38; refine (cP _).mono ?_; rintro e w1 ⟨rfl, hw⟩; subst w1)
    go_ret
    exact ⟨rfl, rfl⟩

set_option maxRecDepth 100000 in
theorem Longs_same (ao bo : Option Addr) (ca cb : Nat) (l : List Int) (hl : l.length ≤ 9223372036854775807) (w : World) (ra : IRow w ao l) (rb : IRow w bo l) :
    Calls Try.prog 14 #[.slice ao l.length ca, .slice bo l.length cb] w fun e w' => e = .returned (.bool true) ∧ Below w.heap.size w w' := by
  obtain ⟨n, hn⟩ : ∃ n, n = l.length := ⟨_, rfl⟩
  have HN : Hid (n = l.length) := hn
  rw [← hn] at hl ⊢
  clear hn
  go_enter Try.func14, Try.ntmps14
  go_wp2
  go_loopw [5] (fun i wr => ∃ k : Nat, i = .int .i64 (k : Int) ∧ k ≤ n ∧ ∃ d, wr = w.drewN d) (fun i wr => ((n : Int) - intOf i).toNat)
  case atStart => exact ⟨0, rfl, by omega, 0, rfl⟩
  case round =>
    obtain ⟨k, rfl, hk, d, rfl⟩ := hrel
    by_cases hgo : k < n
    · have hgo' : (k : Int) < (n : Int) := by omega
      have hkl : Hid (k < l.length) := by have := HN.out; show k < l.length; omega
      rcases ao with _ | ad
      · exact (irow_none ra hkl.out).elim
      · rcases bo with _ | bd
        · exact (irow_none rb hkl.out).elim
        · have c1 := ra.2 ad rfl k hkl.out
          have c2 := rb.2 bd rfl k hkl.out
          generalize co l k = x at *
          have hxx : (x != x) = false := by simp
          go_wp2
          go_quiet (fail)
          go_wp2
          go_roundw
          case rel => exact ⟨k + 1, by simp, by omega, _, rfl⟩
          case measure => exact measK hgo
    · have hgo' : ¬ (k : Int) < (n : Int) := by omega
      go_wp2
      go_ret
      exact ⟨rfl, below_drewN (Below.refl _ _) _⟩

end Go.Proofs.Ytpnmepobdnclkaa.Calls61
