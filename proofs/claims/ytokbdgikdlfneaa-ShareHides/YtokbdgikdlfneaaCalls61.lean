/-
  The document's polynomials: what stands at a place, zeros at the end, sums, products, what makes 1, values; when two lists are the same.
-/
import Derived.Test.YtokbdgikdlfneaaCalls58
namespace Go.Proofs.Ytokbdgikdlfneaa.Calls61
set_option linter.unusedVariables false
open Go.ChangeShapes Go.WideShapes Go.ChangeAt Go.RowKit Go.Deep Go.Proofs.Ytokbdgikdlfneaa.Base Go.Proofs.Ytokbdgikdlfneaa.Base2 Go.Proofs.Ytokbdgikdlfneaa.Num Go.Proofs.Ytokbdgikdlfneaa.Num7 Go.Proofs.Ytokbdgikdlfneaa.Num13 Go.Proofs.Ytokbdgikdlfneaa.Num16 Go.Proofs.Ytokbdgikdlfneaa.Num17 Go.Proofs.Ytokbdgikdlfneaa.Num34 Go.Proofs.Ytokbdgikdlfneaa.Base4 Go.Proofs.Ytokbdgikdlfneaa.Calls56 Go.Proofs.Ytokbdgikdlfneaa.Calls57 Go.Proofs.Ytokbdgikdlfneaa.Calls58
open Go.Proofs.Ytokbdgikdlfneaa.Calls19 (refPow_any refMod_at)

theorem quiet_at {P : Program} {f : FuncId} {args : Array Value} {w : World} {d n : Nat} {v : Value} (h : Calls P f args (w.drewN (d + n)) fun e w' => e = .returned v ∧ w' = w.drewN (d + n)) :
    Calls P f args (w.drewN (d + n)) fun e w'' => e = .returned v ∧ ∃ m, w'' = w.drewN (d + m) := h.mono fun _ _ ⟨he, hm⟩ => ⟨he, n, hm⟩

/-- A row that grows by one number each round. -/
theorem owns_grown_below {W w1 : World} {base : Nat} {e : TypeId} {size : Nat} {v : Value} {k : Nat} {xs : List Value} {tmp : Obj} {w : World} (hB : Below w.heap.size w W) (hb : w.heap.size = base)
    (hown : W.ownsRow base e size v k xs) (hgrow : (W.alloc tmp).grownBy w1 v.ownBlock) : Below w.heap.size w w1 := by
  refine (hB.alloc hB.size tmp).grown hgrow (by have := hB.size; simp; omega) fun j ej => ?_
  rw [hb]
  exact (hown.lt j ej).1

theorem refInv_any (p : Nat) (h1 : 2 ≤ p) (h2 : p ≤ 251) (x : Int) (w : World) :
    Calls Try.prog 28 #[.int .i64 x, .int .i64 (p : Int)] w fun e w' => e = .returned (.int .i64 (iv p x : Int)) ∧ w' = w := by
  have cP := fun w => refPow_any x p (by omega) (by omega) (p - 2 + (p - 1) * (2 / p)) w (by
    have : 2 / p ≤ 1 := by have := Nat.div_le_self 2 p; have h3 : 2 / p ≤ 2 / 2 := Nat.div_le_div_left h1 (by omega); omega
    have h4 : (p - 1) * (2 / p) ≤ (p - 1) * 1 := Nat.mul_le_mul_left _ this
    omega)
  have hE : Hid ((pw x (p - 2 + (p - 1) * (2 / p)) p : Int) = (iv p x : Int)) := rfl
  by_cases e : p = 2
  · subst e
    have e2 : ((2 - 2 + (2 - 1) * (2 / 2) : Nat) : Int) = 1 := rfl
    rw [e2] at cP
    clear e2
    rw [hE.out] at cP
    go_enter Try.func28, Try.ntmps28
    go_wp2_with (go_at_call 32; refine (cP _).mono ?_; rintro e w1 ⟨rfl, hw⟩; subst w1)
    go_ret
    exact ⟨rfl, rfl⟩
  · have e3 : 2 / p = 0 := Nat.div_eq_of_lt (by omega)
    have e2 : ((p - 2 + (p - 1) * (2 / p) : Nat) : Int) = (p : Int) - 2 := by rw [e3, Nat.mul_zero, Nat.add_zero]; omega
    rw [e2] at cP
    rw [hE.out] at cP
    have e4 : (2 : Int) / (p : Int) = 0 := by
      have : ((2 / p : Nat) : Int) = 0 := by rw [e3]; rfl
      simpa using this
    have hp0 : ¬ (p : Int) = 0 := by omega
    clear e2 e3
    go_enter Try.func28, Try.ntmps28
    go_wp2_with (go_at_call 32; refine (cP _).mono ?_; rintro e w1 ⟨rfl, hw⟩; subst w1)
    go_ret
    exact ⟨rfl, rfl⟩

set_option maxRecDepth 100000 in
theorem Longs_same (ao bo : Option Addr) (ca cb : Nat) (l : List Int) (hl : l.length ≤ 9223372036854775807) (w : World) (ra : IRow w ao l) (rb : IRow w bo l) :
    Calls Try.prog 19 #[.slice ao l.length ca, .slice bo l.length cb] w fun e w' => e = .returned (.bool true) ∧ Below w.heap.size w w' := by
  obtain ⟨n, hn⟩ : ∃ n, n = l.length := ⟨_, rfl⟩
  have HN : Hid (n = l.length) := hn
  rw [← hn] at hl ⊢
  clear hn
  go_enter Try.func19, Try.ntmps19
  go_wp2
  go_loopw [5] (fun i wr => ∃ k : Nat, i = .int .i64 (k : Int) ∧ k ≤ n ∧ ∃ d, wr = w.drewN d) (fun i wr => ((n : Int) - intOf i).toNat)
  case atStart => exact ⟨0, rfl, by omega, 0, rfl⟩
  case round =>
    obtain ⟨k, rfl, hk, d, rfl⟩ := hrel
    by_cases hgo : k < n
    · have hgo' : (k : Int) < (n : Int) := by omega
      have hkl : Hid (k < l.length) := by have := HN.out; show k < l.length; omega
      rcases ao with _ | ad
      · exact (irow_none ra hkl.out).elim
      · rcases bo with _ | bd
        · exact (irow_none rb hkl.out).elim
        · have c1 := ra.2 ad rfl k hkl.out
          have c2 := rb.2 bd rfl k hkl.out
          generalize co l k = x at *
          have hxx : (x != x) = false := by simp
          go_wp2
          go_quiet (fail)
          go_wp2
          go_roundw
          case rel => exact ⟨k + 1, by simp, by omega, _, rfl⟩
          case measure => exact measK hgo
    · have hgo' : ¬ (k : Int) < (n : Int) := by omega
      go_wp2
      go_ret
      exact ⟨rfl, below_drewN (Below.refl _ _) _⟩

set_option maxRecDepth 100000 in
theorem refValue_any (p : Nat) (hp1 : 1 ≤ p) (hp : p ≤ 251) (ao : Option Addr) (ca : Nat) (a : List Int) (x : Int) (ha : Bd p a) (hla : a.length ≤ 4096) (w : World) (ra : IRow w ao a) :
    Calls Try.prog 17 #[.int .i64 (p : Int), .slice ao a.length ca, .int .i64 x] w fun e w' => e = .returned (.int .i64 (rs (ev a x) p : Int)) ∧ Below w.heap.size w w' := by
  obtain ⟨n, hn⟩ : ∃ n, n = a.length := ⟨_, rfl⟩
  have HN : Hid (n = a.length) := hn
  have HA := hid ha
  have hp0 : ¬ (p : Int) = 0 := by omega
  have cP := fun (k : Nat) (hk : k ≤ 4096) w => refPow_any x p hp1 (by omega) k w (by omega)
  have hdone : Hid (vl p a x n = (rs (ev a x) p : Int)) := by show _ = _; rw [hn]; exact vl_done hp1 a x
  rw [← hn] at hla ⊢
  clear hn ha
  go_enter Try.func17, Try.ntmps17
  go_wp2
  go_loopw [7, 8] (fun s i wr => ∃ k : Nat, ∃ z : Int, s = .int .i64 z ∧ i = .int .i64 (k : Int) ∧ k ≤ n ∧ Hid (z = vl p a x k) ∧ (0 ≤ z ∧ z < (p : Int)) ∧ ∃ d, wr = w.drewN d) (fun s i wr => ((n : Int) - intOf i).toNat)
  case atStart => exact ⟨0, 0, rfl, rfl, by omega, by show _ = _; rw [vl_zero], ⟨by omega, by omega⟩, 0, rfl⟩
  case round =>
    obtain ⟨k, z, rfl, rfl, hk, hZ, hz, d, rfl⟩ := hrel
    by_cases hgo : k < n
    · have hgo' : (k : Int) < (n : Int) := by omega
      have hkl : Hid (k < a.length) := by have := HN.out; show k < a.length; omega
      rcases ao with _ | ad
      · exact (irow_none ra hkl.out).elim
      · have c1 := ra.2 ad rfl k hkl.out
        have hx := HA.out.at hp1 k
        have hst := hid (vl_step hp1 a x hkl.out)
        have hzb := hid (vl_bd hp1 a x (k + 1))
        rw [← hZ.out] at hst
        have cP1 := fun w => cP k (by omega) w
        have hq := pw_lt x k hp1
        generalize co a k = y at *
        generalize pw x k p = q at *
        have hm := mul_bd hx (show 0 ≤ (q : Int) ∧ (q : Int) < (p : Int) by omega) hp
        obtain ⟨z2, hz2⟩ : ∃ z2, z2 = vl p a x (k + 1) := ⟨_, rfl⟩
        rw [← hz2] at hst hzb
        have HZ2 := hid hz2
        clear hz2
        go_wp2
        go_quiet ((go_at_call 32; exact quiet_at (cP1 _)))
        go_wp2
        go_roundw
        case rel => exact ⟨k + 1, z2, by rw [← hst.out], by simp, by omega, HZ2, hzb.out, _, rfl⟩
        case measure => exact measK hgo
    · have hgo' : ¬ (k : Int) < (n : Int) := by omega
      obtain rfl : k = n := by omega
      go_wp2
      go_ret
      exact ⟨ret_int (by rw [hZ.out, hdone.out]), below_drewN (Below.refl _ _) _⟩

end Go.Proofs.Ytokbdgikdlfneaa.Calls61
