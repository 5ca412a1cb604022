/-
  The document's list of the primes of a number, and what Mobius has of it.
-/
import Derived.Test.YtmomlcibiklajaaCalls11
namespace Go.Proofs.Ytmomlcibiklajaa.Calls12
set_option linter.unusedVariables false
open Go.ChangeShapes Go.WideShapes Go.ChangeAt Go.RowKit Go.Proofs.Ytmomlcibiklajaa.Num Go.Proofs.Ytmomlcibiklajaa.Calls7 Go.Proofs.Ytmomlcibiklajaa.Calls8 Go.Proofs.Ytmomlcibiklajaa.Calls9 Go.Proofs.Ytmomlcibiklajaa.Calls11

theorem two_cells {W : World} {t : TypeId} {a b : Value} : ∀ j u, ([a, b] : List Value)[j]? = some u → (W.alloc (.cells #[a, b] t)).cell? ((⟨W.heap.size, 0, none⟩ : Addr).add j) = some u := by
  intro j u hj
  match j, hj with
  | 0, hj =>
    simp at hj; subst hj
    simp [Addr.add]
  | 1, hj =>
    simp at hj; subst hj
    simp [Addr.add]

theorem owns_grown_below {W w1 : World} {base : Nat} {e : TypeId} {size : Nat} {v : Value} {k : Nat} {xs : List Value} {tmp : Obj} {w : World} (hB : Below w.heap.size w W) (hb : w.heap.size = base)
    (hown : W.ownsRow base e size v k xs) (hgrow : (W.alloc tmp).grownBy w1 v.ownBlock) : Below w.heap.size w w1 := by
  refine (hB.alloc hB.size tmp).grown hgrow (by have := hB.size; simp; omega) fun j ej => ?_
  rw [hb]
  exact (hown.lt j ej).1

set_option maxRecDepth 100000 in
set_option maxHeartbeats 1000000 in
theorem refFactor_any (m : Nat) (hm1 : 1 ≤ m) (hm2 : m ≤ 1048576) (w : World) :
    Calls Try.prog 23 #[.int .i64 (m : Int)] w fun e w' => ∃ l v, e = .returned v ∧ Fac m l ∧ w'.ownsRow w.heap.size 52 2 v l.length (flat l) ∧ Below w.heap.size w w' := by
  obtain ⟨i0, hi, hz0, hz1, hz2⟩ := info_parts infoP
  go_enter Try.func23, Try.ntmps23
  go_wp2
  go_loopw [0, 3, 4] (fun r v p wr => ∃ (rr pp : Nat) (pre : List (Nat × Nat)), r = .int .i64 (rr : Int) ∧ p = .int .i64 (pp : Int) ∧ pp ≤ 1048577 ∧ Hid (Trial m pre rr pp) ∧ wr.ownsRow w.heap.size 52 2 v pre.length (flat pre) ∧ Below w.heap.size w wr)
    (fun r v p wr => (1048578 - intOf p).toNat)
  case atStart => exact ⟨m, 2, [], rfl, rfl, by omega, Trial.start hm1, World.ownsRow_nil _ _ _ _, Below.refl _ _⟩
  case round =>
    obtain ⟨rr, pp, pre, rfl, rfl, hpp, hT, hown, hB⟩ := hrel
    have hle := hT.out.le
    have h2 := hT.out.two
    have hp0 : ¬ (pp : Int) = 0 := by omega
    have hlen := hT.out.len hm2
    by_cases hgo : pp ≤ rr
    · have hgo' : (pp : Int) ≤ (rr : Int) := by omega
      by_cases hd : pp ∣ rr
      · have hm0 : ((rr : Int) % (pp : Int)) = 0 := by
          rw [show (rr : Int) % (pp : Int) = ((rr % pp : Nat) : Int) by simp, Nat.mod_eq_zero_of_dvd hd]; rfl
        have hpos := hT.out.pos
        go_wp2
        go_loop [0, 5] (fun r k => ∃ (r' k' : Nat), r = .int .i64 (r' : Int) ∧ k = .int .i64 (k' : Int) ∧ Hid (rr = pp ^ k' * r') ∧ 1 ≤ r' ∧ r' ≤ rr ∧ k' ≤ 20) (fun r k => (intOf r).toNat)
        case atStart => exact ⟨rr, 0, rfl, rfl, by show rr = _; simp, hpos, by omega, by omega⟩
        case round =>
          obtain ⟨r', k', rfl, rfl, e, hr', hr2, hk20⟩ := hrel
          by_cases hd' : pp ∣ r'
          · have hmz := mod_zero_iff r' pp
            rw [decide_eq_true hd'] at hmz
            have hlt : r' / pp < r' := Nat.div_lt_self (by omega) (by omega)
            have hpos' : 1 ≤ r' / pp := Nat.div_pos (Nat.le_of_dvd (by omega) hd') (by omega)
            have e2 : Hid (rr = pp ^ (k' + 1) * (r' / pp)) := by
              show rr = _
              rw [Nat.pow_succ, Nat.mul_assoc, Nat.mul_div_cancel' hd']; exact e.out
            have hk21 := exp_le h2 hpos' e2.out.symm (by omega)
            clear hm0
            go_wp2
            go_round
            case rel => exact ⟨r' / pp, k' + 1, by simp, by simp, e2, hpos', by omega, hk21⟩
            case measure => simp only [intOf]; rw [show (r' : Int) / (pp : Int) = ((r' / pp : Nat) : Int) by simp]; omega
          · have hmz := mod_zero_iff r' pp
            rw [decide_eq_false hd'] at hmz
            have hk1 : 1 ≤ k' := by
              rcases Nat.eq_zero_or_pos k' with e0 | e0
              · have e1 := e.out
                rw [e0, Nat.pow_zero, Nat.one_mul] at e1
                rw [e1] at hd
                exact absurd hd hd'
              · exact e0
            have hT2 : Hid (Trial m (pre ++ [(pp, k')]) r' (pp + 1)) := hT.out.take hk1 e.out hd'
            have hpp3 : pp ≤ 1048576 := by omega
            have hB' := hB.size
            clear hm0 hd hd'
            go_wp2_with (at_builtin; refine wpList_append_own _ rfl _ _ 49 rfl w.heap.size 52 i0 (.agg #[.int .i64 0, .int .i64 0]) 2 16 Try.underlying49 hi hz0 hz1 hz2 rfl (by decide) _ _ _ rfl (hown.alloc _) ⟨wr.heap.size, 0, none⟩ 1 1 [.int .i64 (pp : Int), .int .i64 (k' : Int)] rfl rfl two_cells (by simp [Value.oneCell']) (by unfold maxLen; omega) (by omega) (by simp; omega) ?_; intro v' w1 hown' hgrow _)
            go_roundw
            case rel => exact ⟨r', pp + 1, pre ++ [(pp, k')], rfl, by simp, by omega, hT2, by rw [flat_snoc, List.length_append]; exact hown', owns_grown_below hB rfl hown hgrow⟩
            case measure => exact meas5 hpp3
      · have hm0 : ¬ ((rr : Int) % (pp : Int)) = 0 := by
          rw [show (rr : Int) % (pp : Int) = ((rr % pp : Nat) : Int) by simp]
          have : ¬ rr % pp = 0 := fun h => hd (Nat.dvd_of_mod_eq_zero h)
          omega
        have hT2 : Hid (Trial m pre rr (pp + 1)) := hT.out.skip hd
        have hpp3 : pp ≤ 1048576 := by omega
        clear hd
        go_wp2
        go_roundw
        case rel => exact ⟨rr, pp + 1, pre, rfl, by simp, by omega, hT2, hown, hB⟩
        case measure => exact meas5 hpp3
    · have hgo' : ¬ (pp : Int) ≤ (rr : Int) := by omega
      have e : rr = 1 := by
        have := hT.out.pos
        rcases Nat.lt_or_ge rr 2 with h | h
        · omega
        · exact absurd (Nat.dvd_refl rr) (hT.out.none rr h (by omega))
      subst e
      have hF : Hid (Fac m pre) := hT.out.done1
      go_wp2
      go_ret
      exact ⟨pre, _, rfl, hF.out, hown, hB⟩

theorem mob_one {l : List (Nat × Nat)} (h : ∀ j, j < l.length → (l.getD j (0, 0)).2 ≤ 1) : mob l = if l.length % 2 = 1 then -1 else 1 := by
  unfold mob
  rw [if_neg]
  intro he
  obtain ⟨x, hx, hk⟩ := List.any_eq_true.1 he
  obtain ⟨j, hj, e⟩ := List.getElem_of_mem hx
  have := h j hj
  simp [List.getD, hj, e] at this
  simp at hk
  omega

theorem ints_getD (l : List (Nat × Nat)) (j : Nat) : (ints l).getD j (0, 0) = (((l.getD j (0, 0)).1 : Int), ((l.getD j (0, 0)).2 : Int)) := by
  simp only [ints, List.getD, List.getElem?_map]
  cases l[j]? <;> simp

theorem owns_block {W : World} {base : Nat} {e : TypeId} {size : Nat} {ao : Option Addr} {k cap n : Nat} {xs : List Value} (h : W.ownsRow base e size (.slice ao k cap) n xs) : ∀ ad, ao = some ad → base ≤ ad.block ∧ ad.block < W.heap.size := by
  intro ad e'
  subst e'
  exact h.lt ad.block rfl

end Go.Proofs.Ytmomlcibiklajaa.Calls12
