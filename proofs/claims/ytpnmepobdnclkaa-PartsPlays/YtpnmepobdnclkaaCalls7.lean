/-
  What goes through the primes of a number: primes.powers, and the function value that it answers: each prime power comes once, rising.
-/
import Derived.RangeFuncNested
import Derived.RangeFuncBound
import Derived.RangeFuncCalls
import Derived.RangeFuncLeaves
import Derived.Shelf.Abstract
import Derived.Shelf.RegionOpen
import Derived.WalkKit
import Derived.OwnWalkIn
import Derived.TacticsInMore
import Derived.LoopNIn
import Derived.LoopIn
import Derived.Test.YtpnmepobdnclkaaRows
import Derived.Test.YtpnmepobdnclkaaFoldA
namespace Go.Proofs.Ytpnmepobdnclkaa.Calls7
set_option linter.unusedVariables false
open Go.RowKit Go.Shelf Go.Proofs.Ytpnmepobdnclkaa.Num

attribute [local go_sem] Oper.semAt_some

/-- A prime power as it comes: the bounds that every one keeps. -/
abbrev PK := { x : Nat × Nat // 2 ≤ x.1 ∧ x.1 ≤ 1048576 ∧ 1 ≤ x.2 ∧ x.2 ≤ 20 }

def vals (l : List PK) : List (Nat × Nat) := l.map (·.1)

theorem vals_snoc (l : List PK) (x : PK) : vals (l ++ [x]) = vals l ++ [x.1] := by simp [vals]

theorem vals_length (l : List PK) : (vals l).length = l.length := by simp [vals]

abbrev encP (x : PK) : Value := .agg #[.int .i64 (x.1.1 : Int), .int .i64 (x.1.2 : Int)]

theorem powers_in (F : Fence) (n : Nat) (hf : F.fn 78) (hro : F.round = none) (m : Int) (w : World) :
    CallsIn F n Try.prog 78 #[.int .i64 m] w fun e w' => e = .returned (.func (.func 82) #[] #[.pointer (some ⟨w.heap.size, 0, none⟩)]) ∧ w' = w.alloc (.cells #[.int .i64 m] 2) := by
  refine callsIn_of_wp Try.func78 rfl hf ?_ hro
  simp only [Try.ntmps78, List.size_toArray, List.length_cons, List.length_nil, Nat.reduceAdd, Nat.reduceSub, Array.replicate_succ, Array.replicate_zero, List.push_toArray, List.append_toArray, List.nil_append, List.cons_append]
  gi_wp2
  go_ret
  exact ⟨rfl, rfl⟩

theorem tmod_nat (a b : Nat) : Int.tmod (a : Int) (b : Int) = ((a % b : Nat) : Int) := by
  rw [Int.ofNat_tmod]

theorem tdiv_nat (a b : Nat) : Int.tdiv (a : Int) (b : Int) = ((a / b : Nat) : Int) := by
  rw [Int.ofNat_tdiv]

theorem meas {p : Nat} (h : p ≤ 1024) : (1048577 - ((p : Int) + 1)).toNat < (1048577 - (p : Int)).toNat := by omega

set_option maxRecDepth 100000 in
set_option maxHeartbeats 2000000 in
theorem powers1_in (F : Fence) (n : Nat) (hf : F.fn 82) (hro : F.round = none) (hn : 1 ≤ n) (l Bn m : Nat) (hm1 : 1 ≤ m) (hm2 : m ≤ 1048576) (J Jx : List PK → World → Prop) (Kp : World → World → Prop)
    (hY : ∀ pre x W, J pre W → pre.length < 8 → YieldAt F (n - 1) Try.prog l #[encP x] W fun e W' =>
      (e = .returned (.bool true) ∧ J (pre ++ [x]) W' ∧ Kp W W') ∨ (e = .returned (.bool false) ∧ Jx (pre ++ [x]) W'))
    (W : World) (hBn : W.cell? ⟨Bn, 0, none⟩ = some (.int .i64 (m : Int))) (h0 : J [] W) :
    CallsIn F n Try.prog 82 #[.func (.yield l) #[] #[], .pointer (some ⟨Bn, 0, none⟩)] W fun e W' => (∃ v, e = .returned v) ∧
      ((∃ ys, Fac m (vals ys) ∧ J ys W') ∨ (∃ pre, (∃ rest, Fac m (vals pre ++ rest)) ∧ Jx pre W')) := by
  refine callsIn_of_wp Try.func82 rfl hf ?_ hro
  simp only [Try.ntmps82, List.size_toArray, List.length_cons, List.length_nil, Nat.reduceAdd, Nat.reduceSub, Array.replicate_succ, Array.replicate_zero, List.push_toArray, List.append_toArray, List.nil_append, List.cons_append]
  gi_wp2
  gi_loopw [3, 4] (fun r p wr => ∃ (rr pp : Nat) (pre : List PK), r = .int .i64 (rr : Int) ∧ p = .int .i64 (pp : Int) ∧ pp ≤ 1025 ∧ Trial m (vals pre) rr pp ∧ J pre wr)
    (fun r p wr => (1048577 - intOf p).toNat)
  case atStart =>
    exact ⟨m, 2, [], rfl, rfl, by omega, Trial.start hm1, h0⟩
  case round =>
    obtain ⟨rr, pp, pre, rfl, rfl, hpp, hT, hJ⟩ := hrel
    have hle := hT.le
    have h2 := hT.two
    have hq2 : pp * pp ≤ 1050625 := Nat.mul_le_mul hpp hpp
    have hq2' : (pp : Int) * (pp : Int) ≤ 1050625 := by have h := Int.ofNat_le.2 hq2; rw [Int.natCast_mul] at h; omega
    have hq1' : 0 ≤ (pp : Int) * (pp : Int) := by exact_mod_cast Nat.zero_le (pp * pp)
    have hp0 : ¬ (pp : Int) = 0 := by omega
    by_cases hgo : pp * pp ≤ rr
    · have hgo' : (pp : Int) * (pp : Int) ≤ (rr : Int) := by exact_mod_cast hgo
      have hp1024 : pp ≤ 1024 := by
        by_cases h : pp ≤ 1024
        · exact h
        · have : 1025 * 1025 ≤ pp * pp := Nat.mul_le_mul (by omega) (by omega)
          omega
      gi_wp2
      gi_loop [3, 5] (fun r k => ∃ (r' k' : Nat), r = .int .i64 (r' : Int) ∧ k = .int .i64 (k' : Int) ∧ rr = pp ^ k' * r' ∧ 1 ≤ r')
        (fun r k => (intOf r).toNat)
      case atStart => exact ⟨rr, 0, rfl, rfl, by simp, hT.pos⟩
      case round =>
        obtain ⟨r', k', rfl, rfl, e, hr'⟩ := hrel
        have hk20 := exp_le h2 hr' e.symm (by omega)
        have hr2 : r' ≤ rr := by
          rw [e]; exact Nat.le_mul_of_pos_left r' (Nat.pow_pos (by omega))
        by_cases hd : pp ∣ r'
        · have hm0 : ((r' : Int) % (pp : Int) == 0) = true := by
            rw [show (r' : Int) % (pp : Int) = ((r' % pp : Nat) : Int) by simp, Nat.mod_eq_zero_of_dvd hd]; rfl
          have hle2 : r' / pp ≤ r' := Nat.div_le_self _ _
          have hlt : r' / pp < r' := Nat.div_lt_self (by omega) (by omega)
          have hpos : 1 ≤ r' / pp := Nat.div_pos (Nat.le_of_dvd (by omega) hd) (by omega)
          have e2 : rr = pp ^ (k' + 1) * (r' / pp) := by
            rw [Nat.pow_succ, Nat.mul_assoc, Nat.mul_div_cancel' hd]; exact e
          gi_wp2
          go_round
          case rel => exact ⟨r' / pp, k' + 1, by simp, by simp, e2, hpos⟩
          case measure => simp only [intOf]; rw [show (r' : Int) / (pp : Int) = ((r' / pp : Nat) : Int) by simp]; omega
        · have hm0 : ((r' : Int) % (pp : Int) == 0) = false := by
            rw [show (r' : Int) % (pp : Int) = ((r' % pp : Nat) : Int) by simp]
            have : ¬ r' % pp = 0 := fun h => hd (Nat.dvd_of_mod_eq_zero h)
            simp; omega
          by_cases hk : k' = 0
          · subst hk
            simp at e
            subst e
            have hT2 := hT.skip hd
            gi_wp2
            refine ⟨fun _ h => (by cases h), ?_⟩
            gi_wp2
            go_roundw
            case rel => exact ⟨rr, pp + 1, pre, rfl, by simp, by omega, hT2, hJ⟩
            case measure => exact meas hp1024
          · have hk1 : 1 ≤ k' := by omega
            have hT2 := hT.take hk1 e hd
            have hb : 2 ≤ pp ∧ pp ≤ 1048576 ∧ 1 ≤ k' ∧ k' ≤ 20 := ⟨h2, by omega, hk1, hk20⟩
            have hlen : pre.length < 8 := by have := hT2.len8 hm2; rw [List.length_append, vals_length] at this; simp at this; omega
            obtain ⟨fn, tmps, assign, body, hy, hR⟩ := hY pre ⟨(pp, k'), hb⟩ wr hJ hlen
            dsimp only [encP] at hy
            gi_wp2
            refine hR.mono ?_
            rintro e3 W3 (⟨rfl, hJ3, hk3⟩ | ⟨rfl, hJx3⟩)
            · gi_wp2
              go_roundw
              case rel => exact ⟨r', pp + 1, pre ++ [⟨(pp, k'), hb⟩], rfl, by simp, by omega, by rw [vals_snoc]; exact hT2, hJ3⟩
              case measure => exact meas hp1024
            · gi_wp2
              refine bodyPost_ret (results_none rfl _ _ _) rfl ?_
              exact ⟨⟨_, rfl⟩, .inr ⟨pre ++ [⟨(pp, k'), hb⟩], by rw [vals_snoc]; exact hT2.pre, hJx3⟩⟩
    · have hgo' : ¬ (pp : Int) * (pp : Int) ≤ (rr : Int) := by intro h; exact hgo (by exact_mod_cast h)
      have hlt : rr < pp * pp := by omega
      by_cases hr1 : rr = 1
      · subst hr1
        gi_wp2
        go_end0
        exact ⟨⟨_, rfl⟩, .inl ⟨pre, hT.done1, hJ⟩⟩
      · have hr2 : 2 ≤ rr := by have := hT.pos; omega
        have hF := hT.done hr2 hlt
        have hb : 2 ≤ rr ∧ rr ≤ 1048576 ∧ 1 ≤ 1 ∧ 1 ≤ 20 := ⟨hr2, by omega, by omega, by omega⟩
        have hlen : pre.length < 8 := by have := len8 hF.1 hF.2.1 (by rw [hF.2.2]; exact hm2); rw [List.length_append, vals_length] at this; simp at this; omega
        obtain ⟨fn, tmps, assign, body, hy, hR⟩ := hY pre ⟨(rr, 1), hb⟩ wr hJ hlen
        dsimp only [encP] at hy
        rw [show ((1 : Nat) : Int) = 1 from rfl] at hy
        gi_wp2
        refine hR.mono ?_
        rintro e3 W3 (⟨rfl, hJ3, hk3⟩ | ⟨rfl, hJx3⟩)
        · gi_wp2
          go_end0
          exact ⟨⟨_, rfl⟩, .inl ⟨pre ++ [⟨(rr, 1), hb⟩], by rw [vals_snoc]; exact hF, hJ3⟩⟩
        · gi_wp2
          go_end0
          exact ⟨⟨_, rfl⟩, .inr ⟨pre ++ [⟨(rr, 1), hb⟩], ⟨[], by rw [vals_snoc]; simpa using hF⟩, hJx3⟩⟩

/-- The function value goes through the primes of m, whatever the loop's body does. -/
theorem powers_stops (F : Fence) (n : Nat) (hf : F.fn 82) (hro : F.round = none) (hn : 1 ≤ n) (Bn m : Nat) (hm1 : 1 ≤ m) (hm2 : m ≤ 1048576) (Kp : World → World → Prop) (w : World) (hBn : Bn < w.heap.size)
    (hc : w.cell? ⟨Bn, 0, none⟩ = some (.int .i64 (m : Int))) :
    SeqStopsK F n Try.prog 82 #[.pointer (some ⟨Bn, 0, none⟩)] (fun x : PK => #[encP x]) Kp (fun ys => Fac m (vals ys)) (fun pre => ∃ rest, Fac m (vals pre ++ rest)) 8 w := fun l J Jx W hW _ _ hY h0 =>
  powers1_in F n hf hro hn l Bn m hm1 hm2 J Jx Kp hY W ((hW.cell (p := ⟨Bn, 0, none⟩) hBn).trans hc) h0

end Go.Proofs.Ytpnmepobdnclkaa.Calls7
