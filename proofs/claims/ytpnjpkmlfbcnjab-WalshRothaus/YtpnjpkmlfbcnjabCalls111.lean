/-
  The values of a function, and passes over pairs by any pair function.
-/
import Derived.Test.YtpnjpkmlfbcnjabCalls110
import Derived.Test.YtpnjpkmlfbcnjabNum58
import Derived.Shelf.Abstract
import Derived.Deep.RegionWith
namespace Go.Proofs.Ytpnjpkmlfbcnjab.Calls111
set_option linter.unusedVariables false
open Go.ChangeShapes Go.WideShapes Go.ChangeAt Go.RowKit Go.Deep Go.Proofs.Ytpnjpkmlfbcnjab.Base Go.Proofs.Ytpnjpkmlfbcnjab.Base2 Go.Proofs.Ytpnjpkmlfbcnjab.Num34 Go.Proofs.Ytpnjpkmlfbcnjab.Base4 Go.Proofs.Ytpnjpkmlfbcnjab.Base6 Go.Proofs.Ytpnjpkmlfbcnjab.Num41 Go.Proofs.Ytpnjpkmlfbcnjab.Num57 Go.Proofs.Ytpnjpkmlfbcnjab.Num58 Go.Proofs.Ytpnjpkmlfbcnjab.Calls110

/-- The first k values, and 0 behind them. -/
def fst (h : Nat → Int) (k y : Nat) : Int := if y < k then h y else 0

theorem fst_step (h : Nat → Int) (k : Nat) : up1 (fst h k) k (h k) = fst h (k + 1) := by
  funext y
  unfold fst up1
  by_cases e : y = k
  · rw [if_pos e, if_pos (by omega), e]
  · rw [if_neg e]
    show (if y < k then h y else 0) = _
    by_cases e2 : y < k
    · rw [if_pos e2, if_pos (by omega)]
    · rw [if_neg e2, if_neg (by omega)]

theorem and_one32 (a : Nat) (ha : a < 4294967296) : bits .and .u32 (a : Int) 1 = ((a % 2 : Nat) : Int) := by
  have := u32_and_nat a 1 ha (by omega)
  rw [Nat.and_one_is_mod] at this
  exact this

set_option maxRecDepth 100000 in
theorem values_any (f n N : Nat) (hf : f < 4294967296) (hn : n ≤ 5) (hN : N = 2 ^ n) (w : World) :
    Calls Try.prog 11 #[.int .i64 (n : Int), .int .u32 (f : Int)] w fun e w' => e = .returned (.slice (some ⟨w.heap.size, 0, none⟩) N N) ∧ OwnE 3 w' w.heap.size w.heap.size N N (bv f) ∧ Below w.heap.size w w' := by
  obtain ⟨i0, hi, hz0, hz1, hz2⟩ := infoN_ex
  have hNN := pow_n hn hN
  have hP : (2 : Int) ^ n = (N : Int) := by rw [hN]; simp
  clear hN
  go_enter Try.func11, Try.ntmps11
  go_wp2_with (at_make; refine wpList_make_full _ rfl _ _ 30 rfl w.heap.size 3 i0 (.int .i64 0) 1 Try.underlying30 hi hz0 hz1 .i64 .i64 (N : Int) (N : Int) N rfl rfl rfl rfl (by rw [hz2]; omega) (by unfold maxLen; omega) (Nat.le_refl _) ?_; intro w1 hown1 hgrow1)
  have hB1 : Hid (Below w.heap.size w w1) := (Below.refl _ w).grown hgrow1 (Nat.le_refl _) (fun j e => by cases e)
  have O1 : Hid (OwnE 3 w1 w.heap.size w.heap.size N N (fst (bv f) 0)) := (ownE_made hown1).congr (fun i _ => by unfold fst; rw [if_neg (by omega)])
  clear hown1 hgrow1 hi hz0 hz1 hz2
  go_loopw [12] (fun i wr => ∃ k : Nat, i = .int .i64 (k : Int) ∧ k ≤ N ∧ Hid (OwnE 3 wr w.heap.size w.heap.size N N (fst (bv f) k)) ∧ Hid (Below w.heap.size w wr)) (fun i wr => ((N : Int) - intOf i).toNat)
  case atStart => exact ⟨0, rfl, by omega, O1, hB1⟩
  case round =>
    obtain ⟨k, rfl, hk, hO, hB⟩ := hrel
    by_cases hgo : k < N
    · have hgo' : (k : Int) < (N : Int) := by omega
      have hq : (f : Int) / 2 ^ k = ((f / 2 ^ k : Nat) : Int) := by simp
      have hle : f / 2 ^ k ≤ f := Nat.div_le_self _ _
      have ha := and_one32 (f / 2 ^ k) (by omega)
      have hb : f / 2 ^ k % 2 = bt f k := rfl
      rw [hb] at ha
      have hfr := hO.out.frozen k
      have hc := hO.out.cell hgo
      have hO2 := hid (hO.out.set k ((bt f k : Nat) : Int))
      have hB2 := hid (below_set hB.out (Nat.le_refl _) k (.int .i64 ((bt f k : Nat) : Int)))
      have hO3 : Hid (OwnE 3 (wr.setCell ⟨w.heap.size, k, none⟩ (.int .i64 ((bt f k : Nat) : Int))) w.heap.size w.heap.size N N (fst (bv f) (k + 1))) := by
        have := hO2.out
        rw [show ((bt f k : Nat) : Int) = bv f k from rfl, fst_step] at this
        exact this
      have hbl := bt_lt f k
      generalize f / 2 ^ k = d at *
      generalize bt f k = b at *
      clear hb hO2
      go_wp2
      go_roundw
      case rel => exact ⟨k + 1, by simp, by omega, hO3, hB2⟩
      case measure => exact measK hgo
    · have hgo' : ¬ (k : Int) < (N : Int) := by omega
      obtain rfl : k = N := by omega
      go_wp2
      go_ret
      exact ⟨rfl, hO.out.congr (fun i hi => by unfold fst; rw [if_pos hi]), hB.out⟩

/-! ### passes -/

theorem wrap_in (x : Int) (h1 : -9223372036854775808 ≤ x) (h2 : x ≤ 9223372036854775807) : IntKind.i64.wrap x = x := by
  rw [IntKind.wrap_i64]; omega

theorem and_pow : ∀ x : Nat, x < 32 → ∀ k : Nat, k < 5 → bits .and .i64 (x : Int) ((2 ^ k : Nat) : Int) = if x / 2 ^ k % 2 = 0 then 0 else ((2 ^ k : Nat) : Int) := by decide +kernel

/-- What a pair function answers, of values that come. -/
def PairOk (g : Nat) (Q : Int → Prop) (p q : Int → Int → Int) : Prop :=
  ∀ a b : Int, Q a → Q b → ∀ w : World, Calls Try.prog g #[.int .i64 a, .int .i64 b] w fun e w' => e = .returned (.tuple #[.int .i64 (p a b), .int .i64 (q a b)]) ∧ w' = w

/-- Behind k passes. -/
def TnV (p q : Int → Int → Int) (h : Nat → Int) (n N B G : Nat) (w : World) (u : Value) (wr : World) : Prop :=
  ∃ k : Nat, u = .int .i64 ((2 ^ k : Nat) : Int) ∧ k ≤ n ∧ Hid (OwnE 3 wr B G N N (tn p q h k)) ∧ Hid (Below B w wr)

theorem pow_le5 {k n : Nat} (h : k ≤ n) (hn : n ≤ 5) : 1 ≤ 2 ^ k ∧ 2 ^ k ≤ 32 ∧ (k < n ↔ 2 ^ k < 2 ^ n) := by
  refine ⟨Nat.pow_pos (by omega), ?_, ?_⟩
  · exact Nat.le_trans (Nat.pow_le_pow_right (by omega) (by omega)) (show 2 ^ 5 ≤ 32 by decide)
  · exact (Nat.pow_lt_pow_iff_right (by omega)).symm

theorem in_pass {x k n : Nat} (hk : k < n) (hx : x < 2 ^ n) (h : x / 2 ^ k % 2 = 0) : x + 2 ^ k < 2 ^ n := by
  obtain ⟨d, rfl⟩ : ∃ d, n = k + 1 + d := ⟨n - k - 1, by omega⟩
  have hP : 0 < 2 ^ k := Nat.pow_pos (by omega)
  have e : 2 ^ (k + 1 + d) = 2 ^ k * (2 * 2 ^ d) := by rw [Nat.pow_add, Nat.pow_succ, Nat.mul_assoc]
  rw [e] at hx ⊢
  have h1 : x / 2 ^ k < 2 * 2 ^ d := by
    rw [Nat.div_lt_iff_lt_mul hP, Nat.mul_comm]
    exact hx
  have h2 : x / 2 ^ k + 2 ≤ 2 * 2 ^ d := by omega
  have h3 := Nat.mul_le_mul_left (2 ^ k) h2
  have h4 := Nat.div_add_mod x (2 ^ k)
  have h5 := Nat.mod_lt x hP
  rw [Nat.mul_add] at h3
  omega

set_option maxRecDepth 100000 in
set_option maxHeartbeats 1000000 in
theorem turn_any (g : Nat) (Q : Int → Prop) (p q : Int → Int → Int) (eg : ∀ args w, (callFunc g args).run Try.prog w = .ok (.enter g args) w) (hp : PairOk g Q p q) (h : Nat → Int) (n N B G : Nat) (hn : n ≤ 5) (hN : N = 2 ^ n) (hQ : ∀ k x, k < n → Q (tn p q h k x)) (w : World) (hO : OwnE 3 w B G N N h) :
    Calls Try.prog 14 #[.slice (some ⟨G, 0, none⟩) N N, .func (.func g) #[] #[]] w fun e w' => e = .returned (.tuple #[]) ∧ OwnE 3 w' B G N N (tn p q h n) ∧ Below B w w' := by
  have HN := hid hN
  have HQ := hid hQ
  have HP := hid hp
  have HO := hid hO
  have hNN := pow_n hn hN
  clear hN hQ hp hO
  go_enter Try.func14, Try.ntmps14
  go_wp2
  go_loopw [4] (fun u wr => TnV p q h n N B G w u wr) (fun u wr => ((N : Int) - intOf u).toNat)
  case atStart => exact ⟨0, rfl, by omega, HO, Below.refl _ _⟩
  case round =>
    obtain ⟨k, rfl, hk, hO, hB⟩ := hrel
    have hpk := pow_le5 hk hn
    rw [← HN.out] at hpk
    have hand := fun x hx (hkn : k < n) => and_pow x hx k (by omega)
    have hin := fun x (hx : x < N) (hkn : k < n) => in_pass (x := x) hkn (by rw [← HN.out]; exact hx)
    rw [← HN.out] at hin
    have hps : (2 : Int) ^ k = ((2 ^ k : Nat) : Int) := by simp
    have hM := hid (show ∀ x, x / 2 ^ k % 2 = 0 → md p q k (tn p q h k) x x = tn p q h k x ∧ md p q k (tn p q h k) x (x + 2 ^ k) = tn p q h k (x + 2 ^ k) from fun x hx => md_at hx)
    have hMs := hid (show ∀ x, x / 2 ^ k % 2 = 0 → up1 (up1 (md p q k (tn p q h k) x) x (p (tn p q h k x) (tn p q h k (x + 2 ^ k)))) (x + 2 ^ k) (q (tn p q h k x) (tn p q h k (x + 2 ^ k))) = md p q k (tn p q h k) (x + 1) from fun x hx => md_step hx)
    have hMk := hid (show ∀ x, ¬ x / 2 ^ k % 2 = 0 → md p q k (tn p q h k) x = md p q k (tn p q h k) (x + 1) from fun x hx => md_skip hx)
    have hPw := hid (show 2 ^ (k + 1) = 2 ^ k * 2 from Nat.pow_succ 2 k)
    have hM0 := hid (md_start p q k (tn p q h k))
    by_cases hgo : k < n
    · have hlt := hpk.2.2.1 hgo
      obtain ⟨P, hPe⟩ : ∃ P : Nat, P = 2 ^ k := ⟨_, rfl⟩
      simp only [← hPe] at hand hin hM hMs hMk hPw hlt hpk ⊢
      have hlt' : (P : Int) < (N : Int) := by omega
      obtain ⟨W1, hW1⟩ : ∃ W1, W1 = wr := ⟨_, rfl⟩
      rw [← hW1] at hO hB ⊢
      clear hW1 hps hPe
      go_wp2
      go_loopw [14] (fun i wr => ∃ x : Nat, i = .int .i64 (x : Int) ∧ x ≤ N ∧ Hid (OwnE 3 wr B G N N (md p q k (tn p q h k) x)) ∧ Hid (Below B w wr)) (fun i wr => ((N : Int) - intOf i).toNat)
      case atStart => exact ⟨0, rfl, by omega, by show OwnE _ _ _ _ _ _ _; rw [hM0.out]; exact hO.out, hB⟩
      case round =>
        obtain ⟨x, rfl, hx, hO2, hB2⟩ := hrel
        by_cases hgx : x < N
        · have hgx' : (x : Int) < (N : Int) := by omega
          have ha := hand x (by omega) hgo
          by_cases hz : x / P % 2 = 0
          · rw [if_pos hz] at ha
            have hxP := hin x hgx hgo hz
            obtain ⟨e1, e2⟩ := hM.out x hz
            have hs := hMs.out x hz
            have c1 := hO2.out.cell hgx
            have c2 := hO2.out.cell hxP
            rw [e1] at c1
            rw [e2] at c2
            have f1 := hO2.out.frozen x
            have hq1 := HQ.out k x hgo
            have hq2 := HQ.out k (x + P) hgo
            generalize tn p q h k x = a at *
            generalize tn p q h k (x + P) = b at *
            have cP := HP.out a b hq1 hq2
            have hO3 := hid (hO2.out.set x (p a b))
            have hB3 := hid (below_set hB2.out hO2.out.lt.1 x (.int .i64 (p a b)))
            have f2 := hO3.out.frozen (x + P)
            have c3 := hO3.out.cell hxP
            have hO4 := hid (hO3.out.set (x + P) (q a b))
            have hB4 := hid (below_set hB3.out hO3.out.lt.1 (x + P) (.int .i64 (q a b)))
            rw [hs] at hO4
            have q1 : IntKind.i64.wrap ((x : Int) + (P : Int)) = (x : Int) + (P : Int) := wrap_in _ (by omega) (by omega)
            have q4 : (0 : Int) ≤ (x : Int) + (P : Int) := by omega
            have q5 : ((x : Int) + (P : Int)).toNat = x + P := by omega
            have q6 : (0 : Int) ≤ (x : Int) := by omega
            generalize p a b = pa at *
            generalize q a b = qa at *
            clear hM hMs hMk hs e1 e2 hin hand hz
            go_wp2
            go_region_with (go_at_fn g; refine (cP _).mono ?_; rintro e w' ⟨rfl, rfl⟩)
            all_goals
              go_wp2
              go_roundw
              case rel => exact ⟨x + 1, by simp, by omega, hO4, hB4.out.drew⟩
              case measure => exact measK hgx
          · rw [if_neg hz] at ha
            have hs := hMk.out x hz
            have hO3 : Hid (OwnE 3 wr B G N N (md p q k (tn p q h k) (x + 1))) := by rw [← hs]; exact hO2
            have hP0 : ¬ (P : Int) = 0 := by omega
            clear hM hMs hMk hs hin hand hz
            go_wp2
            go_roundw
            case rel => exact ⟨x + 1, by simp, by omega, hO3, hB2⟩
            case measure => exact measK hgx
        · have hgx' : ¬ (x : Int) < (N : Int) := by omega
          obtain rfl : x = N := by omega
          have hO3 : Hid (OwnE 3 wr B G x x (tn p q h (k + 1))) := hO2.out.congr (fun i hi => md_end hi)
          clear hM hMs hMk hin hand
          go_wp2
          go_roundw
          case rel => exact ⟨k + 1, by rw [hPw.out]; simp, by omega, hO3, hB2⟩
          case measure => simp [intOf]; omega
    · have ek : k = n := by omega
      subst ek
      have hlt' : ¬ (((2 ^ k : Nat) : Int)) < (N : Int) := by have := HN.out; omega
      rw [← HN.out] at hlt' ⊢
      clear hM hMs hMk hin hand hps hPw hM0
      go_wp2
      first | go_end0 | refine bodyPost_ret (results_none rfl _ _ _) rfl ?_
      exact ⟨rfl, hO.out, hB.out⟩

end Go.Proofs.Ytpnjpkmlfbcnjab.Calls111
