/-
  A function value handed to IndexFunc and ContainsFunc, over rows of numbers and over numbers; Index of numbers.
-/
import Derived.Test.YtngdhhhdnkkagaaBase5
import Derived.Shelf.Abstract
namespace Go.Proofs.Ytngdhhhdnkkagaa.Calls96
set_option linter.unusedVariables false
open Go.ChangeShapes Go.WideShapes Go.ChangeAt Go.RowKit Go.Deep Go.Proofs.Ytngdhhhdnkkagaa.Base Go.Proofs.Ytngdhhhdnkkagaa.Base2 Go.Proofs.Ytngdhhhdnkkagaa.Num16 Go.Proofs.Ytngdhhhdnkkagaa.Num17 Go.Proofs.Ytngdhhhdnkkagaa.Num34 Go.Proofs.Ytngdhhhdnkkagaa.Base4 Go.Proofs.Ytngdhhhdnkkagaa.Base5

theorem ib {W W' : World} {ao : Option Addr} {l : List Int} (h : IRow W ao l) (hB : Below W.heap.size W W') : IRow W' ao l := irow_below h hB (Nat.le_refl _)

theorem rb {W W' : World} {ao : Option Addr} {L : List (List Int)} (h : RRow W ao L) (hB : Below W.heap.size W W') : RRow W' ao L := rrow_below h hB (Nat.le_refl _)

/-- What IndexFunc answers: a place, or -1. -/
def SeenR (Pq : List Int → Bool) (L : List (List Int)) (e : Ending) : Prop := (∃ k : Nat, (∃ x ∈ L, Pq x = true) ∧ e = .returned (.int .i64 (k : Int))) ∨ ((∀ x ∈ L, Pq x = false) ∧ e = .returned (.int .i64 (-1)))

/-- What the function value answers, of each row, wherever it lies. -/
def AnsR (g : Nat) (cb : Array Value) (Pq : List Int → Bool) (L : List (List Int)) (w : World) : Prop :=
  ∀ l ∈ L, l.length ≤ 9223372036854775807 → ∀ bo c w', Below w.heap.size w w' → IRow w' bo l → l.length ≤ c → Calls Try.prog g (#[.slice bo l.length c] ++ cb) w' fun e w'' => e = .returned (.bool (Pq l)) ∧ Below w'.heap.size w' w''

set_option maxRecDepth 100000 in
theorem idxR_any (g : Nat) (cb : Array Value) (eg : ∀ args w, (callFunc g args).run Try.prog w = .ok (.enter g args) w) (ao : Option Addr) (cap : Nat) (L : List (List Int)) (Pq : List Int → Bool) (hl : L.length ≤ 1048576) (w : World) (hrow : RRow w ao L) (cF : AnsR g cb Pq L w) :
    Calls Try.prog 30 #[.slice ao L.length cap, .func (.func g) #[] cb] w fun e w' => SeenR Pq L e ∧ Below w.heap.size w w' := by
  obtain ⟨N, hN⟩ : ∃ N, N = L.length := ⟨_, rfl⟩
  have HN : Hid (N = L.length) := hN
  rw [← hN] at hl ⊢
  clear hN
  go_enter Try.func30, Try.ntmps30
  go_wp2
  go_loopw [8] (fun i wr => ∃ k : Nat, i = .int .i64 (k : Int) ∧ k ≤ N ∧ Hid (∀ j, j < k → Pq (rw' L j) = false) ∧ Hid (Below w.heap.size w wr)) (fun i wr => ((N : Int) - intOf i).toNat)
  case atStart => exact ⟨0, rfl, by omega, fun j hj => by omega, Below.refl _ _⟩
  case round =>
    obtain ⟨k, rfl, hk, hnot, hB⟩ := hrel
    by_cases hgo : k < N
    · have hgo' : (k : Int) < (N : Int) := by omega
      have hkl : Hid (k < L.length) := by have := HN.out; show k < L.length; omega
      rcases ao with _ | ad
      · exact (rrow_none hrow hkl.out).elim
      · obtain ⟨bo, cc, c, hr, hlc, hlm⟩ := (rb hrow hB.out).2 ad rfl k hkl.out
        have hqm : Hid (rw' L k ∈ L) := rw_mem hkl.out
        have cC := cF _ hqm.out hlm bo cc wr hB.out hr hlc
        obtain ⟨q, hqe⟩ : ∃ q, rw' L k = q := ⟨_, rfl⟩
        rw [hqe] at c hqm cC
        have HE := hid hqe
        clear hqe hr hlc hlm
        generalize q.length = n at *
        cases hb : Pq q with
        | true =>
          rw [hb] at cC
          have HBq := hid hb
          clear hb
          go_wp2_with (go_at_fn g; refine cC.mono ?_; rintro e w1 ⟨rfl, hB1⟩)
          go_ret
          exact ⟨.inl ⟨k, ⟨q, hqm.out, HBq.out⟩, rfl⟩, below_trans hB.out hB1⟩
        | false =>
          rw [hb] at cC
          have HBq : Hid (∀ j, j < k + 1 → Pq (rw' L j) = false) := fun j hj => by
            by_cases e : j = k
            · subst e; rw [HE.out]; exact hb
            · exact hnot.out j (by omega)
          clear hb
          go_wp2_with (go_at_fn g; refine cC.mono ?_; rintro e w1 ⟨rfl, hB1⟩)
          go_roundw
          case rel => exact ⟨k + 1, by simp, by omega, HBq, below_trans hB.out hB1⟩
          case measure => exact measK hgo
    · have hgo' : ¬ (k : Int) < (N : Int) := by omega
      have hm : Hid (∀ q ∈ L, Pq q = false) := fun q hq => by
        obtain ⟨j, hj, e⟩ := rw_of_mem hq
        rw [← e]
        exact hnot.out j (by have := HN.out; omega)
      go_wp2
      go_ret
      exact ⟨.inr ⟨hm.out, rfl⟩, hB.out⟩

theorem conR_any (g : Nat) (cb : Array Value) (eg : ∀ args w, (callFunc g args).run Try.prog w = .ok (.enter g args) w) (ao : Option Addr) (cap : Nat) (L : List (List Int)) (Pq : List Int → Bool) (hl : L.length ≤ 1048576) (b : Bool) (hb : b = true ↔ ∃ x ∈ L, Pq x = true) (w : World) (hrow : RRow w ao L) (cF : AnsR g cb Pq L w) :
    Calls Try.prog 23 #[.slice ao L.length cap, .func (.func g) #[] cb] w fun e w' => e = .returned (.bool b) ∧ Below w.heap.size w w' := by
  have cI := idxR_any g cb eg ao cap L Pq hl w hrow cF
  cases b with
  | true =>
    have cI2 := cI.mono (R' := fun e w1 => (∃ k : Nat, e = .returned (.int .i64 (k : Int))) ∧ Below w.heap.size w w1) (fun e w1 h => ⟨by
      rcases h.1 with ⟨k, _, e⟩ | ⟨h, _⟩
      · exact ⟨k, e⟩
      · obtain ⟨x, h1, h2⟩ := hb.1 rfl
        rw [h x h1] at h2; exact absurd h2 (by decide), h.2⟩)
    clear cI hb hrow cF
    go_enter Try.func23, Try.ntmps23
    go_wp2_with (go_at_call 30; refine cI2.mono ?_; rintro e w1 ⟨⟨k, rfl⟩, hB1⟩)
    go_ret
    exact ⟨rfl, hB1⟩
  | false =>
    have cI2 := cI.mono (R' := fun e w1 => e = .returned (.int .i64 (-1)) ∧ Below w.heap.size w w1) (fun e w1 h => ⟨by
      rcases h.1 with ⟨k, hx, e⟩ | ⟨_, e⟩
      · exact absurd (hb.2 hx) (by decide)
      · exact e, h.2⟩)
    clear cI hb hrow cF
    go_enter Try.func23, Try.ntmps23
    go_wp2_with (go_at_call 30; refine cI2.mono ?_; rintro e w1 ⟨rfl, hB1⟩)
    go_ret
    exact ⟨rfl, hB1⟩

/-! ### over numbers -/

def SeenN (Pq : Int → Bool) (l : List Int) (e : Ending) : Prop := (∃ k : Nat, (∃ x ∈ l, Pq x = true) ∧ e = .returned (.int .i64 (k : Int))) ∨ ((∀ x ∈ l, Pq x = false) ∧ e = .returned (.int .i64 (-1)))

def AnsN (g : Nat) (cb : Array Value) (Pq : Int → Bool) (l : List Int) (w : World) : Prop :=
  ∀ x ∈ l, ∀ w', Below w.heap.size w w' → Calls Try.prog g (#[.int .i64 x] ++ cb) w' fun e w'' => e = .returned (.bool (Pq x)) ∧ Below w'.heap.size w' w''

set_option maxRecDepth 100000 in
theorem idxN_any (g : Nat) (cb : Array Value) (eg : ∀ args w, (callFunc g args).run Try.prog w = .ok (.enter g args) w) (ao : Option Addr) (cap : Nat) (l : List Int) (Pq : Int → Bool) (hl : l.length ≤ 1048576) (w : World) (hrow : IRow w ao l) (cF : AnsN g cb Pq l w) :
    Calls Try.prog 31 #[.slice ao l.length cap, .func (.func g) #[] cb] w fun e w' => SeenN Pq l e ∧ Below w.heap.size w w' := by
  obtain ⟨N, hN⟩ : ∃ N, N = l.length := ⟨_, rfl⟩
  have HN : Hid (N = l.length) := hN
  rw [← hN] at hl ⊢
  clear hN
  go_enter Try.func31, Try.ntmps31
  go_wp2
  go_loopw [8] (fun i wr => ∃ k : Nat, i = .int .i64 (k : Int) ∧ k ≤ N ∧ Hid (∀ j, j < k → Pq (co l j) = false) ∧ Hid (Below w.heap.size w wr)) (fun i wr => ((N : Int) - intOf i).toNat)
  case atStart => exact ⟨0, rfl, by omega, fun j hj => by omega, Below.refl _ _⟩
  case round =>
    obtain ⟨k, rfl, hk, hnot, hB⟩ := hrel
    by_cases hgo : k < N
    · have hgo' : (k : Int) < (N : Int) := by omega
      have hkl : Hid (k < l.length) := by have := HN.out; show k < l.length; omega
      rcases ao with _ | ad
      · exact (irow_none hrow hkl.out).elim
      · have c := (ib hrow hB.out).2 ad rfl k hkl.out
        have hqm : Hid (co l k ∈ l) := co_mem hkl.out
        obtain ⟨q, hqe⟩ : ∃ q, co l k = q := ⟨_, rfl⟩
        rw [hqe] at c hqm
        have HE := hid hqe
        clear hqe
        have cC := cF q hqm.out wr hB.out
        cases hb : Pq q with
        | true =>
          rw [hb] at cC
          have HBq := hid hb
          clear hb
          go_wp2_with (go_at_fn g; refine cC.mono ?_; rintro e w1 ⟨rfl, hB1⟩)
          go_ret
          exact ⟨.inl ⟨k, ⟨q, hqm.out, HBq.out⟩, rfl⟩, below_trans hB.out hB1⟩
        | false =>
          rw [hb] at cC
          have HBq : Hid (∀ j, j < k + 1 → Pq (co l j) = false) := fun j hj => by
            by_cases e : j = k
            · subst e; rw [HE.out]; exact hb
            · exact hnot.out j (by omega)
          clear hb
          go_wp2_with (go_at_fn g; refine cC.mono ?_; rintro e w1 ⟨rfl, hB1⟩)
          go_roundw
          case rel => exact ⟨k + 1, by simp, by omega, HBq, below_trans hB.out hB1⟩
          case measure => exact measK hgo
    · have hgo' : ¬ (k : Int) < (N : Int) := by omega
      have hm : Hid (∀ q ∈ l, Pq q = false) := fun q hq => by
        obtain ⟨j, hj, e⟩ := List.getElem_of_mem hq
        have := hnot.out j (by have := HN.out; omega)
        simpa [co, List.getD, hj, e] using this
      go_wp2
      go_ret
      exact ⟨.inr ⟨hm.out, rfl⟩, hB.out⟩

theorem conN_any (g : Nat) (cb : Array Value) (eg : ∀ args w, (callFunc g args).run Try.prog w = .ok (.enter g args) w) (ao : Option Addr) (cap : Nat) (l : List Int) (Pq : Int → Bool) (hl : l.length ≤ 1048576) (b : Bool) (hb : b = true ↔ ∃ x ∈ l, Pq x = true) (w : World) (hrow : IRow w ao l) (cF : AnsN g cb Pq l w) :
    Calls Try.prog 25 #[.slice ao l.length cap, .func (.func g) #[] cb] w fun e w' => e = .returned (.bool b) ∧ Below w.heap.size w w' := by
  have cI := idxN_any g cb eg ao cap l Pq hl w hrow cF
  cases b with
  | true =>
    have cI2 := cI.mono (R' := fun e w1 => (∃ k : Nat, e = .returned (.int .i64 (k : Int))) ∧ Below w.heap.size w w1) (fun e w1 h => ⟨by
      rcases h.1 with ⟨k, _, e⟩ | ⟨h, _⟩
      · exact ⟨k, e⟩
      · obtain ⟨x, h1, h2⟩ := hb.1 rfl
        rw [h x h1] at h2; exact absurd h2 (by decide), h.2⟩)
    clear cI hb hrow cF
    go_enter Try.func25, Try.ntmps25
    go_wp2_with (go_at_call 31; refine cI2.mono ?_; rintro e w1 ⟨⟨k, rfl⟩, hB1⟩)
    go_ret
    exact ⟨rfl, hB1⟩
  | false =>
    have cI2 := cI.mono (R' := fun e w1 => e = .returned (.int .i64 (-1)) ∧ Below w.heap.size w w1) (fun e w1 h => ⟨by
      rcases h.1 with ⟨k, hx, e⟩ | ⟨_, e⟩
      · exact absurd (hb.2 hx) (by decide)
      · exact e, h.2⟩)
    clear cI hb hrow cF
    go_enter Try.func25, Try.ntmps25
    go_wp2_with (go_at_call 31; refine cI2.mono ?_; rintro e w1 ⟨rfl, hB1⟩)
    go_ret
    exact ⟨rfl, hB1⟩

/-! ### Index -/

/-- The first place of x, or -1. -/
def FstI (x : Int) (l : List Int) (v : Int) : Prop := (∃ k : Nat, k < l.length ∧ co l k = x ∧ (∀ j, j < k → co l j ≠ x) ∧ v = (k : Int)) ∨ ((∀ j, j < l.length → co l j ≠ x) ∧ v = -1)

theorem fstI_ex (x : Int) (l : List Int) : ∃ v, FstI x l v := by
  have H : ∀ n, n ≤ l.length → (∃ k : Nat, k < n ∧ co l k = x ∧ ∀ j, j < k → co l j ≠ x) ∨ (∀ j, j < n → co l j ≠ x) := by
    intro n
    induction n with
    | zero => exact fun _ => .inr (fun j hj => absurd hj (by omega))
    | succ n ih =>
      intro hn
      rcases ih (by omega) with ⟨k, h1, h2, h3⟩ | h
      · exact .inl ⟨k, by omega, h2, h3⟩
      · by_cases e : co l n = x
        · exact .inl ⟨n, by omega, e, h⟩
        · refine .inr (fun j hj => ?_)
          by_cases e2 : j = n
          · subst e2; exact e
          · exact h j (by omega)
  rcases H l.length (Nat.le_refl _) with ⟨k, h1, h2, h3⟩ | h
  · exact ⟨k, .inl ⟨k, h1, h2, h3, rfl⟩⟩
  · exact ⟨-1, .inr ⟨h, rfl⟩⟩

theorem FstI.uniq {x : Int} {l : List Int} {v v' : Int} (h : FstI x l v) (h' : FstI x l v') : v = v' := by
  rcases h with ⟨k, h1, h2, h3, rfl⟩ | ⟨h, rfl⟩ <;> rcases h' with ⟨k', g1, g2, g3, rfl⟩ | ⟨h', rfl⟩
  · rcases Nat.lt_trichotomy k k' with e | e | e
    · exact absurd h2 (g3 k e)
    · rw [e]
    · exact absurd g2 (h3 k' e)
  · exact absurd h2 (h' k h1)
  · exact absurd g2 (h k' g1)
  · rfl

end Go.Proofs.Ytngdhhhdnkkagaa.Calls96
