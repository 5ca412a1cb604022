/-
  Package parts: what is wrong with gates, with t, with what is drawn and with shares.
-/
import Derived.Test.YtpnmepobdnclkaaCalls177
import Derived.Test.YtpnmepobdnclkaaCalls88
import Derived.Shelf.Abstract
namespace Go.Proofs.Ytpnmepobdnclkaa.Calls182
set_option linter.unusedVariables false
open Go.ChangeShapes Go.WideShapes Go.ChangeAt Go.RowKit Go.Deep Go.Proofs.Ytpnmepobdnclkaa.Base Go.Proofs.Ytpnmepobdnclkaa.Base2 Go.Proofs.Ytpnmepobdnclkaa.Num Go.Proofs.Ytpnmepobdnclkaa.Num13 Go.Proofs.Ytpnmepobdnclkaa.Num16 Go.Proofs.Ytpnmepobdnclkaa.Num17 Go.Proofs.Ytpnmepobdnclkaa.Num34 Go.Proofs.Ytpnmepobdnclkaa.Num35 Go.Proofs.Ytpnmepobdnclkaa.Num69 Go.Proofs.Ytpnmepobdnclkaa.Base4 Go.Proofs.Ytpnmepobdnclkaa.Base10 Go.Proofs.Ytpnmepobdnclkaa.Calls56 Go.Proofs.Ytpnmepobdnclkaa.Calls57 Go.Proofs.Ytpnmepobdnclkaa.Calls176 Go.Proofs.Ytpnmepobdnclkaa.Calls177
open Go.Proofs.Ytpnmepobdnclkaa.Calls71 (al)
open Go.Proofs.Ytpnmepobdnclkaa.Calls87 (ib)
open Go.Proofs.Ytpnmepobdnclkaa.Calls88 (outB_no pc_nil irow_first)
open Go.Proofs.Ytpnmepobdnclkaa.Calls90 (InM)

/-! ### a function value handed to ContainsFunc, over numbers of 64 bits -/

def SeenL (Pq : Int → Bool) (l : List Int) (e : Ending) : Prop := (∃ k : Nat, (∃ x ∈ l, Pq x = true) ∧ e = .returned (.int .i64 (k : Int))) ∨ ((∀ x ∈ l, Pq x = false) ∧ e = .returned (.int .i64 (-1)))

def AnsL (g : Nat) (cb : Array Value) (Pq : Int → Bool) (l : List Int) (w : World) : Prop :=
  ∀ x ∈ l, ∀ w', Below w.heap.size w w' → Calls Try.prog g (#[.int .i64 x] ++ cb) w' fun e w'' => e = .returned (.bool (Pq x)) ∧ Below w'.heap.size w' w''

set_option maxRecDepth 100000 in
theorem idxL_any (g : Nat) (cb : Array Value) (eg : ∀ args w, (callFunc g args).run Try.prog w = .ok (.enter g args) w) (ao : Option Addr) (cap : Nat) (l : List Int) (Pq : Int → Bool) (hl : l.length ≤ 9223372036854775807) (w : World) (hrow : IRow w ao l) (cF : AnsL g cb Pq l w) :
    Calls Try.prog 57 #[.slice ao l.length cap, .func (.func g) #[] cb] w fun e w' => SeenL Pq l e ∧ Below w.heap.size w w' := by
  obtain ⟨N, hN⟩ : ∃ N, N = l.length := ⟨_, rfl⟩
  have HN : Hid (N = l.length) := hN
  rw [← hN] at hl ⊢
  clear hN
  go_enter Try.func57, Try.ntmps57
  go_wp2
  go_loopw [8] (fun i wr => ∃ k : Nat, i = .int .i64 (k : Int) ∧ k ≤ N ∧ Hid (∀ j, j < k → Pq (co l j) = false) ∧ Hid (Below w.heap.size w wr)) (fun i wr => ((N : Int) - intOf i).toNat)
  case atStart => exact ⟨0, rfl, by omega, fun j hj => by omega, Below.refl _ _⟩
  case round =>
    obtain ⟨k, rfl, hk, hnot, hB⟩ := hrel
    by_cases hgo : k < N
    · have hgo' : (k : Int) < (N : Int) := by omega
      have hkl : Hid (k < l.length) := by have := HN.out; show k < l.length; omega
      rcases ao with _ | ad
      · exact (irow_none hrow hkl.out).elim
      · have c := (ib hrow hB.out).2 ad rfl k hkl.out
        have hqm : Hid (co l k ∈ l) := co_mem hkl.out
        obtain ⟨q, hqe⟩ : ∃ q, co l k = q := ⟨_, rfl⟩
        rw [hqe] at c hqm
        have HE := hid hqe
        clear hqe
        have cC := cF q hqm.out wr hB.out
        cases hb : Pq q with
        | true =>
          rw [hb] at cC
          have HBq := hid hb
          clear hb
          go_wp2_with (go_at_fn g; refine cC.mono ?_; rintro e w1 ⟨rfl, hB1⟩)
          go_ret
          exact ⟨.inl ⟨k, ⟨q, hqm.out, HBq.out⟩, rfl⟩, below_trans hB.out hB1⟩
        | false =>
          rw [hb] at cC
          have HBq : Hid (∀ j, j < k + 1 → Pq (co l j) = false) := fun j hj => by
            by_cases e : j = k
            · subst e; rw [HE.out]; exact hb
            · exact hnot.out j (by omega)
          clear hb
          go_wp2_with (go_at_fn g; refine cC.mono ?_; rintro e w1 ⟨rfl, hB1⟩)
          go_roundw
          case rel => exact ⟨k + 1, by simp, by omega, HBq, below_trans hB.out hB1⟩
          case measure => exact measK hgo
    · have hgo' : ¬ (k : Int) < (N : Int) := by omega
      have hm : Hid (∀ q ∈ l, Pq q = false) := fun q hq => by
        obtain ⟨j, hj, e⟩ := List.getElem_of_mem hq
        have := hnot.out j (by have := HN.out; omega)
        simpa [co, List.getD, hj, e] using this
      go_wp2
      go_ret
      exact ⟨.inr ⟨hm.out, rfl⟩, hB.out⟩

theorem conL_any (g : Nat) (cb : Array Value) (eg : ∀ args w, (callFunc g args).run Try.prog w = .ok (.enter g args) w) (ao : Option Addr) (cap : Nat) (l : List Int) (Pq : Int → Bool) (hl : l.length ≤ 9223372036854775807) (w : World) (hrow : IRow w ao l) (cF : AnsL g cb Pq l w) :
    Calls Try.prog 44 #[.slice ao l.length cap, .func (.func g) #[] cb] w fun e w' => e = .returned (.bool (l.any Pq)) ∧ Below w.heap.size w w' := by
  have cI := idxL_any g cb eg ao cap l Pq hl w hrow cF
  cases hb : l.any Pq with
  | true =>
    have cI2 := cI.mono (R' := fun e w1 => (∃ k : Nat, e = .returned (.int .i64 (k : Int))) ∧ Below w.heap.size w w1) (fun e w1 h => ⟨by
      rcases h.1 with ⟨k, _, e⟩ | ⟨h, _⟩
      · exact ⟨k, e⟩
      · obtain ⟨x, h1, h2⟩ := List.any_eq_true.1 hb
        rw [h x h1] at h2; exact absurd h2 (by decide), h.2⟩)
    clear cI hb hrow cF
    go_enter Try.func44, Try.ntmps44
    go_wp2_with (go_at_call 57; refine cI2.mono ?_; rintro e w1 ⟨⟨k, rfl⟩, hB1⟩)
    go_ret
    exact ⟨rfl, hB1⟩
  | false =>
    have cI2 := cI.mono (R' := fun e w1 => e = .returned (.int .i64 (-1)) ∧ Below w.heap.size w w1) (fun e w1 h => ⟨by
      rcases h.1 with ⟨k, ⟨x, h1, h2⟩, e⟩ | ⟨_, e⟩
      · have := List.any_eq_true.2 ⟨x, h1, h2⟩
        rw [hb] at this; cases this
      · exact e, h.2⟩)
    clear cI hb hrow cF
    go_enter Try.func44, Try.ntmps44
    go_wp2_with (go_at_call 57; refine cI2.mono ?_; rintro e w1 ⟨rfl, hB1⟩)
    go_ret
    exact ⟨rfl, hB1⟩

/-! ### below -/

theorem ptBelow1_any (A : Nat) (p x : Int) (w : World) (hA : w.cell? ⟨A, 0, none⟩ = some (.int .i64 p)) :
    Calls Try.prog 45 #[.int .i64 x, .pointer (some ⟨A, 0, none⟩)] w fun e w' => e = .returned (.bool (outB p x)) ∧ w' = w := by
  by_cases h : x < 0
  · have e : Hid (outB p x = true) := by show _ = _; unfold outB; rw [decide_eq_true h]; rfl
    go_enter Try.func45, Try.ntmps45
    go_wp2
    go_ret
    exact ⟨ret_bool e.out.symm, rfl⟩
  · have h' : decide (x < 0) = false := by simpa using h
    by_cases h2 : p ≤ x
    · have e : Hid (outB p x = true) := by show _ = _; unfold outB; rw [decide_eq_true h2]; simp
      go_enter Try.func45, Try.ntmps45
      go_wp2
      go_ret
      exact ⟨ret_bool e.out.symm, rfl⟩
    · have h2' : decide (p ≤ x) = false := by simpa using h2
      have e : Hid (outB p x = false) := by show _ = _; unfold outB; rw [decide_eq_false h, decide_eq_false h2]; rfl
      go_enter Try.func45, Try.ntmps45
      go_wp2
      go_ret
      exact ⟨ret_bool e.out.symm, rfl⟩

theorem any_out {p : Int} {l : List Int} : l.any (outB p) = false ↔ InM p l l.length := by
  constructor
  · intro h j hj
    refine outB_no.1 ?_
    have := List.any_eq_false.1 h _ (co_mem hj)
    simpa using this
  · intro h
    refine List.any_eq_false.2 fun x hx => ?_
    obtain ⟨j, hj, e⟩ := List.getElem_of_mem hx
    have h1 := h j hj
    have h2 : co l j = x := by simpa [co, List.getD, hj] using e
    rw [h2] at h1
    rw [outB_no.2 h1]; simp

theorem below_any (b : Int) (ao : Option Addr) (cap : Nat) (l : List Int) (hl : l.length ≤ 9223372036854775807) (c : Bool) (hc : c = true ↔ InM b l l.length) (w : World) (hrow : IRow w ao l) :
    Calls Try.prog 36 #[.int .i64 b, .slice ao l.length cap] w fun e w' => e = .returned (.bool c) ∧ Below w.heap.size w w' := by
  have hB0 : Below w.heap.size w (w.alloc (.cells #[.int .i64 b] 2)) := (Below.refl _ _).alloc (Nat.le_refl _) _
  have hcell : (w.alloc (.cells #[.int .i64 b] 2)).cell? ⟨w.heap.size, 0, none⟩ = some (.int .i64 b) := by
    have h := one_cell (W := w) (t := 2) (a := .int .i64 b) 0 _ rfl
    rwa [zero_add_addr] at h
  have cA : AnsL 45 #[.pointer (some ⟨w.heap.size, 0, none⟩)] (outB b) l (w.alloc (.cells #[.int .i64 b] 2)) := fun x hx w' hB => by
    have h := ptBelow1_any w.heap.size b x w' ((hB.cell (p := ⟨w.heap.size, 0, none⟩) (by rw [World.size_alloc]; show w.heap.size < w.heap.size + 1; omega)).trans hcell)
    refine h.mono ?_
    rintro e w2 ⟨rfl, rfl⟩
    exact ⟨rfl, Below.refl _ _⟩
  have cC := conL_any 45 #[.pointer (some ⟨w.heap.size, 0, none⟩)] (fun args w => rfl) ao cap l (outB b) hl (w.alloc (.cells #[.int .i64 b] 2)) (ib hrow hB0) cA
  obtain ⟨d, hd⟩ : ∃ d, d = l.any (outB b) := ⟨_, rfl⟩
  rw [← hd] at cC
  have hcd : Hid ((!d) = c) := by
    show _ = _
    rw [hd]
    cases hany : l.any (outB b) with
    | true =>
      cases c with
      | true => exact absurd (any_out.2 (hc.1 rfl)) (by rw [hany]; simp)
      | false => rfl
    | false => exact (hc.2 (any_out.1 hany)).symm
  have HB0 := hid hB0
  generalize l.length = n at *
  clear hd hc cA hrow hB0
  go_enter Try.func36, Try.ntmps36
  go_wp2_with (go_at_call 44; refine cC.mono ?_; rintro e w1 ⟨rfl, hB1⟩)
  go_ret
  exact ⟨ret_bool hcd.out, below_trans HB0.out hB1⟩

/-! ### the prime, a gate, all gates -/

theorem checkPrime_any (p c : Int) (hc : PrC p c) (w : World) :
    Calls Try.prog 34 #[.int .i64 p] w fun e w' => e = .returned (.int .i64 c) ∧ Below w.heap.size w w' := by
  have cC := Check_any p none 0 [] (by simp) c (pc_nil hc) w (irow_nil _ _)
  simp only [List.length_nil] at cC
  clear hc
  go_enter Try.func34, Try.ntmps34
  go_wp2_with (go_at_call 43; refine cC.mono ?_; rintro e w1 ⟨rfl, hB⟩)
  go_ret
  exact ⟨rfl, hB⟩

theorem irow_both (W : World) (x y : Int) : IRow (W.alloc (.cells #[.int .i64 x, .int .i64 y] 2)) (some ⟨W.heap.size, 0, none⟩) [x, y] := by
  refine ⟨fun h => (by cases h), fun ad h j hj => ?_⟩
  obtain rfl := (Option.some.inj h).symm
  have h := Go.Proofs.Ytpnmepobdnclkaa.Calls88.pair_cells (W := W) (t := 2) (a := .int .i64 x) (b := .int .i64 y)
  match j, hj with
  | 0, _ => exact h 0 _ rfl
  | 1, _ => exact h 1 _ rfl
  | j + 2, hj => exact absurd hj (by simp)

theorem below_one (b x : Int) (c : Bool) (hc : c = true ↔ 0 ≤ x ∧ x < b) (w0 : World) (k : Nat) (hk : k = w0.heap.size) :
    Calls Try.prog 36 #[.int .i64 b, .slice (some ⟨k, 0, none⟩) 1 1] (w0.alloc (.cells #[.int .i64 x] 2)) fun e w' => e = .returned (.bool c) ∧ Below w0.heap.size w0 w' := by
  subst hk
  refine (below_any b _ 1 [x] (by simp) c ?_ (w0.alloc (.cells #[.int .i64 x] 2)) (irow_first w0 x)).mono ?_
  · rw [hc]
    constructor
    · intro h j hj
      obtain rfl : j = 0 := by simpa using hj
      exact h
    · exact fun h => h 0 (by simp)
  · rintro e w1 ⟨rfl, hB⟩
    exact ⟨rfl, below_trans ((Below.refl _ _).alloc (Nat.le_refl _) _) hB⟩

theorem below_two (b x y : Int) (c : Bool) (hc : c = true ↔ (0 ≤ x ∧ x < b) ∧ 0 ≤ y ∧ y < b) (w0 : World) (k : Nat) (hk : k = w0.heap.size) :
    Calls Try.prog 36 #[.int .i64 b, .slice (some ⟨k, 0, none⟩) 2 2] (w0.alloc (.cells #[.int .i64 x, .int .i64 y] 2)) fun e w' => e = .returned (.bool c) ∧ Below w0.heap.size w0 w' := by
  subst hk
  refine (below_any b _ 2 [x, y] (by simp) c ?_ (w0.alloc (.cells #[.int .i64 x, .int .i64 y] 2)) (irow_both w0 x y)).mono ?_
  · rw [hc]
    constructor
    · intro h j hj
      have : j < 2 := by simpa using hj
      match j, this with
      | 0, _ => exact h.1
      | 1, _ => exact h.2
    · exact fun h => ⟨h 0 (by simp), h 1 (by simp)⟩
  · rintro e w1 ⟨rfl, hB⟩
    exact ⟨rfl, below_trans ((Below.refl _ _).alloc (Nat.le_refl _) _) hB⟩

theorem b_ex (P : Prop) : ∃ c : Bool, (c = true ↔ P) := by
  rcases Classical.em P with h | h
  · exact ⟨true, fun _ => h, fun _ => rfl⟩
  · exact ⟨false, fun e => (by cases e), fun e => absurd e h⟩

set_option maxRecDepth 100000 in
set_option maxHeartbeats 1000000 in
theorem checkGate_any (p x a b y : Int) (i ni : Nat) (w : World) :
    Calls Try.prog 39 #[.int .i64 p, .agg #[.int .i64 x, .int .i64 a, .int .i64 b, .int .i64 y], .int .i64 (i : Int), .int .i64 (ni : Int)] w fun e w' => e = .returned (.int .i64 (gkv p ni i x a b y)) ∧ Below w.heap.size w w' := by
  have hB0 := hid ((Below.refl w.heap.size w).alloc (Nat.le_refl _) (.cells #[.int .i64 x, .int .i64 a, .int .i64 b, .int .i64 y] 54))
  by_cases h1 : x = 1
  · subst h1
    obtain ⟨c, hc⟩ := b_ex (0 ≤ a ∧ a < (ni : Int))
    have cB := below_one (ni : Int) a c hc
    have hv : Hid (gkv p ni i 1 a b y = if c = true then 0 else 3) := by
      show _ = _
      rw [gkv_in]
      by_cases h : 0 ≤ a ∧ a < (ni : Int)
      · rw [if_pos h, if_pos (hc.2 h)]
      · rw [if_neg h, if_neg (fun e => h (hc.1 e))]
    clear hc
    cases c
    all_goals
      go_enter Try.func39, Try.ntmps39
      go_wp2
      go_quiet (fail)
      go_wp2_with (go_at_call 36; refine (cB _ (w.heap.size + 1) (by show _ = (World.alloc _ _).heap.size; rw [World.size_alloc])).mono ?_; rintro e w1 ⟨rfl, hB⟩)
      go_ret
      exact ⟨by rw [hv.out]; rfl, below_trans hB0.out (below_trans (below_drewN (Below.refl _ _) _) hB)⟩
  by_cases h2 : x = 2
  · subst h2
    obtain ⟨c, hc⟩ := b_ex (0 ≤ y ∧ y < p)
    have cB := below_one p y c hc
    have hv : Hid (gkv p ni i 2 a b y = if c = true then 0 else 2) := by
      show _ = _
      rw [gkv_co]
      by_cases h : 0 ≤ y ∧ y < p
      · rw [if_pos h, if_pos (hc.2 h)]
      · rw [if_neg h, if_neg (fun e => h (hc.1 e))]
    clear hc
    cases c
    all_goals
      go_enter Try.func39, Try.ntmps39
      go_wp2
      go_quiet (fail)
      go_wp2_with (go_at_call 36; refine (cB _ (w.heap.size + 1) (by show _ = (World.alloc _ _).heap.size; rw [World.size_alloc])).mono ?_; rintro e w1 ⟨rfl, hB⟩)
      go_ret
      exact ⟨by rw [hv.out]; rfl, below_trans hB0.out (below_trans (below_drewN (Below.refl _ _) _) hB)⟩
  by_cases h3 : x = 3
  · subst h3
    obtain ⟨c, hc⟩ := b_ex ((0 ≤ a ∧ a < (i : Int)) ∧ 0 ≤ b ∧ b < (i : Int))
    have cB := below_two (i : Int) a b c hc
    have hv : Hid (gkv p ni i 3 a b y = if c = true then 0 else 3) := by
      show _ = _
      rw [gkv_add]
      by_cases h : (0 ≤ a ∧ a < (i : Int)) ∧ 0 ≤ b ∧ b < (i : Int)
      · rw [if_pos h, if_pos (hc.2 h)]
      · rw [if_neg h, if_neg (fun e => h (hc.1 e))]
    clear hc
    cases c
    all_goals
      go_enter Try.func39, Try.ntmps39
      go_wp2
      go_quiet (fail)
      go_wp2_with (go_at_call 36; refine (cB _ (w.heap.size + 1) (by show _ = (World.alloc _ _).heap.size; rw [World.size_alloc])).mono ?_; rintro e w1 ⟨rfl, hB⟩)
      go_ret
      exact ⟨by rw [hv.out]; rfl, below_trans hB0.out (below_trans (below_drewN (Below.refl _ _) _) hB)⟩
  by_cases h4 : x = 4
  · subst h4
    obtain ⟨c, hc⟩ := b_ex ((0 ≤ a ∧ a < (i : Int)) ∧ 0 ≤ b ∧ b < (i : Int))
    have cB := below_two (i : Int) a b c hc
    have hv : Hid (gkv p ni i 4 a b y = if c = true then 0 else 3) := by
      show _ = _
      rw [gkv_mul]
      by_cases h : (0 ≤ a ∧ a < (i : Int)) ∧ 0 ≤ b ∧ b < (i : Int)
      · rw [if_pos h, if_pos (hc.2 h)]
      · rw [if_neg h, if_neg (fun e => h (hc.1 e))]
    clear hc
    cases c
    all_goals
      go_enter Try.func39, Try.ntmps39
      go_wp2
      go_quiet (fail)
      go_wp2_with (go_at_call 36; refine (cB _ (w.heap.size + 1) (by show _ = (World.alloc _ _).heap.size; rw [World.size_alloc])).mono ?_; rintro e w1 ⟨rfl, hB⟩)
      go_ret
      exact ⟨by rw [hv.out]; rfl, below_trans hB0.out (below_trans (below_drewN (Below.refl _ _) _) hB)⟩
  · have e1 : (x == 1) = false := by simpa using h1
    have e2 : (x == 2) = false := by simpa using h2
    have e3 : (x == 3) = false := by simpa using h3
    have e4 : (x == 4) = false := by simpa using h4
    have hv : Hid (gkv p ni i x a b y = 6) := gkv_kind (by omega)
    go_enter Try.func39, Try.ntmps39
    go_wp2
    go_quiet (fail)
    go_wp2
    go_ret
    exact ⟨by rw [hv.out]; rfl, below_drewN hB0.out _⟩

theorem check_bad (p : Int) (go lo : Option Addr) (n m cg cl : Nat) (c : Int) (hc : PrC p c) (h0 : c ≠ 0) (w : World) :
    Calls Try.prog 25 #[.int .i64 p, .slice go n cg, .slice lo m cl] w fun e w' => e = .returned (.int .i64 c) ∧ Below w.heap.size w w' := by
  have cP := checkPrime_any p c hc w
  have h1 : (c != 0) = true := by simpa using h0
  have h2 : (c == 0) = false := by simpa using h0
  clear hc
  go_enter Try.func25, Try.ntmps25
  go_wp2_with (go_at_call 34; refine cP.mono ?_; rintro e w1 ⟨rfl, hB⟩)
  go_ret
  exact ⟨rfl, hB⟩

theorem check_long (p : Int) (go lo : Option Addr) (n m cg cl : Nat) (hl : 60 < n ∨ 60 < m) (hc : PrC p 0) (w : World) :
    Calls Try.prog 25 #[.int .i64 p, .slice go n cg, .slice lo m cl] w fun e w' => e = .returned (.int .i64 1) ∧ Below w.heap.size w w' := by
  have cP := checkPrime_any p 0 hc w
  clear hc
  by_cases h1 : 60 < n
  · have hl' : (60 : Int) < (n : Int) := by omega
    go_enter Try.func25, Try.ntmps25
    go_wp2_with (go_at_call 34; refine cP.mono ?_; rintro e w1 ⟨rfl, hB⟩)
    go_ret
    exact ⟨rfl, hB⟩
  · have hl1 : decide ((60 : Int) < (n : Int)) = false := by simp; omega
    have hl2 : (60 : Int) < (m : Int) := by omega
    go_enter Try.func25, Try.ntmps25
    go_wp2_with (go_at_call 34; refine cP.mono ?_; rintro e w1 ⟨rfl, hB⟩)
    go_ret
    exact ⟨rfl, hB⟩

set_option maxRecDepth 100000 in
set_option maxHeartbeats 1000000 in
theorem check_short (p : Int) (go lo : Option Addr) (n cg cl : Nat) (F : Nat → Nat → Int) (l : List Int) (hn : n ≤ 60) (hl : l.length ≤ 60) (hc : PrC p 0) (c : Int) (h2 : ¬ InM p l l.length → c = 2) (h3 : InM p l l.length → c = gks p l.length F n) (w : World) (hrow : IRow w lo l) (hg : GRow w go 4 n F) :
    Calls Try.prog 25 #[.int .i64 p, .slice go n cg, .slice lo l.length cl] w fun e w' => e = .returned (.int .i64 c) ∧ Below w.heap.size w w' := by
  have cP := checkPrime_any p 0 hc w
  obtain ⟨b, hb⟩ := b_ex (InM p l l.length)
  have cO := fun W (hBW : Below w.heap.size w W) => below_any p lo cl l (by omega) b hb W (ib hrow hBW)
  obtain ⟨N, hN⟩ : ∃ N, N = l.length := ⟨_, rfl⟩
  have cG := fun (x a b y : Int) (i : Nat) (w : World) => checkGate_any p x a b y i N w
  have HG := hid hg
  rw [← hN] at hl h2 h3 hb cO ⊢
  have H2 : Hid (b = false → c = 2) := fun e => h2 (fun h => by rw [hb.2 h] at e; cases e)
  have H3 : Hid (b = true → c = gks p N F n) := fun e => h3 (hb.1 e)
  have hl1 : decide ((60 : Int) < (n : Int)) = false := by simp; omega
  have hl2 : decide ((60 : Int) < (N : Int)) = false := by simp; omega
  clear hN h2 h3 hc hrow hg hb
  cases b with
  | false =>
    obtain rfl := H2.out rfl
    go_enter Try.func25, Try.ntmps25
    go_wp2_with (first
      | (go_at_call 34; refine cP.mono ?_; rintro e w1 ⟨rfl, hB⟩)
      | (go_at_call 36; refine (cO _ hB).mono ?_; rintro e w2 ⟨rfl, hB2⟩))
    go_ret
    exact ⟨rfl, below_trans hB hB2⟩
  | true =>
    have H4 := hid (H3.out rfl)
    clear H2 H3
    go_enter Try.func25, Try.ntmps25
    go_wp2_with (first
      | (go_at_call 34; refine cP.mono ?_; rintro e w1 ⟨rfl, hB⟩)
      | (go_at_call 36; refine (cO _ hB).mono ?_; rintro e w2 ⟨rfl, hB2⟩; have HB2 := hid (below_trans hB hB2); clear hB2 hB))
    go_loopw [30] (fun i wr => ∃ j : Nat, i = .int .i64 (j : Int) ∧ j ≤ n ∧ Hid (gks p N F j = 0) ∧ Hid (Below w.heap.size w wr)) (fun i wr => ((n : Int) - intOf i).toNat)
    case atStart => exact ⟨0, rfl, by omega, rfl, HB2.out⟩
    case round =>
      obtain ⟨j, rfl, hj, hK, hBr⟩ := hrel
      by_cases hgj : j < n
      · have hgj' : (j : Int) < (n : Int) := by omega
        rcases go with _ | ad
        · exact (grow_none HG.out hgj).elim
        · obtain ⟨c0, c1, c2, c3⟩ := gcell (gb HG.out hBr.out) hgj
          have hBa := hid (al hBr.out (.cells #[.int .i64 (F j 0), .int .i64 (F j 1), .int .i64 (F j 2), .int .i64 (F j 3)] 54))
          have cK := fun w => cG (F j 0) (F j 1) (F j 2) (F j 3) j w
          obtain ⟨z, hz⟩ : ∃ z, z = gkv p N j (F j 0) (F j 1) (F j 2) (F j 3) := ⟨_, rfl⟩
          rw [← hz] at cK
          have hno : Hid (z ≠ 0 → c = z) := fun hz0 => by
            rw [H4.out, gks_first hK.out (k := j) (n := n) (by show gkv p N j (F j 0) (F j 1) (F j 2) (F j 3) ≠ 0; rw [← hz]; exact hz0) hgj, hz]; rfl
          have hyes : Hid (z = 0 → gks p N F (j + 1) = 0) := fun e => (gks_next hK.out).trans (by show gkv p N j (F j 0) (F j 1) (F j 2) (F j 3) = 0; rw [← hz]; exact e)
          generalize F j 0 = x at *
          generalize F j 1 = a at *
          generalize F j 2 = b at *
          generalize F j 3 = y at *
          clear hz cG
          by_cases hz0 : z = 0
          · subst hz0
            have hK3 := hid (hyes.out rfl)
            clear hno hyes
            go_wp2_with (go_at_call 39; refine (cK _).mono ?_; rintro e w3 ⟨rfl, hB3⟩)
            go_roundw
            case rel => exact ⟨j + 1, by simp, by omega, hK3, below_trans hBa.out hB3⟩
            case measure => exact measK hgj
          · have h1 : (z != 0) = true := by simpa using hz0
            have h2 : (z == 0) = false := by simpa using hz0
            obtain rfl := hno.out hz0
            clear hno hyes
            go_wp2_with (go_at_call 39; refine (cK _).mono ?_; rintro e w3 ⟨rfl, hB3⟩)
            go_ret
            exact ⟨rfl, below_trans hBa.out hB3⟩
      · have hgj' : ¬ (j : Int) < (n : Int) := by omega
        obtain rfl : j = n := by omega
        obtain rfl : c = 0 := by rw [H4.out]; exact hK.out
        go_wp2
        go_ret
        exact ⟨rfl, hBr.out⟩

theorem check_any (p : Int) (go lo : Option Addr) (n cg cl : Nat) (F : Nat → Nat → Int) (l : List Int) (c : Int) (hc : GC p n F l c) (w : World) (hrow : IRow w lo l) (hg : GRow w go 4 n F) :
    Calls Try.prog 25 #[.int .i64 p, .slice go n cg, .slice lo l.length cl] w fun e w' => e = .returned (.int .i64 c) ∧ Below w.heap.size w w' := by
  rcases hc with ⟨hp, h0⟩ | ⟨hp, ⟨h, rfl⟩ | ⟨h1, h⟩⟩
  · exact check_bad p go lo n _ cg cl c hp h0 w
  · exact check_long p go lo n _ cg cl h hp w
  · refine check_short p go lo n cg cl F l h1.1 h1.2 hp c (fun hn => ?_) (fun hy => ?_) w hrow hg
    · rcases h with ⟨_, h⟩ | ⟨h, _⟩
      · exact h
      · exact absurd h hn
    · rcases h with ⟨h, _⟩ | ⟨_, h⟩
      · exact absurd hy h
      · exact h

/-! ### t, and what is drawn -/

set_option maxRecDepth 100000 in
theorem parties_any (t : Int) (h0 : 0 ≤ t) (h1 : t < 9) (w : World) :
    Calls Try.prog 29 #[.int .i64 t] w fun e w' => e = .returned (.int .i64 (2 * t + 1)) ∧ w' = w := by
  go_enter Try.func29, Try.ntmps29
  go_wp2
  go_ret
  exact ⟨rfl, rfl⟩

set_option maxRecDepth 100000 in
theorem canPlay_any (p t : Int) (c : Bool) (hc : c = true ↔ 0 ≤ t ∧ t ≤ 4 ∧ 2 * t + 1 < p) (w : World) :
    Calls Try.prog 35 #[.int .i64 p, .int .i64 t] w fun e w' => e = .returned (.bool c) ∧ w' = w := by
  by_cases t1 : t < 0
  · have t1' : decide (0 ≤ t) = false := by simpa using t1
    obtain rfl : c = false := by cases c; rfl; have := hc.1 rfl; omega
    go_enter Try.func35, Try.ntmps35
    go_wp2
    go_ret
    exact ⟨rfl, rfl⟩
  have t1' : 0 ≤ t := by omega
  by_cases t2 : t < 9
  · have cP := fun w => parties_any t t1' t2 w
    obtain ⟨q, hq⟩ : ∃ q, q = 2 * t + 1 := ⟨_, rfl⟩
    rw [← hq] at cP hc
    by_cases t3 : q ≤ 9
    · by_cases t4 : q < p
      · obtain rfl : c = true := hc.2 (by omega)
        clear hq hc
        go_enter Try.func35, Try.ntmps35
        go_wp2_with (go_at_call 29; refine (cP _).mono ?_; rintro e w1 ⟨rfl, hw⟩; subst w1)
        go_ret
        exact ⟨rfl, rfl⟩
      · have t4' : decide (q < p) = false := by simpa using t4
        obtain rfl : c = false := by cases c; rfl; have := hc.1 rfl; omega
        clear hq hc
        go_enter Try.func35, Try.ntmps35
        go_wp2_with (go_at_call 29; refine (cP _).mono ?_; rintro e w1 ⟨rfl, hw⟩; subst w1)
        go_ret
        exact ⟨rfl, rfl⟩
    · have t3' : decide (q ≤ 9) = false := by simpa using t3
      obtain rfl : c = false := by cases c; rfl; have := hc.1 rfl; omega
      clear hq hc
      go_enter Try.func35, Try.ntmps35
      go_wp2_with (go_at_call 29; refine (cP _).mono ?_; rintro e w1 ⟨rfl, hw⟩; subst w1)
      go_ret
      exact ⟨rfl, rfl⟩
  · have t2' : decide (t < 9) = false := by simpa using t2
    obtain rfl : c = false := by cases c; rfl; have := hc.1 rfl; omega
    go_enter Try.func35, Try.ntmps35
    go_wp2
    go_ret
    exact ⟨rfl, rfl⟩

/-- The code of a play: of gates and inputs, of t, of what is drawn. -/
def PlC (p t : Int) (n : Nat) (F : Nat → Nat → Int) (l R : List Int) (c : Int) : Prop :=
  (GC p n F l c ∧ c ≠ 0) ∨ (GC p n F l 0 ∧ ((((0 ≤ t ∧ t ≤ 4 ∧ 2 * t + 1 < p) ∧ InM p R R.length) ∧ c = 0) ∨ (¬ ((0 ≤ t ∧ t ≤ 4 ∧ 2 * t + 1 < p) ∧ InM p R R.length) ∧ c = 2)))

theorem plc_ex (p t : Int) (n : Nat) (F : Nat → Nat → Int) (l R : List Int) : ∃ c, PlC p t n F l R c := by
  obtain ⟨c, hc⟩ := gc_ex p n F l
  by_cases h0 : c = 0
  · subst h0
    by_cases h : (0 ≤ t ∧ t ≤ 4 ∧ 2 * t + 1 < p) ∧ InM p R R.length
    · exact ⟨0, .inr ⟨hc, .inl ⟨h, rfl⟩⟩⟩
    · exact ⟨2, .inr ⟨hc, .inr ⟨h, rfl⟩⟩⟩
  · exact ⟨c, .inl ⟨hc, h0⟩⟩

theorem PlC.ok {p t : Int} {n : Nat} {F : Nat → Nat → Int} {l R : List Int} (h : PlC p t n F l R 0) : GC p n F l 0 ∧ (0 ≤ t ∧ t ≤ 4 ∧ 2 * t + 1 < p) ∧ InM p R R.length := by
  rcases h with ⟨_, h⟩ | ⟨h1, ⟨h2, _⟩ | ⟨_, h⟩⟩
  · exact absurd rfl h
  · exact ⟨h1, h2⟩
  · omega

set_option maxRecDepth 100000 in
theorem checkPlay_any (p t : Int) (go lo ro : Option Addr) (n cg cl cr : Nat) (F : Nat → Nat → Int) (l R : List Int) (hR : R.length ≤ 9223372036854775807) (c : Int) (hc : PlC p t n F l R c) (w : World) (hrow : IRow w lo l) (hrnd : IRow w ro R) (hg : GRow w go 4 n F) :
    Calls Try.prog 26 #[.int .i64 p, .int .i64 t, .slice go n cg, .slice lo l.length cl, .slice ro R.length cr] w fun e w' => e = .returned (.int .i64 c) ∧ Below w.heap.size w w' := by
  rcases hc with ⟨hp, h0⟩ | ⟨hp, h⟩
  · have cC := check_any p go lo n cg cl F l c hp w hrow hg
    have h1 : (c != 0) = true := by simpa using h0
    have h2 : (c == 0) = false := by simpa using h0
    generalize l.length = nl at *
    generalize R.length = nr at *
    clear hp hrow hrnd hg
    go_enter Try.func26, Try.ntmps26
    go_wp2_with (go_at_call 25; refine cC.mono ?_; rintro e w1 ⟨rfl, hB⟩)
    go_ret
    exact ⟨rfl, hB⟩
  · have cC := check_any p go lo n cg cl F l 0 hp w hrow hg
    obtain ⟨b1, hb1⟩ := b_ex (0 ≤ t ∧ t ≤ 4 ∧ 2 * t + 1 < p)
    obtain ⟨b2, hb2⟩ := b_ex (InM p R R.length)
    have cT := fun w => canPlay_any p t b1 hb1 w
    have cO := fun W (hBW : Below w.heap.size w W) => below_any p ro cr R hR b2 hb2 W (ib hrnd hBW)
    have hv : c = if b1 = true ∧ b2 = true then 0 else 2 := by
      rcases h with ⟨⟨h1, h2⟩, rfl⟩ | ⟨h, rfl⟩
      · rw [if_pos ⟨hb1.2 h1, hb2.2 h2⟩]
      · rw [if_neg (fun e => h ⟨hb1.1 e.1, hb2.1 e.2⟩)]
    generalize l.length = nl at *
    generalize R.length = nr at *
    clear hp h hb1 hb2 hrow hrnd hg
    cases b1 with
    | false =>
      obtain rfl : c = 2 := by rw [hv, if_neg (by simp)]
      clear hv
      go_enter Try.func26, Try.ntmps26
      go_wp2_with (first
        | (go_at_call 25; refine cC.mono ?_; rintro e w1 ⟨rfl, hB⟩)
        | (go_at_call 35; refine (cT _).mono ?_; rintro e w2 ⟨rfl, hw⟩; subst w2))
      go_ret
      exact ⟨rfl, hB⟩
    | true =>
      cases b2 with
      | false =>
        obtain rfl : c = 2 := by rw [hv, if_neg (by simp)]
        clear hv
        go_enter Try.func26, Try.ntmps26
        go_wp2_with (first
          | (go_at_call 25; refine cC.mono ?_; rintro e w1 ⟨rfl, hB⟩)
          | (go_at_call 35; refine (cT _).mono ?_; rintro e w2 ⟨rfl, hw⟩; subst w2)
          | (go_at_call 36; refine (cO _ hB).mono ?_; rintro e w3 ⟨rfl, hB3⟩))
        go_ret
        exact ⟨rfl, below_trans hB hB3⟩
      | true =>
        obtain rfl : c = 0 := by rw [hv, if_pos (by simp)]
        clear hv
        go_enter Try.func26, Try.ntmps26
        go_wp2_with (first
          | (go_at_call 25; refine cC.mono ?_; rintro e w1 ⟨rfl, hB⟩)
          | (go_at_call 35; refine (cT _).mono ?_; rintro e w2 ⟨rfl, hw⟩; subst w2)
          | (go_at_call 36; refine (cO _ hB).mono ?_; rintro e w3 ⟨rfl, hB3⟩))
        go_ret
        exact ⟨rfl, below_trans hB hB3⟩

/-! ### shares -/

/-- The code of shares that are to be opened. -/
def OpC (p t : Int) (l : List Int) (c : Int) : Prop :=
  (PrC p c ∧ c ≠ 0) ∨ (PrC p 0 ∧ ((¬ ((0 ≤ t ∧ t ≤ 4 ∧ 2 * t + 1 < p) ∧ InM p l l.length) ∧ c = 2) ∨ (((0 ≤ t ∧ t ≤ 4 ∧ 2 * t + 1 < p) ∧ InM p l l.length) ∧ (((l.length : Int) ≠ 2 * t + 1 ∧ c = 4) ∨ ((l.length : Int) = 2 * t + 1 ∧ c = 0)))))

theorem opc_ex (p t : Int) (l : List Int) : ∃ c, OpC p t l c := by
  obtain ⟨c, hc⟩ := prc_ex p
  by_cases h0 : c = 0
  · subst h0
    by_cases h : (0 ≤ t ∧ t ≤ 4 ∧ 2 * t + 1 < p) ∧ InM p l l.length
    · by_cases h2 : (l.length : Int) = 2 * t + 1
      · exact ⟨0, .inr ⟨hc, .inr ⟨h, .inr ⟨h2, rfl⟩⟩⟩⟩
      · exact ⟨4, .inr ⟨hc, .inr ⟨h, .inl ⟨h2, rfl⟩⟩⟩⟩
    · exact ⟨2, .inr ⟨hc, .inl ⟨h, rfl⟩⟩⟩
  · exact ⟨c, .inl ⟨hc, h0⟩⟩

theorem OpC.ok {p t : Int} {l : List Int} (h : OpC p t l 0) : PrC p 0 ∧ (0 ≤ t ∧ t ≤ 4 ∧ 2 * t + 1 < p) ∧ InM p l l.length ∧ (l.length : Int) = 2 * t + 1 := by
  rcases h with ⟨_, h⟩ | ⟨h1, ⟨_, h⟩ | ⟨h2, ⟨_, h⟩ | ⟨h3, _⟩⟩⟩
  · exact absurd rfl h
  · omega
  · omega
  · exact ⟨h1, h2.1, h2.2, h3⟩

set_option maxRecDepth 100000 in
set_option maxHeartbeats 1000000 in
theorem checkOpen_any (p t : Int) (lo : Option Addr) (cl : Nat) (l : List Int) (hl : l.length ≤ 9223372036854775807) (c : Int) (hc : OpC p t l c) (w : World) (hrow : IRow w lo l) :
    Calls Try.prog 20 #[.int .i64 p, .int .i64 t, .slice lo l.length cl] w fun e w' => e = .returned (.int .i64 c) ∧ Below w.heap.size w w' := by
  rcases hc with ⟨hp, h0⟩ | ⟨hp, h⟩
  · have cC := checkPrime_any p c hp w
    have h1 : (c != 0) = true := by simpa using h0
    have h2 : (c == 0) = false := by simpa using h0
    generalize l.length = nl at *
    clear hp hrow
    go_enter Try.func20, Try.ntmps20
    go_wp2_with (go_at_call 34; refine cC.mono ?_; rintro e w1 ⟨rfl, hB⟩)
    go_ret
    exact ⟨rfl, hB⟩
  · have cC := checkPrime_any p 0 hp w
    obtain ⟨b1, hb1⟩ := b_ex (0 ≤ t ∧ t ≤ 4 ∧ 2 * t + 1 < p)
    obtain ⟨b2, hb2⟩ := b_ex (InM p l l.length)
    have cT := fun w => canPlay_any p t b1 hb1 w
    have cO := fun W (hBW : Below w.heap.size w W) => below_any p lo cl l hl b2 hb2 W (ib hrow hBW)
    have hv : c = if b1 = true ∧ b2 = true then (if (l.length : Int) = 2 * t + 1 then 0 else 4) else 2 := by
      rcases h with ⟨h, rfl⟩ | ⟨⟨h1, h2⟩, h⟩
      · rw [if_neg (fun e => h ⟨hb1.1 e.1, hb2.1 e.2⟩)]
      · rw [if_pos ⟨hb1.2 h1, hb2.2 h2⟩]
        rcases h with ⟨h, rfl⟩ | ⟨h, rfl⟩
        · rw [if_neg h]
        · rw [if_pos h]
    generalize l.length = nl at *
    clear hp h hb2 hrow
    cases b1 with
    | false =>
      obtain rfl : c = 2 := by rw [hv, if_neg (by simp)]
      clear hv hb1
      go_enter Try.func20, Try.ntmps20
      go_wp2_with (first
        | (go_at_call 34; refine cC.mono ?_; rintro e w1 ⟨rfl, hB⟩)
        | (go_at_call 35; refine (cT _).mono ?_; rintro e w2 ⟨rfl, hw⟩; subst w2))
      go_ret
      exact ⟨rfl, hB⟩
    | true =>
      obtain ⟨t0, t1, _⟩ := hb1.1 rfl
      have cP := fun w => parties_any t t0 (by omega) w
      cases b2 with
      | false =>
        obtain rfl : c = 2 := by rw [hv, if_neg (by simp)]
        clear hv hb1
        go_enter Try.func20, Try.ntmps20
        go_wp2_with (first
          | (go_at_call 34; refine cC.mono ?_; rintro e w1 ⟨rfl, hB⟩)
          | (go_at_call 35; refine (cT _).mono ?_; rintro e w2 ⟨rfl, hw⟩; subst w2)
          | (go_at_call 36; refine (cO _ hB).mono ?_; rintro e w3 ⟨rfl, hB3⟩))
        go_ret
        exact ⟨rfl, below_trans hB hB3⟩
      | true =>
        rw [if_pos (by simp)] at hv
        by_cases hlen : (nl : Int) = 2 * t + 1
        · obtain rfl : c = 0 := by rw [hv, if_pos hlen]
          have hne : ((nl : Int) != 2 * t + 1) = false := by rw [hlen]; simp
          clear hv hb1 hlen
          go_enter Try.func20, Try.ntmps20
          go_wp2_with (first
            | (go_at_call 34; refine cC.mono ?_; rintro e w1 ⟨rfl, hB⟩)
            | (go_at_call 35; refine (cT _).mono ?_; rintro e w2 ⟨rfl, hw⟩; subst w2)
            | (go_at_call 36; refine (cO _ hB).mono ?_; rintro e w3 ⟨rfl, hB3⟩)
            | (go_at_call 29; refine (cP _).mono ?_; rintro e w4 ⟨rfl, hw⟩; subst w4))
          go_ret
          exact ⟨rfl, below_trans hB hB3⟩
        · obtain rfl : c = 4 := by rw [hv, if_neg hlen]
          have hne : ((nl : Int) != 2 * t + 1) = true := by simpa using hlen
          clear hv hb1 hlen
          go_enter Try.func20, Try.ntmps20
          go_wp2_with (first
            | (go_at_call 34; refine cC.mono ?_; rintro e w1 ⟨rfl, hB⟩)
            | (go_at_call 35; refine (cT _).mono ?_; rintro e w2 ⟨rfl, hw⟩; subst w2)
            | (go_at_call 36; refine (cO _ hB).mono ?_; rintro e w3 ⟨rfl, hB3⟩)
            | (go_at_call 29; refine (cP _).mono ?_; rintro e w4 ⟨rfl, hw⟩; subst w4))
          go_ret
          exact ⟨rfl, below_trans hB hB3⟩

end Go.Proofs.Ytpnmepobdnclkaa.Calls182
