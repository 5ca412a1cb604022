/-
  What is wrong with leafs, or with a place and a proof: package tree's answers and the document's; the place beside one; rows and their number.
-/
import Derived.Test.YthjmmibfgphlhaaCalls133
import Derived.Shelf.Abstract
namespace Go.Proofs.Ythjmmibfgphlhaa.Calls134
set_option linter.unusedVariables false
open Go.ChangeShapes Go.WideShapes Go.ChangeAt Go.RowKit Go.Deep Go.Proofs.Ythjmmibfgphlhaa.Base Go.Proofs.Ythjmmibfgphlhaa.Base2 Go.Proofs.Ythjmmibfgphlhaa.Base7 Go.Proofs.Ythjmmibfgphlhaa.Base8 Go.Proofs.Ythjmmibfgphlhaa.Base9 Go.Proofs.Ythjmmibfgphlhaa.Num55 Go.Proofs.Ythjmmibfgphlhaa.Num60 Go.Proofs.Ythjmmibfgphlhaa.Calls126 Go.Proofs.Ythjmmibfgphlhaa.Calls133

set_option maxRecDepth 100000 in
theorem long_any (o : Option Addr) (n c : Nat) (hn : n ≤ 9223372036854775807) (w : World) :
    Calls Try.prog 42 #[.slice o n c] w fun e w' => e = .returned (.bool (decide (4095 < n))) ∧ w' = w := by
  by_cases h : 4095 < n
  · have h1 : decide ((4095 : Int) < (n : Int)) = true := by simp; omega
    have h2 : (4095 : Int) < (n : Int) := by omega
    rw [decide_eq_true h]
    go_enter Try.func42, Try.ntmps42
    go_wp2
    go_ret
    exact ⟨rfl, rfl⟩
  · have h1 : decide ((4095 : Int) < (n : Int)) = false := by simp; omega
    have h2 : ¬ (4095 : Int) < (n : Int) := by omega
    rw [decide_eq_false h]
    go_enter Try.func42, Try.ntmps42
    go_wp2
    go_ret
    exact ⟨rfl, rfl⟩

set_option maxRecDepth 100000 in
theorem outside_any (n : Nat) (w : World) :
    Calls Try.prog 47 #[.int .u32 (n : Int)] w fun e w' => e = .returned (.bool (decide (65535 < n))) ∧ w' = w := by
  by_cases h : 65535 < n
  · have h2 : (65536 : Int) ≤ (n : Int) := by omega
    have h1 : decide ((65536 : Int) ≤ (n : Int)) = true := decide_eq_true h2
    rw [decide_eq_true h]
    go_enter Try.func47, Try.ntmps47
    go_wp2
    go_ret
    exact ⟨rfl, rfl⟩
  · have h2 : ¬ (65536 : Int) ≤ (n : Int) := by omega
    have h1 : decide ((65536 : Int) ≤ (n : Int)) = false := decide_eq_false h2
    rw [decide_eq_false h]
    go_enter Try.func47, Try.ntmps47
    go_wp2
    go_ret
    exact ⟨rfl, rfl⟩

/-- The place beside. -/
def bsd (i : Nat) : Nat := if i % 2 = 1 then i - 1 else i + 1

theorem xor_one : ∀ i : Nat, i < 64 → bits .xor .i64 (i : Int) 1 = ((bsd i : Nat) : Int) := by decide +kernel

theorem ot_bsd (i k : Nat) : ot i k = bsd (ix i k) := rfl

set_option maxRecDepth 100000 in
theorem beside_any (i : Nat) (h : i < 64) (w : World) :
    Calls Try.prog 31 #[.int .i64 (i : Int)] w fun e w' => e = .returned (.int .i64 ((bsd i : Nat) : Int)) ∧ w' = w := by
  have hx := xor_one i h
  generalize bsd i = b at *
  go_enter Try.func31, Try.ntmps31
  go_wp2
  go_ret
  exact ⟨rfl, rfl⟩

/-! ### over rows of bytes -/

theorem yrb {W W' : World} {ao : Option Addr} {L : List (List Nat)} (h : YRows W ao L) (hB : Below W.heap.size W W') : YRows W' ao L := yrows_below h hB

theorem ub {W W' : World} {ao : Option Addr} {l : List Nat} (h : URow W ao l) (hB : Below W.heap.size W W') : URow W' ao l := urow_below h hB

/-- A leaf that is too long. -/
def LongL (L : List (List Nat)) : Prop := ∃ r ∈ L, 4095 < r.length

def SeenY (L : List (List Nat)) (e : Ending) : Prop := (∃ k : Nat, LongL L ∧ e = .returned (.int .i64 (k : Int))) ∨ (¬ LongL L ∧ e = .returned (.int .i64 (-1)))

set_option maxRecDepth 100000 in
set_option maxHeartbeats 1000000 in
theorem idxLong_any (g : Nat) (eg : ∀ args w, (callFunc g args).run Try.prog w = .ok (.enter g args) w) (cF : ∀ (o : Option Addr) (n c : Nat), n ≤ 9223372036854775807 → ∀ w : World, Calls Try.prog g #[.slice o n c] w fun e w' => e = .returned (.bool (decide (4095 < n))) ∧ w' = w) (ao : Option Addr) (cap : Nat) (L : List (List Nat)) (hl : L.length ≤ 1048576) (w : World) (hrow : YRows w ao L) :
    Calls Try.prog 51 #[.slice ao L.length cap, .func (.func g) #[] #[]] w fun e w' => SeenY L e ∧ w' = w := by
  obtain ⟨N, hN⟩ : ∃ N, N = L.length := ⟨_, rfl⟩
  have HN : Hid (N = L.length) := hN
  have HR := hid hrow
  rw [← hN] at hl ⊢
  clear hN hrow
  go_enter Try.func51, Try.ntmps51
  go_wp2
  go_loop [8] (fun i => ∃ k : Nat, i = .int .i64 (k : Int) ∧ k ≤ N ∧ Hid (∀ j, j < k → ¬ 4095 < (yr L j).length)) (fun i => ((N : Int) - intOf i).toNat)
  case atStart => exact ⟨0, rfl, by omega, fun j hj => by omega⟩
  case round =>
    obtain ⟨k, rfl, hk, hnot⟩ := hrel
    by_cases hgo : k < N
    · have hgo' : (k : Int) < (N : Int) := by omega
      have hkl : Hid (k < L.length) := by have := HN.out; show k < L.length; omega
      rcases ao with _ | ad
      · exact (yrows_none HR.out hkl.out).elim
      · obtain ⟨bo, cc, c, _, _, _, hlm⟩ := HR.out.2 ad rfl k hkl.out
        have hqm : Hid (yr L k ∈ L) := yr_mem hkl.out
        obtain ⟨q, hqe⟩ : ∃ q, yr L k = q := ⟨_, rfl⟩
        rw [hqe] at c hqm hlm
        have HE := hid hqe
        clear hqe
        obtain ⟨n, hn⟩ : ∃ n, q.length = n := ⟨_, rfl⟩
        rw [hn] at c hlm
        have HQ := hid hn
        clear hn
        have cC := cF bo n cc hlm w
        by_cases hb : 4095 < n
        · rw [decide_eq_true hb] at cC
          have hfin : Hid (LongL L) := ⟨q, hqm.out, by rw [HQ.out]; exact hb⟩
          clear hb
          go_wp2_with (go_at_fn g; refine cC.mono ?_; rintro e w1 ⟨rfl, hw⟩; subst w1)
          go_ret
          exact ⟨.inl ⟨k, hfin.out, rfl⟩, rfl⟩
        · rw [decide_eq_false hb] at cC
          have HBq : Hid (∀ j, j < k + 1 → ¬ 4095 < (yr L j).length) := fun j hj => by
            by_cases e : j = k
            · subst e; rw [HE.out, HQ.out]; exact hb
            · exact hnot.out j (by omega)
          clear hb
          go_wp2_with (go_at_fn g; refine cC.mono ?_; rintro e w1 ⟨rfl, hw⟩; subst w1)
          go_round
          case rel => exact ⟨k + 1, by simp, by omega, HBq⟩
          case measure => exact measK hgo
    · have hgo' : ¬ (k : Int) < (N : Int) := by omega
      have hm : Hid (¬ LongL L) := fun ⟨q, hq, hlq⟩ => by
        obtain ⟨j, hj, e⟩ := yr_of_mem hq
        rw [← e] at hlq
        exact hnot.out j (by have := HN.out; omega) hlq
      go_wp2
      go_ret
      exact ⟨.inr ⟨hm.out, rfl⟩, rfl⟩

set_option maxRecDepth 100000 in
theorem conLong_any (ao : Option Addr) (cap : Nat) (L : List (List Nat)) (hl : L.length ≤ 1048576) (b : Bool) (hb : b = true ↔ LongL L) (w : World) (hrow : YRows w ao L) :
    Calls Try.prog 41 #[.slice ao L.length cap, .func (.func 42) #[] #[]] w fun e w' => e = .returned (.bool b) ∧ w' = w := by
  have cI := idxLong_any 42 (enters_of Try.func42 (by decide) rfl) long_any ao cap L hl w hrow
  cases b with
  | true =>
    have cI2 := cI.mono (R' := fun e w1 => (∃ k : Nat, e = .returned (.int .i64 (k : Int))) ∧ w1 = w) (fun e w1 h => ⟨by
      rcases h.1 with ⟨k, _, e⟩ | ⟨h, _⟩
      · exact ⟨k, e⟩
      · exact absurd (hb.1 rfl) h, h.2⟩)
    clear cI hb hrow
    go_enter Try.func41, Try.ntmps41
    go_wp2_with (go_at_call 51; refine cI2.mono ?_; rintro e w1 ⟨⟨k, rfl⟩, hw⟩; subst w1)
    go_ret
    exact ⟨rfl, rfl⟩
  | false =>
    have cI2 := cI.mono (R' := fun e w1 => e = .returned (.int .i64 (-1)) ∧ w1 = w) (fun e w1 h => ⟨by
      rcases h.1 with ⟨k, hx, e⟩ | ⟨_, e⟩
      · exact absurd (hb.2 hx) (by decide)
      · exact e, h.2⟩)
    clear cI hb hrow
    go_enter Try.func41, Try.ntmps41
    go_wp2_with (go_at_call 51; refine cI2.mono ?_; rintro e w1 ⟨rfl, hw⟩; subst w1)
    go_ret
    exact ⟨rfl, rfl⟩

/-- What no node is. -/
def FarP (p : List Nat) : Prop := ∃ x ∈ p, 65535 < x

def SeenU (p : List Nat) (e : Ending) : Prop := (∃ k : Nat, FarP p ∧ e = .returned (.int .i64 (k : Int))) ∨ (¬ FarP p ∧ e = .returned (.int .i64 (-1)))

set_option maxRecDepth 100000 in
set_option maxHeartbeats 1000000 in
theorem idxOut_any (g : Nat) (eg : ∀ args w, (callFunc g args).run Try.prog w = .ok (.enter g args) w) (cF : ∀ (n : Nat) (w : World), Calls Try.prog g #[.int .u32 (n : Int)] w fun e w' => e = .returned (.bool (decide (65535 < n))) ∧ w' = w) (ao : Option Addr) (cap : Nat) (p : List Nat) (hl : p.length ≤ 1048576) (w : World) (hrow : URow w ao p) :
    Calls Try.prog 52 #[.slice ao p.length cap, .func (.func g) #[] #[]] w fun e w' => SeenU p e ∧ w' = w := by
  obtain ⟨N, hN⟩ : ∃ N, N = p.length := ⟨_, rfl⟩
  have HN : Hid (N = p.length) := hN
  have HR := hid hrow
  rw [← hN] at hl ⊢
  clear hN hrow
  go_enter Try.func52, Try.ntmps52
  go_wp2
  go_loop [8] (fun i => ∃ k : Nat, i = .int .i64 (k : Int) ∧ k ≤ N ∧ Hid (∀ j, j < k → ¬ 65535 < yb p j)) (fun i => ((N : Int) - intOf i).toNat)
  case atStart => exact ⟨0, rfl, by omega, fun j hj => by omega⟩
  case round =>
    obtain ⟨k, rfl, hk, hnot⟩ := hrel
    by_cases hgo : k < N
    · have hgo' : (k : Int) < (N : Int) := by omega
      have hkl : Hid (k < p.length) := by have := HN.out; show k < p.length; omega
      rcases ao with _ | ad
      · exact (urow_none HR.out hkl.out).elim
      · have c := urow_cell HR.out hkl.out
        have hqm : Hid (yb p k ∈ p) := yb_mem hkl.out
        obtain ⟨q, hqe⟩ : ∃ q, yb p k = q := ⟨_, rfl⟩
        rw [hqe] at c hqm
        have HE := hid hqe
        clear hqe
        have cC := cF q w
        by_cases hb : 65535 < q
        · rw [decide_eq_true hb] at cC
          have hfin : Hid (FarP p) := ⟨q, hqm.out, hb⟩
          clear hb
          go_wp2_with (go_at_fn g; refine cC.mono ?_; rintro e w1 ⟨rfl, hw⟩; subst w1)
          go_ret
          exact ⟨.inl ⟨k, hfin.out, rfl⟩, rfl⟩
        · rw [decide_eq_false hb] at cC
          have HBq : Hid (∀ j, j < k + 1 → ¬ 65535 < yb p j) := fun j hj => by
            by_cases e : j = k
            · subst e; rw [HE.out]; exact hb
            · exact hnot.out j (by omega)
          clear hb
          go_wp2_with (go_at_fn g; refine cC.mono ?_; rintro e w1 ⟨rfl, hw⟩; subst w1)
          go_round
          case rel => exact ⟨k + 1, by simp, by omega, HBq⟩
          case measure => exact measK hgo
    · have hgo' : ¬ (k : Int) < (N : Int) := by omega
      have hm : Hid (¬ FarP p) := fun ⟨q, hq, hlq⟩ => by
        obtain ⟨j, hj, e⟩ := List.getElem_of_mem hq
        have : yb p j = q := by simp [yb, List.getD, hj, e]
        exact hnot.out j (by have := HN.out; omega) (by rw [this]; exact hlq)
      go_wp2
      go_ret
      exact ⟨.inr ⟨hm.out, rfl⟩, rfl⟩

set_option maxRecDepth 100000 in
theorem conOut_any (ao : Option Addr) (cap : Nat) (p : List Nat) (hl : p.length ≤ 1048576) (b : Bool) (hb : b = true ↔ FarP p) (w : World) (hrow : URow w ao p) :
    Calls Try.prog 46 #[.slice ao p.length cap, .func (.func 47) #[] #[]] w fun e w' => e = .returned (.bool b) ∧ w' = w := by
  have cI := idxOut_any 47 (enters_of Try.func47 (by decide) rfl) outside_any ao cap p hl w hrow
  cases b with
  | true =>
    have cI2 := cI.mono (R' := fun e w1 => (∃ k : Nat, e = .returned (.int .i64 (k : Int))) ∧ w1 = w) (fun e w1 h => ⟨by
      rcases h.1 with ⟨k, _, e⟩ | ⟨h, _⟩
      · exact ⟨k, e⟩
      · exact absurd (hb.1 rfl) h, h.2⟩)
    clear cI hb hrow
    go_enter Try.func46, Try.ntmps46
    go_wp2_with (go_at_call 52; refine cI2.mono ?_; rintro e w1 ⟨⟨k, rfl⟩, hw⟩; subst w1)
    go_ret
    exact ⟨rfl, rfl⟩
  | false =>
    have cI2 := cI.mono (R' := fun e w1 => e = .returned (.int .i64 (-1)) ∧ w1 = w) (fun e w1 h => ⟨by
      rcases h.1 with ⟨k, hx, e⟩ | ⟨_, e⟩
      · exact absurd (hb.2 hx) (by decide)
      · exact e, h.2⟩)
    clear cI hb hrow
    go_enter Try.func46, Try.ntmps46
    go_wp2_with (go_at_call 52; refine cI2.mono ?_; rintro e w1 ⟨rfl, hw⟩; subst w1)
    go_ret
    exact ⟨rfl, rfl⟩

/-! ### codes -/

/-- The code of leafs. -/
def LfC (L : List (List Nat)) (c : Int) : Prop :=
  (L.length = 0 ∧ c = 5) ∨ (L.length ≠ 0 ∧ (((64 < L.length ∨ LongL L) ∧ c = 1) ∨ (¬ (64 < L.length ∨ LongL L) ∧ c = 0)))

theorem lfc_ex (L : List (List Nat)) : ∃ c, LfC L c := by
  by_cases h : L.length = 0
  · exact ⟨5, .inl ⟨h, rfl⟩⟩
  · rcases Classical.em (64 < L.length ∨ LongL L) with h2 | h2
    · exact ⟨1, .inr ⟨h, .inl ⟨h2, rfl⟩⟩⟩
    · exact ⟨0, .inr ⟨h, .inr ⟨h2, rfl⟩⟩⟩

theorem LfC.none {L : List (List Nat)} {c : Int} (h : LfC L c) (h1 : L.length = 0) : 5 = c := by
  rcases h with ⟨_, h⟩ | ⟨h, _⟩
  · exact h.symm
  · exact absurd h1 h

theorem LfC.large {L : List (List Nat)} {c : Int} (h : LfC L c) (h1 : L.length ≠ 0) (h2 : 64 < L.length ∨ LongL L) : 1 = c := by
  rcases h with ⟨h, _⟩ | ⟨_, ⟨_, h⟩ | ⟨h, _⟩⟩
  · exact absurd h h1
  · exact h.symm
  · exact absurd h2 h

theorem LfC.fine {L : List (List Nat)} {c : Int} (h : LfC L c) (h1 : L.length ≠ 0) (h2 : ¬ (64 < L.length ∨ LongL L)) : 0 = c := by
  rcases h with ⟨h, _⟩ | ⟨_, ⟨h, _⟩ | ⟨_, h⟩⟩
  · exact absurd h h1
  · exact absurd h h2
  · exact h.symm

/-- What leafs are. -/
structure Lf (L : List (List Nat)) : Prop where
  one : 1 ≤ L.length
  few : L.length ≤ 64
  short : ∀ r ∈ L, r.length ≤ 4095

theorem LfC.ok {L : List (List Nat)} (h : LfC L 0) : Lf L := by
  rcases h with ⟨_, h⟩ | ⟨h1, ⟨_, h⟩ | ⟨h2, _⟩⟩
  · cases h
  · cases h
  · refine ⟨by omega, ?_, fun r hr => ?_⟩
    · have : ¬ 64 < L.length := fun e => h2 (.inl e)
      omega
    · have : ¬ 4095 < r.length := fun e => h2 (.inr ⟨r, hr, e⟩)
      omega

theorem LfC.bad {L : List (List Nat)} {c : Int} (h : LfC L c) (h0 : c ≠ 0) : ¬ Lf L := fun hl => by
  rcases h with ⟨h, _⟩ | ⟨_, ⟨h | ⟨r, hr, h⟩, _⟩ | ⟨_, h⟩⟩
  · have := hl.one; omega
  · have := hl.few; omega
  · have := hl.short r hr; omega
  · exact h0 h

theorem LfC.cases {L : List (List Nat)} {c : Int} (h : LfC L c) : c = 5 ∨ c = 1 ∨ c = 0 := by
  rcases h with ⟨_, h⟩ | ⟨_, ⟨_, h⟩ | ⟨_, h⟩⟩
  · exact .inl h
  · exact .inr (.inl h)
  · exact .inr (.inr h)

set_option maxRecDepth 100000 in
set_option maxHeartbeats 1000000 in
theorem checkLeafs_any (ao : Option Addr) (cap : Nat) (L : List (List Nat)) (c : Int) (hc : LfC L c) (hl : L.length ≤ 9223372036854775807) (w : World) (hrow : YRows w ao L) :
    Calls Try.prog 24 #[.slice ao L.length cap] w fun e w' => e = .returned (.int .i64 c) ∧ w' = w := by
  by_cases h0 : L.length = 0
  · have e := hid (hc.none h0)
    have h0' : (L.length : Int) = 0 := by omega
    generalize L.length = N at *
    clear hc hrow
    subst h0
    go_enter Try.func24, Try.ntmps24
    go_wp2
    go_ret
    exact ⟨ret_int e.out, rfl⟩
  · have h0' : ¬ (L.length : Int) = 0 := by omega
    have h0b : ((L.length : Int) == 0) = false := by simpa using h0
    by_cases h1 : 64 < L.length
    · have e := hid (hc.large h0 (.inl h1))
      have h1' : (64 : Int) < (L.length : Int) := by omega
      have h1d : decide ((64 : Int) < (L.length : Int)) = true := decide_eq_true h1'
      obtain ⟨N, hN⟩ : ∃ N, N = L.length := ⟨_, rfl⟩
      rw [← hN] at h0 h0' h0b h1 h1' h1d hl ⊢
      clear hc hrow hN
      go_enter Try.func24, Try.ntmps24
      go_wp2
      go_ret
      exact ⟨ret_int e.out, rfl⟩
    · have h1' : ¬ (64 : Int) < (L.length : Int) := by omega
      have h1d : decide ((64 : Int) < (L.length : Int)) = false := decide_eq_false h1'
      rcases Classical.em (LongL L) with h2 | h2
      · have e := hid (hc.large h0 (.inr h2))
        have cC := conLong_any ao cap L (by omega) true ⟨fun _ => h2, fun _ => rfl⟩ w hrow
        obtain ⟨N, hN⟩ : ∃ N, N = L.length := ⟨_, rfl⟩
        rw [← hN] at h0 h0' h0b h1 h1' h1d cC hl ⊢
        clear hc hrow hN h2
        go_enter Try.func24, Try.ntmps24
        go_wp2_with (go_at_call 41; refine cC.mono ?_; rintro e w1 ⟨rfl, hw⟩; subst w1)
        go_ret
        exact ⟨ret_int e.out, rfl⟩
      · have e := hid (hc.fine h0 (fun h => h.elim h1 h2))
        have cC := conLong_any ao cap L (by omega) false ⟨fun h => (by cases h), fun h => absurd h h2⟩ w hrow
        obtain ⟨N, hN⟩ : ∃ N, N = L.length := ⟨_, rfl⟩
        rw [← hN] at h0 h0' h0b h1 h1' h1d cC hl ⊢
        clear hc hrow hN h2
        go_enter Try.func24, Try.ntmps24
        go_wp2_with (go_at_call 41; refine cC.mono ?_; rintro e w1 ⟨rfl, hw⟩; subst w1)
        go_ret
        exact ⟨ret_int e.out, rfl⟩

set_option maxRecDepth 100000 in
set_option maxHeartbeats 1000000 in
theorem refLeafsCheck_any (ao : Option Addr) (cap : Nat) (L : List (List Nat)) (c : Int) (hc : LfC L c) (hl : L.length ≤ 9223372036854775807) (w : World) (hrow : YRows w ao L) :
    Calls Try.prog 10 #[.slice ao L.length cap] w fun e w' => e = .returned (.int .i64 c) ∧ w' = w := by
  by_cases h0 : L.length = 0
  · have e := hid (hc.none h0)
    generalize L.length = N at *
    clear hc hrow
    subst h0
    go_enter Try.func10, Try.ntmps10
    go_wp2
    go_ret
    exact ⟨ret_int e.out, rfl⟩
  obtain ⟨N, hN⟩ : ∃ N, N = L.length := ⟨_, rfl⟩
  have HN : Hid (N = L.length) := hN
  have HC := hid hc
  have HR := hid hrow
  rw [← hN] at hl h0 ⊢
  have h0' : ¬ (N : Int) = 0 := by omega
  have h0b : ((N : Int) == 0) = false := by simpa using h0
  have hn0 : Hid (L.length ≠ 0) := by show _ ≠ _; rw [← hN]; exact h0
  clear hN hc hrow
  by_cases hbig : 64 < N
  · have hb' : (64 : Int) < (N : Int) := by omega
    have e : Hid (1 = c) := HC.out.large hn0.out (.inl (by rw [← HN.out]; exact hbig))
    go_enter Try.func10, Try.ntmps10
    go_wp2
    go_ret
    exact ⟨ret_int e.out, rfl⟩
  have hb' : ¬ (64 : Int) < (N : Int) := by omega
  go_enter Try.func10, Try.ntmps10
  go_wp2
  go_loop [13] (fun i => ∃ k : Nat, i = .int .i64 (k : Int) ∧ k ≤ N ∧ Hid (∀ j, j < k → ¬ 4095 < (yr L j).length)) (fun i => ((N : Int) - intOf i).toNat)
  case atStart => exact ⟨0, rfl, by omega, fun j hj => by omega⟩
  case round =>
    obtain ⟨k, rfl, hk, hA⟩ := hrel
    by_cases hgo : k < N
    · have hgo' : (k : Int) < (N : Int) := by omega
      have hkl : Hid (k < L.length) := by have := HN.out; show k < L.length; omega
      rcases ao with _ | ad
      · exact (yrows_none HR.out hkl.out).elim
      · obtain ⟨bo, cc, c1, _, _, _, hlm⟩ := HR.out.2 ad rfl k hkl.out
        obtain ⟨n, hn⟩ : ∃ n, (yr L k).length = n := ⟨_, rfl⟩
        rw [hn] at c1 hlm
        have HE := hid hn
        clear hn
        by_cases hx : 4095 < n
        · have hx' : (4095 : Int) < (n : Int) := by omega
          have e : Hid (1 = c) := HC.out.large hn0.out (.inr ⟨_, yr_mem hkl.out, by rw [HE.out]; exact hx⟩)
          go_wp2
          go_ret
          exact ⟨ret_int e.out, rfl⟩
        · have hx' : ¬ (4095 : Int) < (n : Int) := by omega
          have hA2 : Hid (∀ j, j < k + 1 → ¬ 4095 < (yr L j).length) := fun j hj => by
            by_cases e : j = k
            · subst e; rw [HE.out]; omega
            · exact hA.out j (by omega)
          go_wp2
          go_round
          case rel => exact ⟨k + 1, by simp, by omega, hA2⟩
          case measure => exact measK hgo
    · have hgo' : ¬ (k : Int) < (N : Int) := by omega
      have e : Hid (0 = c) := HC.out.fine hn0.out (fun h => by
        rcases h with h | ⟨q, hq, hlq⟩
        · exact hbig (by rw [HN.out]; exact h)
        · obtain ⟨j, hj, e⟩ := yr_of_mem hq
          rw [← e] at hlq
          exact hA.out j (by have := HN.out; omega) hlq)
      go_wp2
      go_ret
      exact ⟨ret_int e.out, rfl⟩

/-- The code of a place and a proof: n leafs, the place i, m bytes, k nodes. -/
def PlC (n i : Int) (m k : Nat) (c : Int) : Prop :=
  ((n < 1 ∨ 64 < n ∨ i < 0 ∨ n ≤ i) ∧ c = 3) ∨ (¬ (n < 1 ∨ 64 < n ∨ i < 0 ∨ n ≤ i) ∧ (((4095 < m ∨ 64 < k) ∧ c = 1) ∨ (¬ (4095 < m ∨ 64 < k) ∧ c = 0)))

theorem plc_ex (n i : Int) (m k : Nat) : ∃ c, PlC n i m k c := by
  rcases Classical.em (n < 1 ∨ 64 < n ∨ i < 0 ∨ n ≤ i) with h | h
  · exact ⟨3, .inl ⟨h, rfl⟩⟩
  · rcases Classical.em (4095 < m ∨ 64 < k) with h2 | h2
    · exact ⟨1, .inr ⟨h, .inl ⟨h2, rfl⟩⟩⟩
    · exact ⟨0, .inr ⟨h, .inr ⟨h2, rfl⟩⟩⟩

theorem PlC.arg {n i : Int} {m k : Nat} {c : Int} (h : PlC n i m k c) (h1 : n < 1 ∨ 64 < n ∨ i < 0 ∨ n ≤ i) : 3 = c := by
  rcases h with ⟨_, h⟩ | ⟨h, _⟩
  · exact h.symm
  · exact absurd h1 h

theorem PlC.large {n i : Int} {m k : Nat} {c : Int} (h : PlC n i m k c) (h1 : ¬ (n < 1 ∨ 64 < n ∨ i < 0 ∨ n ≤ i)) (h2 : 4095 < m ∨ 64 < k) : 1 = c := by
  rcases h with ⟨h, _⟩ | ⟨_, ⟨_, h⟩ | ⟨h, _⟩⟩
  · exact absurd h h1
  · exact h.symm
  · exact absurd h2 h

theorem PlC.fine {n i : Int} {m k : Nat} {c : Int} (h : PlC n i m k c) (h1 : ¬ (n < 1 ∨ 64 < n ∨ i < 0 ∨ n ≤ i)) (h2 : ¬ (4095 < m ∨ 64 < k)) : 0 = c := by
  rcases h with ⟨h, _⟩ | ⟨_, ⟨h, _⟩ | ⟨_, h⟩⟩
  · exact absurd h h1
  · exact absurd h h2
  · exact h.symm

theorem PlC.cases {n i : Int} {m k : Nat} {c : Int} (h : PlC n i m k c) : c = 3 ∨ c = 1 ∨ c = 0 := by
  rcases h with ⟨_, h⟩ | ⟨_, ⟨_, h⟩ | ⟨_, h⟩⟩
  · exact .inl h
  · exact .inr (.inl h)
  · exact .inr (.inr h)

theorem PlC.ok {n i : Int} {m k : Nat} (h : PlC n i m k 0) : 1 ≤ n ∧ n ≤ 64 ∧ 0 ≤ i ∧ i < n ∧ m ≤ 4095 ∧ k ≤ 64 := by
  rcases h with ⟨_, h⟩ | ⟨h1, ⟨_, h⟩ | ⟨h2, _⟩⟩
  · cases h
  · cases h
  · omega

set_option maxRecDepth 100000 in
set_option maxHeartbeats 1000000 in
theorem checkProof_any (n i : Int) (ao po : Option Addr) (m k ca cp : Nat) (c : Int) (hc : PlC n i m k c) (hm : m ≤ 9223372036854775807) (w : World) :
    Calls Try.prog 32 #[.int .i64 n, .int .i64 i, .slice ao m ca, .slice po k cp] w fun e w' => e = .returned (.int .i64 c) ∧ w' = w := by
  by_cases h1 : n < 1
  · have e := hid (hc.arg (.inl h1))
    have d1 : decide (n < 1) = true := decide_eq_true h1
    clear hc
    go_enter Try.func32, Try.ntmps32
    go_wp2
    go_ret
    exact ⟨ret_int e.out, rfl⟩
  have d1 : decide (n < 1) = false := decide_eq_false h1
  by_cases h2 : 64 < n
  · have e := hid (hc.arg (.inr (.inl h2)))
    have d2 : decide (64 < n) = true := decide_eq_true h2
    clear hc
    go_enter Try.func32, Try.ntmps32
    go_wp2
    go_ret
    exact ⟨ret_int e.out, rfl⟩
  have d2 : decide (64 < n) = false := decide_eq_false h2
  by_cases h3 : i < 0
  · have e := hid (hc.arg (.inr (.inr (.inl h3))))
    have d3 : decide (i < 0) = true := decide_eq_true h3
    clear hc
    go_enter Try.func32, Try.ntmps32
    go_wp2
    go_ret
    exact ⟨ret_int e.out, rfl⟩
  have d3 : decide (i < 0) = false := decide_eq_false h3
  by_cases h4 : n ≤ i
  · have e := hid (hc.arg (.inr (.inr (.inr h4))))
    have d4 : decide (n ≤ i) = true := decide_eq_true h4
    clear hc
    go_enter Try.func32, Try.ntmps32
    go_wp2
    go_ret
    exact ⟨ret_int e.out, rfl⟩
  have d4 : decide (n ≤ i) = false := decide_eq_false h4
  have hb : ¬ (n < 1 ∨ 64 < n ∨ i < 0 ∨ n ≤ i) := by omega
  have cL := long_any ao m ca hm w
  by_cases h5 : 4095 < m
  · have e := hid (hc.large hb (.inl h5))
    rw [decide_eq_true h5] at cL
    clear hc hb
    go_enter Try.func32, Try.ntmps32
    go_wp2_with (go_at_call 42; refine cL.mono ?_; rintro e w1 ⟨rfl, hw⟩; subst w1)
    go_ret
    exact ⟨ret_int e.out, rfl⟩
  rw [decide_eq_false h5] at cL
  by_cases h6 : 64 < k
  · have e := hid (hc.large hb (.inr h6))
    have h6' : (64 : Int) < (k : Int) := by omega
    have d6 : decide ((64 : Int) < (k : Int)) = true := decide_eq_true h6'
    clear hc hb
    go_enter Try.func32, Try.ntmps32
    go_wp2_with (go_at_call 42; refine cL.mono ?_; rintro e w1 ⟨rfl, hw⟩; subst w1)
    go_ret
    exact ⟨ret_int e.out, rfl⟩
  · have e := hid (hc.fine hb (by omega))
    have h6' : ¬ (64 : Int) < (k : Int) := by omega
    have d6 : decide ((64 : Int) < (k : Int)) = false := decide_eq_false h6'
    clear hc hb
    go_enter Try.func32, Try.ntmps32
    go_wp2_with (go_at_call 42; refine cL.mono ?_; rintro e w1 ⟨rfl, hw⟩; subst w1)
    go_ret
    exact ⟨ret_int e.out, rfl⟩

set_option maxRecDepth 100000 in
set_option maxHeartbeats 1000000 in
theorem refPlaceCheck_any (n i : Int) (ao po : Option Addr) (m k ca cp : Nat) (c : Int) (hc : PlC n i m k c) (hm : m ≤ 9223372036854775807) (w : World) :
    Calls Try.prog 17 #[.int .i64 n, .int .i64 i, .slice ao m ca, .slice po k cp] w fun e w' => e = .returned (.int .i64 c) ∧ w' = w := by
  by_cases h1 : n < 1
  · have e := hid (hc.arg (.inl h1))
    have d1 : decide (n < 1) = true := decide_eq_true h1
    clear hc
    go_enter Try.func17, Try.ntmps17
    go_wp2
    go_ret
    exact ⟨ret_int e.out, rfl⟩
  have d1 : decide (n < 1) = false := decide_eq_false h1
  by_cases h2 : 64 < n
  · have e := hid (hc.arg (.inr (.inl h2)))
    have d2 : decide (64 < n) = true := decide_eq_true h2
    clear hc
    go_enter Try.func17, Try.ntmps17
    go_wp2
    go_ret
    exact ⟨ret_int e.out, rfl⟩
  have d2 : decide (64 < n) = false := decide_eq_false h2
  by_cases h3 : i < 0
  · have e := hid (hc.arg (.inr (.inr (.inl h3))))
    have d3 : decide (i < 0) = true := decide_eq_true h3
    clear hc
    go_enter Try.func17, Try.ntmps17
    go_wp2
    go_ret
    exact ⟨ret_int e.out, rfl⟩
  have d3 : decide (i < 0) = false := decide_eq_false h3
  by_cases h4 : n ≤ i
  · have e := hid (hc.arg (.inr (.inr (.inr h4))))
    have d4 : decide (n ≤ i) = true := decide_eq_true h4
    clear hc
    go_enter Try.func17, Try.ntmps17
    go_wp2
    go_ret
    exact ⟨ret_int e.out, rfl⟩
  have d4 : decide (n ≤ i) = false := decide_eq_false h4
  have hb : ¬ (n < 1 ∨ 64 < n ∨ i < 0 ∨ n ≤ i) := by omega
  by_cases h5 : 4095 < m
  · have e := hid (hc.large hb (.inl h5))
    have h5' : (4095 : Int) < (m : Int) := by omega
    have d5 : decide ((4095 : Int) < (m : Int)) = true := decide_eq_true h5'
    clear hc hb
    go_enter Try.func17, Try.ntmps17
    go_wp2
    go_ret
    exact ⟨ret_int e.out, rfl⟩
  have h5' : ¬ (4095 : Int) < (m : Int) := by omega
  have d5 : decide ((4095 : Int) < (m : Int)) = false := decide_eq_false h5'
  by_cases h6 : 64 < k
  · have e := hid (hc.large hb (.inr h6))
    have h6' : (64 : Int) < (k : Int) := by omega
    have d6 : decide ((64 : Int) < (k : Int)) = true := decide_eq_true h6'
    clear hc hb
    go_enter Try.func17, Try.ntmps17
    go_wp2
    go_ret
    exact ⟨ret_int e.out, rfl⟩
  · have e := hid (hc.fine hb (by omega))
    have h6' : ¬ (64 : Int) < (k : Int) := by omega
    have d6 : decide ((64 : Int) < (k : Int)) = false := decide_eq_false h6'
    clear hc hb
    go_enter Try.func17, Try.ntmps17
    go_wp2
    go_ret
    exact ⟨ret_int e.out, rfl⟩

/-! ### how many nodes a row has, how many rows there are -/

theorem mn_le64 {n : Nat} (h : n ≤ 64) : ∀ k, mn n k ≤ 64
  | 0 => h
  | k + 1 => by
    have := mn_le64 h k
    show (mn n k + 1) / 2 ≤ 64
    omega

set_option maxRecDepth 100000 in
theorem refMany_any (n N : Nat) (hn : n ≤ 64) (hN : N ≤ 64) (w : World) :
    Calls Try.prog 28 #[.int .i64 (n : Int), .int .i64 (N : Int)] w fun e w' => e = .returned (.int .i64 ((mn n N : Nat) : Int)) ∧ w' = w := by
  go_enter Try.func28, Try.ntmps28
  go_wp2
  go_loop [0, 5] (fun m i => ∃ k q : Nat, m = .int .i64 (q : Int) ∧ i = .int .i64 (k : Int) ∧ k ≤ N ∧ q ≤ 64 ∧ Hid (q = mn n k)) (fun m i => ((N : Int) - intOf i).toNat)
  case atStart => exact ⟨0, n, rfl, rfl, by omega, hn, rfl⟩
  case round =>
    obtain ⟨k, q, rfl, rfl, hk, hq, HQ⟩ := hrel
    by_cases hgo : k < N
    · have hgo' : (k : Int) < (N : Int) := by omega
      have hq2 : Hid ((q + 1) / 2 = mn n (k + 1)) := by show _ = (mn n k + 1) / 2; rw [← HQ.out]
      clear HQ
      go_wp2
      go_round
      case rel => exact ⟨k + 1, (q + 1) / 2, by simp, by simp, by omega, by omega, hq2⟩
      case measure => exact measK hgo
    · have hgo' : ¬ (k : Int) < (N : Int) := by omega
      obtain rfl : k = N := by omega
      go_wp2
      go_ret
      exact ⟨ret_int (by rw [HQ.out]), rfl⟩

set_option maxRecDepth 100000 in
theorem refHeight_any (n h : Nat) (hn : n ≤ 64) (hh : h ≤ 6) (ht : Top n h) (w : World) :
    Calls Try.prog 12 #[.int .i64 (n : Int)] w fun e w' => e = .returned (.int .i64 (h : Int)) ∧ w' = w := by
  have HT := hid ht
  clear ht
  go_enter Try.func12, Try.ntmps12
  go_wp2
  go_loop [3] (fun i => ∃ k : Nat, i = .int .i64 (k : Int) ∧ k ≤ h) (fun i => ((h : Int) - intOf i).toNat)
  case atStart => exact ⟨0, rfl, by omega⟩
  case round =>
    obtain ⟨k, rfl, hk⟩ := hrel
    have cM := refMany_any n k hn (by omega) w
    by_cases hgo : k < h
    · have h1 := HT.out.2 k hgo
      have h1' : (1 : Int) < ((mn n k : Nat) : Int) := by omega
      generalize mn n k = m at *
      go_wp2_with (go_at_call 28; refine cM.mono ?_; rintro e w1 ⟨rfl, hw⟩; subst w1)
      go_round
      case rel => exact ⟨k + 1, by simp, by omega⟩
      case measure => exact measK hgo
    · obtain rfl : k = h := by omega
      rw [HT.out.1] at cM
      go_wp2_with (go_at_call 28; refine cM.mono ?_; rintro e w1 ⟨rfl, hw⟩; subst w1)
      go_ret
      exact ⟨rfl, rfl⟩

end Go.Proofs.Ythjmmibfgphlhaa.Calls134
