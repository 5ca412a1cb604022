/-
  Package field: whether one polynomial divides another; whether a polynomial is a product.
-/
import Derived.Test.YtjpmkcijkcnfiaaCalls76
import Derived.Test.YtjpmkcijkcnfiaaCalls78
import Derived.Test.YtjpmkcijkcnfiaaCalls60
import Derived.Deep.RegionHeld3
import Derived.Deep.RegionWith
namespace Go.Proofs.Ytjpmkcijkcnfiaa.Calls79
set_option linter.unusedVariables false
open Go.ChangeShapes Go.WideShapes Go.ChangeAt Go.RowKit Go.Deep Go.Proofs.Ytjpmkcijkcnfiaa.Base Go.Proofs.Ytjpmkcijkcnfiaa.Base2 Go.Proofs.Ytjpmkcijkcnfiaa.Num Go.Proofs.Ytjpmkcijkcnfiaa.Num16 Go.Proofs.Ytjpmkcijkcnfiaa.Num17 Go.Proofs.Ytjpmkcijkcnfiaa.Num21 Go.Proofs.Ytjpmkcijkcnfiaa.Num23 Go.Proofs.Ytjpmkcijkcnfiaa.Num34 Go.Proofs.Ytjpmkcijkcnfiaa.Num35 Go.Proofs.Ytjpmkcijkcnfiaa.Num36 Go.Proofs.Ytjpmkcijkcnfiaa.Num37 Go.Proofs.Ytjpmkcijkcnfiaa.Num38 Go.Proofs.Ytjpmkcijkcnfiaa.Base4 Go.Proofs.Ytjpmkcijkcnfiaa.Calls56 Go.Proofs.Ytjpmkcijkcnfiaa.Calls57 Go.Proofs.Ytjpmkcijkcnfiaa.Calls58 Go.Proofs.Ytjpmkcijkcnfiaa.Calls61 Go.Proofs.Ytjpmkcijkcnfiaa.Calls75 Go.Proofs.Ytjpmkcijkcnfiaa.Calls77 Go.Proofs.Ytjpmkcijkcnfiaa.Calls78 Go.Proofs.Ytjpmkcijkcnfiaa.Calls76
open Go.Proofs.Ytjpmkcijkcnfiaa.Num13 (rs rs_cast)
open Go.Proofs.Ytjpmkcijkcnfiaa.Calls60 (wrap_in)

def SeenB (Pq : Int → Bool) (l : List Int) (e : Ending) : Prop := (∃ k : Nat, (∃ x ∈ l, Pq x = true) ∧ e = .returned (.int .i64 (k : Int))) ∨ ((∀ x ∈ l, Pq x = false) ∧ e = .returned (.int .i64 (-1)))

/-- The closure answers for each number. -/
theorem idxDiv_any (ao : Option Addr) (cap : Nat) (l : List Int) (Pq : Int → Bool) (hl : l.length ≤ 1048576) (w : World) (hrow : IRow w ao l)
    (cF : ∀ x ∈ l, ∀ w', Below w.heap.size w w' → Calls Try.prog 68 #[.int .i64 x] w' fun e w'' => e = .returned (.bool (Pq x)) ∧ Below w'.heap.size w' w'') :
    Calls Try.prog 65 #[.slice ao l.length cap, .func (.func 68) #[] #[]] w fun e w' => SeenB Pq l e ∧ Below w.heap.size w w' := by
  obtain ⟨N, hN⟩ : ∃ N, N = l.length := ⟨_, rfl⟩
  have HN : Hid (N = l.length) := hN
  rw [← hN] at hl ⊢
  clear hN
  go_enter Try.func65, Try.ntmps65
  go_wp2
  go_loopw [8] (fun i wr => ∃ k : Nat, i = .int .i64 (k : Int) ∧ k ≤ N ∧ Hid (∀ j, j < k → Pq (co l j) = false) ∧ Hid (Below w.heap.size w wr)) (fun i wr => ((N : Int) - intOf i).toNat)
  case atStart => exact ⟨0, rfl, by omega, fun j hj => by omega, Below.refl _ _⟩
  case round =>
    obtain ⟨k, rfl, hk, hnot, hB⟩ := hrel
    by_cases hgo : k < N
    · have hgo' : (k : Int) < (N : Int) := by omega
      have hkl : Hid (k < l.length) := by have := HN.out; show k < l.length; omega
      rcases ao with _ | ad
      · exact (irow_none hrow hkl.out).elim
      · have c := (irow_below hrow hB.out (Nat.le_refl _)).2 ad rfl k hkl.out
        have hqm : Hid (co l k ∈ l) := co_mem hkl.out
        obtain ⟨q, hqe⟩ : ∃ q, co l k = q := ⟨_, rfl⟩
        rw [hqe] at c hqm
        have HE := hid hqe
        clear hqe
        have cC := cF q hqm.out wr hB.out
        cases hb : Pq q with
        | true =>
          rw [hb] at cC
          have HBq := hid hb
          clear hb
          go_wp2_with (go_at_call 68; refine cC.mono ?_; rintro e w1 ⟨rfl, hB1⟩)
          go_ret
          exact ⟨.inl ⟨k, ⟨q, hqm.out, HBq.out⟩, rfl⟩, below_trans hB.out hB1⟩
        | false =>
          rw [hb] at cC
          have HBq : Hid (∀ j, j < k + 1 → Pq (co l j) = false) := fun j hj => by
            by_cases e : j = k
            · subst e; rw [HE.out]; exact hb
            · exact hnot.out j (by omega)
          clear hb
          go_wp2_with (go_at_call 68; refine cC.mono ?_; rintro e w1 ⟨rfl, hB1⟩)
          go_roundw
          case rel => exact ⟨k + 1, by simp, by omega, HBq, below_trans hB.out hB1⟩
          case measure => exact measK hgo
    · have hgo' : ¬ (k : Int) < (N : Int) := by omega
      have hm : Hid (∀ q ∈ l, Pq q = false) := fun q hq => by
        obtain ⟨j, hj, e⟩ := List.getElem_of_mem hq
        have := hnot.out j (by have := HN.out; omega)
        simpa [co, List.getD, hj, e] using this
      go_wp2
      go_ret
      exact ⟨.inr ⟨hm.out, rfl⟩, hB.out⟩

theorem conDiv_any (ao : Option Addr) (cap : Nat) (l : List Int) (Pq : Int → Bool) (hl : l.length ≤ 1048576) (b : Bool) (hb : b = false ↔ ∀ x ∈ l, Pq x = false) (w : World) (hrow : IRow w ao l)
    (cF : ∀ x ∈ l, ∀ w', Below w.heap.size w w' → Calls Try.prog 68 #[.int .i64 x] w' fun e w'' => e = .returned (.bool (Pq x)) ∧ Below w'.heap.size w' w'') :
    Calls Try.prog 49 #[.slice ao l.length cap, .func (.func 68) #[] #[]] w fun e w' => e = .returned (.bool b) ∧ Below w.heap.size w w' := by
  have cI := idxDiv_any ao cap l Pq hl w hrow cF
  cases b with
  | true =>
    have cI2 := cI.mono (R' := fun e w1 => (∃ k : Nat, e = .returned (.int .i64 (k : Int))) ∧ Below w.heap.size w w1) (fun e w1 h => ⟨by
      rcases h.1 with ⟨k, _, e⟩ | ⟨h, _⟩
      · exact ⟨k, e⟩
      · exact absurd (hb.2 h) (by decide), h.2⟩)
    clear cI hb hrow cF
    go_enter Try.func49, Try.ntmps49
    go_wp2_with (go_at_call 65; refine cI2.mono ?_; rintro e w1 ⟨⟨k, rfl⟩, hB1⟩)
    go_ret
    exact ⟨rfl, hB1⟩
  | false =>
    have hall := hb.1 rfl
    have cI2 := cI.mono (R' := fun e w1 => e = .returned (.int .i64 (-1)) ∧ Below w.heap.size w w1) (fun e w1 h => ⟨by
      rcases h.1 with ⟨k, ⟨x, h1, h2⟩, e⟩ | ⟨_, e⟩
      · rw [hall x h1] at h2; exact absurd h2 (by decide)
      · exact e, h.2⟩)
    clear cI hb hrow cF hall
    go_enter Try.func49, Try.ntmps49
    go_wp2_with (go_at_call 65; refine cI2.mono ?_; rintro e w1 ⟨rfl, hB1⟩)
    go_ret
    exact ⟨rfl, hB1⟩

/-- The closure answers for each number. -/
theorem idxCom_any (ao : Option Addr) (cap : Nat) (l : List Int) (A1 A2 : Nat) (Pq : Int → Bool) (hl : l.length ≤ 1048576) (w : World) (hrow : IRow w ao l)
    (cF : ∀ x ∈ l, ∀ w', Below w.heap.size w w' → Calls Try.prog 50 #[.int .i64 x, .pointer (some ⟨A1, 0, none⟩), .pointer (some ⟨A2, 0, none⟩)] w' fun e w'' => e = .returned (.bool (Pq x)) ∧ Below w'.heap.size w' w'') :
    Calls Try.prog 65 #[.slice ao l.length cap, .func (.func 50) #[] #[.pointer (some ⟨A1, 0, none⟩), .pointer (some ⟨A2, 0, none⟩)]] w fun e w' => SeenB Pq l e ∧ Below w.heap.size w w' := by
  obtain ⟨N, hN⟩ : ∃ N, N = l.length := ⟨_, rfl⟩
  have HN : Hid (N = l.length) := hN
  rw [← hN] at hl ⊢
  clear hN
  go_enter Try.func65, Try.ntmps65
  go_wp2
  go_loopw [8] (fun i wr => ∃ k : Nat, i = .int .i64 (k : Int) ∧ k ≤ N ∧ Hid (∀ j, j < k → Pq (co l j) = false) ∧ Hid (Below w.heap.size w wr)) (fun i wr => ((N : Int) - intOf i).toNat)
  case atStart => exact ⟨0, rfl, by omega, fun j hj => by omega, Below.refl _ _⟩
  case round =>
    obtain ⟨k, rfl, hk, hnot, hB⟩ := hrel
    by_cases hgo : k < N
    · have hgo' : (k : Int) < (N : Int) := by omega
      have hkl : Hid (k < l.length) := by have := HN.out; show k < l.length; omega
      rcases ao with _ | ad
      · exact (irow_none hrow hkl.out).elim
      · have c := (irow_below hrow hB.out (Nat.le_refl _)).2 ad rfl k hkl.out
        have hqm : Hid (co l k ∈ l) := co_mem hkl.out
        obtain ⟨q, hqe⟩ : ∃ q, co l k = q := ⟨_, rfl⟩
        rw [hqe] at c hqm
        have HE := hid hqe
        clear hqe
        have cC := cF q hqm.out wr hB.out
        cases hb : Pq q with
        | true =>
          rw [hb] at cC
          have HBq := hid hb
          clear hb
          go_wp2_with (go_at_call 50; refine cC.mono ?_; rintro e w1 ⟨rfl, hB1⟩)
          go_ret
          exact ⟨.inl ⟨k, ⟨q, hqm.out, HBq.out⟩, rfl⟩, below_trans hB.out hB1⟩
        | false =>
          rw [hb] at cC
          have HBq : Hid (∀ j, j < k + 1 → Pq (co l j) = false) := fun j hj => by
            by_cases e : j = k
            · subst e; rw [HE.out]; exact hb
            · exact hnot.out j (by omega)
          clear hb
          go_wp2_with (go_at_call 50; refine cC.mono ?_; rintro e w1 ⟨rfl, hB1⟩)
          go_roundw
          case rel => exact ⟨k + 1, by simp, by omega, HBq, below_trans hB.out hB1⟩
          case measure => exact measK hgo
    · have hgo' : ¬ (k : Int) < (N : Int) := by omega
      have hm : Hid (∀ q ∈ l, Pq q = false) := fun q hq => by
        obtain ⟨j, hj, e⟩ := List.getElem_of_mem hq
        have := hnot.out j (by have := HN.out; omega)
        simpa [co, List.getD, hj, e] using this
      go_wp2
      go_ret
      exact ⟨.inr ⟨hm.out, rfl⟩, hB.out⟩

theorem conCom_any (ao : Option Addr) (cap : Nat) (l : List Int) (A1 A2 : Nat) (Pq : Int → Bool) (hl : l.length ≤ 1048576) (b : Bool) (hb : b = false ↔ ∀ x ∈ l, Pq x = false) (w : World) (hrow : IRow w ao l)
    (cF : ∀ x ∈ l, ∀ w', Below w.heap.size w w' → Calls Try.prog 50 #[.int .i64 x, .pointer (some ⟨A1, 0, none⟩), .pointer (some ⟨A2, 0, none⟩)] w' fun e w'' => e = .returned (.bool (Pq x)) ∧ Below w'.heap.size w' w'') :
    Calls Try.prog 49 #[.slice ao l.length cap, .func (.func 50) #[] #[.pointer (some ⟨A1, 0, none⟩), .pointer (some ⟨A2, 0, none⟩)]] w fun e w' => e = .returned (.bool b) ∧ Below w.heap.size w w' := by
  have cI := idxCom_any ao cap l A1 A2 Pq hl w hrow cF
  cases b with
  | true =>
    have cI2 := cI.mono (R' := fun e w1 => (∃ k : Nat, e = .returned (.int .i64 (k : Int))) ∧ Below w.heap.size w w1) (fun e w1 h => ⟨by
      rcases h.1 with ⟨k, _, e⟩ | ⟨h, _⟩
      · exact ⟨k, e⟩
      · exact absurd (hb.2 h) (by decide), h.2⟩)
    clear cI hb hrow cF
    go_enter Try.func49, Try.ntmps49
    go_wp2_with (go_at_call 65; refine cI2.mono ?_; rintro e w1 ⟨⟨k, rfl⟩, hB1⟩)
    go_ret
    exact ⟨rfl, hB1⟩
  | false =>
    have hall := hb.1 rfl
    have cI2 := cI.mono (R' := fun e w1 => e = .returned (.int .i64 (-1)) ∧ Below w.heap.size w w1) (fun e w1 h => ⟨by
      rcases h.1 with ⟨k, ⟨x, h1, h2⟩, e⟩ | ⟨_, e⟩
      · rw [hall x h1] at h2; exact absurd h2 (by decide)
      · exact e, h.2⟩)
    clear cI hb hrow cF hall
    go_enter Try.func49, Try.ntmps49
    go_wp2_with (go_at_call 65; refine cI2.mono ?_; rintro e w1 ⟨rfl, hB1⟩)
    go_ret
    exact ⟨rfl, hB1⟩

theorem div1_any (x : Int) (w : World) : Calls Try.prog 68 #[.int .i64 x] w fun e w' => e = .returned (.bool (x != 0)) ∧ Below w.heap.size w w' := by
  go_enter Try.func68, Try.ntmps68
  go_wp2
  go_ret
  exact ⟨rfl, Below.refl _ _⟩

theorem dvB_ex (p : Nat) (d f : List Int) : ∃ b : Bool, (b = true ↔ Dv p d f) := by
  rcases Classical.em (Dv p d f) with h | h
  · exact ⟨true, ⟨fun _ => h, fun _ => rfl⟩⟩
  · refine ⟨false, ⟨fun e => ?_, fun e => absurd e h⟩⟩
    cases e

set_option maxRecDepth 100000 in
theorem divides_any (p : Nat) (hP : Pr p) (hp : p ≤ 251) (fo : Option Addr) (cf S : Nat) (f : List Int) (hf : Cn p f) (hfl : f.length ≤ 13) (o2 : Option Addr) (c2 : Nat) (d : List Int) (hd : Cn p d) (hd1 : co d (d.length - 1) = 1) (nd : d ≠ []) (hld : d.length ≤ 4096) (b : Bool) (hb : b = true ↔ Dv p d f) (w : World) (rf : IRow w fo f) (rd : IRow w o2 d) :
    Calls Try.prog 54 #[.agg #[.int .i64 (p : Int), .slice fo f.length cf, .int .i64 (S : Int)], .slice o2 d.length c2] w fun e w' => e = .returned (.bool b) ∧ Below w.heap.size w w' := by
  have hBw : Hid (Below w.heap.size w (w.alloc (fx p fo f.length cf S))) := (Below.refl _ w).alloc (Nat.le_refl _) _
  have hX0 := hid (Bf.new w p fo f.length cf S)
  have cR := (rest_any p hP hp fo f.length cf S fo o2 cf c2 f d hf hd hd1 nd (by omega) hld _ (irow_below rf hBw.out (Nat.le_refl _)) (irow_below rd hBw.out (Nat.le_refl _))).mono (R' := fun e w' => (∃ l, Hid (((!b) = false ↔ ∀ x ∈ l, (x != 0) = false) ∧ l.length ≤ 1048576) ∧ RetL l e w') ∧ Below (w.alloc (fx p fo f.length cf S)).heap.size (w.alloc (fx p fo f.length cf S)) w') (fun e w' ⟨⟨q, l, hD, hbd, hlen, hr⟩, hB⟩ => ⟨⟨l, ⟨by
      have h1 := left_nil hP hd nd hD
      rw [tr_nil_iff] at h1
      constructor
      · intro h x hx
        have hbt : b = true := by cases b <;> simp_all
        have := (h1.2 (hb.1 hbt)) x hx
        rw [this]; rfl
      · intro h
        have hbt : b = true := hb.2 (h1.1 (fun x hx => by have := h x hx; simpa using this))
        rw [hbt]; rfl, by omega⟩, hr⟩, hB⟩)
  unfold RetL at cR
  have cD := fun (o3 : Option Addr) (c3 : Nat) (l : List Int) (h : Hid (((!b) = false ↔ ∀ x ∈ l, (x != 0) = false) ∧ l.length ≤ 1048576)) w' (hr : IRow w' o3 l) => conDiv_any o3 c3 l (fun x => x != 0) h.out.2 (!b) h.out.1 w' hr (fun x _ w'' _ => div1_any x w'')
  generalize f.length = n at *
  generalize d.length = nd' at *
  clear rf rd hb hd1
  have c0 := hX0.out.c0
  have c1 := hX0.out.c1
  have c2' := hX0.out.c2
  go_enter Try.func54, Try.ntmps54
  go_wp2_with (first
    | (go_at_call 45; refine cR.mono ?_; rintro e w1 ⟨⟨l, hL, o3, c3, rfl, hc3, hr3⟩, hB3⟩; have H3 := hid hr3; have HB3 := hid hB3; clear hr3 hB3)
    | (go_at_call 49; refine (cD o3 c3 l hL _ H3.out).mono ?_; rintro e w2 ⟨rfl, hB4⟩))
  go_ret
  exact ⟨by simp, below_trans (below_trans hBw.out HB3.out) hB4⟩

end Go.Proofs.Ytjpmkcijkcnfiaa.Calls79
