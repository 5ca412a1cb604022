/-
  Package group: what is wrong with exponents and members.
-/
import Derived.Test.YtpflkihagebmlabCalls157
namespace Go.Proofs.Ytpflkihagebmlab.Calls158
set_option linter.unusedVariables false
open Go.ChangeShapes Go.WideShapes Go.ChangeAt Go.RowKit Go.Deep Go.Proofs.Ytpflkihagebmlab.Base Go.Proofs.Ytpflkihagebmlab.Base2 Go.Proofs.Ytpflkihagebmlab.Num Go.Proofs.Ytpflkihagebmlab.Num13 Go.Proofs.Ytpflkihagebmlab.Num16 Go.Proofs.Ytpflkihagebmlab.Num17 Go.Proofs.Ytpflkihagebmlab.Num34 Go.Proofs.Ytpflkihagebmlab.Base4 Go.Proofs.Ytpflkihagebmlab.Num56 Go.Proofs.Ytpflkihagebmlab.Calls157

/-! ### a function value handed to ContainsFunc, over numbers of 64 bits -/

theorem ib {W W' : World} {ao : Option Addr} {l : List Int} (h : IRow W ao l) (hB : Below W.heap.size W W') : IRow W' ao l := irow_below h hB (Nat.le_refl _)

def SeenL (Pq : Int → Bool) (l : List Int) (e : Ending) : Prop := (∃ k : Nat, (∃ x ∈ l, Pq x = true) ∧ e = .returned (.int .i64 (k : Int))) ∨ ((∀ x ∈ l, Pq x = false) ∧ e = .returned (.int .i64 (-1)))

def AnsL (g : Nat) (cb : Array Value) (Pq : Int → Bool) (l : List Int) (w : World) : Prop :=
  ∀ x ∈ l, ∀ w', Below w.heap.size w w' → Calls Try.prog g (#[.int .i64 x] ++ cb) w' fun e w'' => e = .returned (.bool (Pq x)) ∧ Below w'.heap.size w' w''

set_option maxRecDepth 100000 in
theorem idxL_any (g : Nat) (cb : Array Value) (eg : ∀ args w, (callFunc g args).run Try.prog w = .ok (.enter g args) w) (ao : Option Addr) (cap : Nat) (l : List Int) (Pq : Int → Bool) (hl : l.length ≤ 1048576) (w : World) (hrow : IRow w ao l) (cF : AnsL g cb Pq l w) :
    Calls Try.prog 41 #[.slice ao l.length cap, .func (.func g) #[] cb] w fun e w' => SeenL Pq l e ∧ Below w.heap.size w w' := by
  obtain ⟨N, hN⟩ : ∃ N, N = l.length := ⟨_, rfl⟩
  have HN : Hid (N = l.length) := hN
  rw [← hN] at hl ⊢
  clear hN
  go_enter Try.func41, Try.ntmps41
  go_wp2
  go_loopw [8] (fun i wr => ∃ k : Nat, i = .int .i64 (k : Int) ∧ k ≤ N ∧ Hid (∀ j, j < k → Pq (co l j) = false) ∧ Hid (Below w.heap.size w wr)) (fun i wr => ((N : Int) - intOf i).toNat)
  case atStart => exact ⟨0, rfl, by omega, fun j hj => by omega, Below.refl _ _⟩
  case round =>
    obtain ⟨k, rfl, hk, hnot, hB⟩ := hrel
    by_cases hgo : k < N
    · have hgo' : (k : Int) < (N : Int) := by omega
      have hkl : Hid (k < l.length) := by have := HN.out; show k < l.length; omega
      rcases ao with _ | ad
      · exact (irow_none hrow hkl.out).elim
      · have c := (ib hrow hB.out).2 ad rfl k hkl.out
        have hqm : Hid (co l k ∈ l) := co_mem hkl.out
        obtain ⟨q, hqe⟩ : ∃ q, co l k = q := ⟨_, rfl⟩
        rw [hqe] at c hqm
        have HE := hid hqe
        clear hqe
        have cC := cF q hqm.out wr hB.out
        cases hb : Pq q with
        | true =>
          rw [hb] at cC
          have HBq := hid hb
          clear hb
          go_wp2_with (go_at_fn g; refine cC.mono ?_; rintro e w1 ⟨rfl, hB1⟩)
          go_ret
          exact ⟨.inl ⟨k, ⟨q, hqm.out, HBq.out⟩, rfl⟩, below_trans hB.out hB1⟩
        | false =>
          rw [hb] at cC
          have HBq : Hid (∀ j, j < k + 1 → Pq (co l j) = false) := fun j hj => by
            by_cases e : j = k
            · subst e; rw [HE.out]; exact hb
            · exact hnot.out j (by omega)
          clear hb
          go_wp2_with (go_at_fn g; refine cC.mono ?_; rintro e w1 ⟨rfl, hB1⟩)
          go_roundw
          case rel => exact ⟨k + 1, by simp, by omega, HBq, below_trans hB.out hB1⟩
          case measure => exact measK hgo
    · have hgo' : ¬ (k : Int) < (N : Int) := by omega
      have hm : Hid (∀ q ∈ l, Pq q = false) := fun q hq => by
        obtain ⟨j, hj, e⟩ := List.getElem_of_mem hq
        have := hnot.out j (by have := HN.out; omega)
        simpa [co, List.getD, hj, e] using this
      go_wp2
      go_ret
      exact ⟨.inr ⟨hm.out, rfl⟩, hB.out⟩

theorem conL_any (g : Nat) (cb : Array Value) (eg : ∀ args w, (callFunc g args).run Try.prog w = .ok (.enter g args) w) (ao : Option Addr) (cap : Nat) (l : List Int) (Pq : Int → Bool) (hl : l.length ≤ 1048576) (w : World) (hrow : IRow w ao l) (cF : AnsL g cb Pq l w) :
    Calls Try.prog 27 #[.slice ao l.length cap, .func (.func g) #[] cb] w fun e w' => e = .returned (.bool (l.any Pq)) ∧ Below w.heap.size w w' := by
  have cI := idxL_any g cb eg ao cap l Pq hl w hrow cF
  cases hb : l.any Pq with
  | true =>
    have cI2 := cI.mono (R' := fun e w1 => (∃ k : Nat, e = .returned (.int .i64 (k : Int))) ∧ Below w.heap.size w w1) (fun e w1 h => ⟨by
      rcases h.1 with ⟨k, _, e⟩ | ⟨h, _⟩
      · exact ⟨k, e⟩
      · obtain ⟨x, h1, h2⟩ := List.any_eq_true.1 hb
        rw [h x h1] at h2; exact absurd h2 (by decide), h.2⟩)
    clear cI hb hrow cF
    go_enter Try.func27, Try.ntmps27
    go_wp2_with (go_at_call 41; refine cI2.mono ?_; rintro e w1 ⟨⟨k, rfl⟩, hB1⟩)
    go_ret
    exact ⟨rfl, hB1⟩
  | false =>
    have cI2 := cI.mono (R' := fun e w1 => e = .returned (.int .i64 (-1)) ∧ Below w.heap.size w w1) (fun e w1 h => ⟨by
      rcases h.1 with ⟨k, ⟨x, h1, h2⟩, e⟩ | ⟨_, e⟩
      · have := List.any_eq_true.2 ⟨x, h1, h2⟩
        rw [hb] at this; cases this
      · exact e, h.2⟩)
    clear cI hb hrow cF
    go_enter Try.func27, Try.ntmps27
    go_wp2_with (go_at_call 41; refine cI2.mono ?_; rintro e w1 ⟨rfl, hB1⟩)
    go_ret
    exact ⟨rfl, hB1⟩

/-! ### no exponent, no member -/

/-- It is no exponent. -/
def exB (Q x : Int) : Bool := decide (x < 0) || decide (Q ≤ x)

/-- It is no member. -/
def noM (P Q x : Int) : Bool := decide (x < 1) || decide (P ≤ x) || !decide (x.toNat ^ Q.toNat % P.toNat = 1)

theorem exB_iff (Q x : Int) : exB Q x = false ↔ 0 ≤ x ∧ x < Q := by
  unfold exB
  rw [Bool.or_eq_false_iff, decide_eq_false_iff_not, decide_eq_false_iff_not]; omega

theorem noM_iff (P Q : Nat) (x : Int) : noM (P : Int) (Q : Int) x = false ↔ ∃ n : Nat, x = (n : Int) ∧ Mem P Q n := by
  unfold noM
  rw [Bool.or_eq_false_iff, Bool.or_eq_false_iff, decide_eq_false_iff_not, decide_eq_false_iff_not]
  constructor
  · rintro ⟨⟨h1, h2⟩, h3⟩
    refine ⟨x.toNat, by omega, by omega, by omega, by simpa using h3⟩
  · rintro ⟨n, rfl, h1, h2, h3⟩
    exact ⟨⟨by omega, by omega⟩, by simpa using h3⟩

theorem noExp_any (B : Nat) (Q x : Int) (w : World) (hc : w.cell? ⟨B, 1, none⟩ = some (.int .i64 Q)) :
    Calls Try.prog 30 #[.int .i64 x, .pointer (some ⟨B, 0, none⟩)] w fun e w' => e = .returned (.bool (exB Q x)) ∧ Below w.heap.size w w' := by
  by_cases h : x < 0
  · have e : Hid (exB Q x = true) := by show _ = _; unfold exB; rw [decide_eq_true h]; rfl
    go_enter Try.func30, Try.ntmps30
    go_wp2
    go_ret
    exact ⟨ret_bool e.out.symm, Below.refl _ _⟩
  · have h' : decide (x < 0) = false := by simpa using h
    by_cases h2 : Q ≤ x
    · have e : Hid (exB Q x = true) := by show _ = _; unfold exB; rw [decide_eq_true h2]; simp
      go_enter Try.func30, Try.ntmps30
      go_wp2
      go_ret
      exact ⟨ret_bool e.out.symm, Below.refl _ _⟩
    · have e : Hid (exB Q x = false) := by show _ = _; unfold exB; rw [h', decide_eq_false h2]; rfl
      go_enter Try.func30, Try.ntmps30
      go_wp2
      go_ret
      exact ⟨ret_bool e.out.symm, Below.refl _ _⟩

set_option maxRecDepth 100000 in
theorem noMem_any (B : Nat) (P Q : Nat) (G H x : Int) (h1 : 1 ≤ P) (hP : P ≤ 1048576) (hQ : Q ≤ 1048576) (w : World) (hc : BoxC w B 23 #[.int .i64 (P : Int), .int .i64 (Q : Int), .int .i64 G, .int .i64 H]) :
    Calls Try.prog 31 #[.int .i64 x, .pointer (some ⟨B, 0, none⟩)] w fun e w' => e = .returned (.bool (noM (P : Int) (Q : Int) x)) ∧ Below w.heap.size w w' := by
  have c0 := hc.cell 0
  have c1 := hc.cell 1
  have c2 := hc.cell 2
  have c3 := hc.cell 3
  simp at c0 c1 c2 c3
  clear hc
  by_cases h : x < 1
  · have e : Hid (noM (P : Int) (Q : Int) x = true) := by show _ = _; unfold noM; rw [decide_eq_true h]; simp
    go_enter Try.func31, Try.ntmps31
    go_wp2
    go_ret
    exact ⟨ret_bool e.out.symm, Below.refl _ _⟩
  · have h' : decide (x < 1) = false := by simpa using h
    by_cases h2 : (P : Int) ≤ x
    · have e : Hid (noM (P : Int) (Q : Int) x = true) := by show _ = _; unfold noM; rw [decide_eq_true h2]; simp
      go_enter Try.func31, Try.ntmps31
      go_wp2
      go_ret
      exact ⟨ret_bool e.out.symm, Below.refl _ _⟩
    · obtain ⟨n, rfl⟩ : ∃ n : Nat, x = (n : Int) := ⟨x.toNat, by omega⟩
      have hp' : decide ((P : Int) ≤ (n : Int)) = false := by simpa using h2
      have e : noM (P : Int) (Q : Int) (n : Int) = !decide (n ^ Q % P = 1) := by unfold noM; rw [h', hp']; simp
      have e2 : Hid (noM (P : Int) (Q : Int) (n : Int) = (((n ^ Q % P : Nat) : Int) != 1)) := by
        show _ = _
        rw [e]
        by_cases h3 : n ^ Q % P = 1
        · rw [decide_eq_true h3, h3]; rfl
        · rw [decide_eq_false h3]
          symm
          rw [Bool.not_false, bne_iff_ne]; omega
      have cR := fun w => raise_any P (Q : Int) G H n Q (by omega) (by omega) h1 hP w
      clear e h1 hP hQ
      generalize n ^ Q % P = y at *
      go_enter Try.func31, Try.ntmps31
      go_wp2_with (go_at_call 19; refine (cR _).mono ?_; rintro e w1 ⟨rfl, hB1⟩)
      go_ret
      exact ⟨ret_bool e2.out.symm, hB1⟩

/-! ### what is wrong with a group, exponents, members -/

/-- 0: nothing. -/
def aC (P Q G H : Int) (le lm : List Int) : Int := if gC P Q G H = 0 then if le.any (exB Q) = true then 2 else if lm.any (noM P Q) = true then 4 else 0 else gC P Q G H

set_option maxRecDepth 100000 in
set_option maxHeartbeats 2000000 in
theorem check_any (P Q G H : Int) (lo mo : Option Addr) (lc mc : Nat) (le lm : List Int) (hl : le.length ≤ 1048576) (hm : lm.length ≤ 1048576) (w : World) (lrow : IRow w lo le) (mrow : IRow w mo lm) :
    Calls Try.prog 18 #[.agg #[.int .i64 P, .int .i64 Q, .int .i64 G, .int .i64 H], .slice lo le.length lc, .slice mo lm.length mc] w fun e w' => e = .returned (.int .i64 (aC P Q G H le lm)) ∧ Below w.heap.size w w' := by
  have cC := fun w => Check_any P Q G H w
  have K := hid (Gb.new w P Q G H)
  obtain ⟨c0, c1, c2, c3⟩ := K.out.cells
  by_cases h0 : gC P Q G H = 0
  · obtain ⟨p, q, g, k, rfl, rfl, rfl, rfl, hG⟩ := gC_zero h0
    have p3 := hG.p3
    have pb := hG.big
    have ql := hG.qlt
    have cE : Hid (∀ w1, Gb w w1 (p : Int) (q : Int) (g : Int) (k : Int) → Calls Try.prog 27 #[.slice lo le.length lc, .func (.func 30) #[] #[.pointer (some ⟨w.heap.size, 0, none⟩)]] w1 fun e w' => e = .returned (.bool (le.any (exB (q : Int)))) ∧ Below w1.heap.size w1 w') := fun w1 hK =>
      conL_any 30 #[.pointer (some ⟨w.heap.size, 0, none⟩)] (enters_of Try.func30 (by decide) rfl) lo lc le (exB (q : Int)) hl w1 (ib lrow hK.2) (fun x hx w2 hB2 => noExp_any w.heap.size (q : Int) x w2 (hK.below hB2).cells.2.1)
    have cM : Hid (∀ w1, Gb w w1 (p : Int) (q : Int) (g : Int) (k : Int) → Calls Try.prog 27 #[.slice mo lm.length mc, .func (.func 31) #[] #[.pointer (some ⟨w.heap.size, 0, none⟩)]] w1 fun e w' => e = .returned (.bool (lm.any (noM (p : Int) (q : Int)))) ∧ Below w1.heap.size w1 w') := fun w1 hK =>
      conL_any 31 #[.pointer (some ⟨w.heap.size, 0, none⟩)] (enters_of Try.func31 (by decide) rfl) mo mc lm (noM (p : Int) (q : Int)) hm w1 (ib mrow hK.2) (fun x hx w2 hB2 => noMem_any w.heap.size p q (g : Int) (k : Int) x (by omega) (by omega) (by omega) w2 (hK.below hB2).1)
    have ha : aC (p : Int) (q : Int) (g : Int) (k : Int) le lm = if le.any (exB (q : Int)) = true then 2 else if lm.any (noM (p : Int) (q : Int)) = true then 4 else 0 := by
      unfold aC; rw [if_pos h0]
    rw [ha]
    rw [h0] at cC
    clear ha h0 hG lrow mrow p3 pb ql
    generalize le.any (exB (q : Int)) = b1 at *
    generalize lm.any (noM (p : Int) (q : Int)) = b2 at *
    generalize le.length = n1 at *
    generalize lm.length = n2 at *
    cases b1
    · cases b2
      · go_enter Try.func18, Try.ntmps18
        go_wp2_with (first
          | (go_at_call 26; refine (cC _).mono ?_; clear cC; rintro e w1 ⟨rfl, hB1⟩; have K1 := hid (K.out.below hB1); obtain ⟨d0, d1, d2, d3⟩ := K1.out.cells; clear hB1)
          | (go_at_call 27; refine (cE.out _ K1.out).mono ?_; clear cE; rintro e w2 ⟨rfl, hB2⟩; have K2 := hid (K1.out.below hB2); obtain ⟨e0, e1, e2, e3⟩ := K2.out.cells; clear hB2)
          | (go_at_call 27; refine (cM.out _ K2.out).mono ?_; clear cM; rintro e w3 ⟨rfl, hB3⟩; have K3 := hid (K2.out.below hB3); clear hB3))
        go_ret
        exact ⟨rfl, K3.out.2⟩
      · go_enter Try.func18, Try.ntmps18
        go_wp2_with (first
          | (go_at_call 26; refine (cC _).mono ?_; clear cC; rintro e w1 ⟨rfl, hB1⟩; have K1 := hid (K.out.below hB1); obtain ⟨d0, d1, d2, d3⟩ := K1.out.cells; clear hB1)
          | (go_at_call 27; refine (cE.out _ K1.out).mono ?_; clear cE; rintro e w2 ⟨rfl, hB2⟩; have K2 := hid (K1.out.below hB2); obtain ⟨e0, e1, e2, e3⟩ := K2.out.cells; clear hB2)
          | (go_at_call 27; refine (cM.out _ K2.out).mono ?_; clear cM; rintro e w3 ⟨rfl, hB3⟩; have K3 := hid (K2.out.below hB3); clear hB3))
        go_ret
        exact ⟨rfl, K3.out.2⟩
    · go_enter Try.func18, Try.ntmps18
      go_wp2_with (first
        | (go_at_call 26; refine (cC _).mono ?_; clear cC; rintro e w1 ⟨rfl, hB1⟩; have K1 := hid (K.out.below hB1); obtain ⟨d0, d1, d2, d3⟩ := K1.out.cells; clear hB1)
        | (go_at_call 27; refine (cE.out _ K1.out).mono ?_; clear cE; rintro e w2 ⟨rfl, hB2⟩; have K2 := hid (K1.out.below hB2); obtain ⟨e0, e1, e2, e3⟩ := K2.out.cells; clear hB2))
      go_ret
      exact ⟨rfl, K2.out.2⟩
  · have ha : aC P Q G H le lm = gC P Q G H := by unfold aC; rw [if_neg h0]
    rw [ha]
    clear ha lrow mrow
    generalize gC P Q G H = c at *
    generalize le.length = n1 at *
    generalize lm.length = n2 at *
    have h1 : (c != 0) = true := by simpa using h0
    go_enter Try.func18, Try.ntmps18
    go_wp2_with (go_at_call 26; refine (cC _).mono ?_; clear cC; rintro e w1 ⟨rfl, hB1⟩; have K1 := hid (K.out.below hB1); obtain ⟨d0, d1, d2, d3⟩ := K1.out.cells; clear hB1)
    go_ret
    exact ⟨rfl, K1.out.2⟩

/-! ### rows of one, two, four numbers -/

theorem irow_one (W : World) (x : Int) : IRow (W.alloc (.cells #[.int .i64 x] 2)) (some ⟨W.heap.size, 0, none⟩) [x] := by
  refine ⟨fun e => (by cases e), fun ad e j hj => ?_⟩
  obtain rfl : (⟨W.heap.size, 0, none⟩ : Addr) = ad := by simpa using e
  obtain rfl : j = 0 := by simpa using hj
  simp [co, zero_add_addr]

theorem irow_two (W : World) (x y : Int) : IRow (W.alloc (.cells #[.int .i64 x, .int .i64 y] 2)) (some ⟨W.heap.size, 0, none⟩) [x, y] := by
  refine ⟨fun e => (by cases e), fun ad e j hj => ?_⟩
  obtain rfl : (⟨W.heap.size, 0, none⟩ : Addr) = ad := by simpa using e
  have : j = 0 ∨ j = 1 := by simp at hj; omega
  rcases this with rfl | rfl <;> simp [co, zero_add_addr]

theorem irow_four (W : World) (x y z v : Int) : IRow (W.alloc (.cells #[.int .i64 x, .int .i64 y, .int .i64 z, .int .i64 v] 2)) (some ⟨W.heap.size, 0, none⟩) [x, y, z, v] := by
  refine ⟨fun e => (by cases e), fun ad e j hj => ?_⟩
  obtain rfl : (⟨W.heap.size, 0, none⟩ : Addr) = ad := by simpa using e
  have : j = 0 ∨ j = 1 ∨ j = 2 ∨ j = 3 := by simp at hj; omega
  rcases this with rfl | rfl | rfl | rfl <;> simp [co, zero_add_addr]

theorem alloc_b (w : World) (o : Obj) : Below w.heap.size w (w.alloc o) := (Below.refl _ _).alloc (Nat.le_refl _) o

theorem alloc_b2 (w : World) (o o' : Obj) : Below w.heap.size w ((w.alloc o).alloc o') := below_trans (alloc_b w o) (alloc_b _ o')

end Go.Proofs.Ytpflkihagebmlab.Calls158
