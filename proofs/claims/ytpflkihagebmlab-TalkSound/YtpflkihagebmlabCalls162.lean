/-
  The statements' question whether numbers are exponents of a group that may be; and what package group's calls answer at all arguments.
-/
import Derived.Test.YtpflkihagebmlabCalls159
import Derived.Test.YtpflkihagebmlabCalls160
namespace Go.Proofs.Ytpflkihagebmlab.Calls162
set_option linter.unusedVariables false
open Go.ChangeShapes Go.WideShapes Go.ChangeAt Go.RowKit Go.Deep Go.Proofs.Ytpflkihagebmlab.Base Go.Proofs.Ytpflkihagebmlab.Base2 Go.Proofs.Ytpflkihagebmlab.Num Go.Proofs.Ytpflkihagebmlab.Num16 Go.Proofs.Ytpflkihagebmlab.Num56 Go.Proofs.Ytpflkihagebmlab.Base4 Go.Proofs.Ytpflkihagebmlab.Calls157 Go.Proofs.Ytpflkihagebmlab.Calls158 Go.Proofs.Ytpflkihagebmlab.Calls159 Go.Proofs.Ytpflkihagebmlab.Calls160

theorem bx {W W' : World} {B : Nat} {t : TypeId} {cs : Array Value} (h : BoxC W B t cs) (hb : Below W.heap.size W W') : BoxC W' B t cs := (hb.block B h.lt).trans h

theorem good_any (P Q G H : Int) (b : Bool) (hb : b = true ↔ gC P Q G H = 0) (w : World) :
    Calls Try.prog 17 #[.agg #[.int .i64 P, .int .i64 Q, .int .i64 G, .int .i64 H]] w fun e w' => e = .returned (.bool b) ∧ Below w.heap.size w w' := by
  have cC := fun w => refCheck_any P Q G H w
  have K := hid (Gb.new w P Q G H)
  obtain ⟨c0, c1, c2, c3⟩ := K.out.cells
  generalize gC P Q G H = c at *
  have e : Hid (b = (c == 0)) := by
    show b = _
    cases b with
    | true => rw [hb.1 rfl]; rfl
    | false =>
      symm
      rw [beq_eq_false_iff_ne]
      intro h
      have := hb.2 h
      cases this
  clear hb
  go_enter Try.func17, Try.ntmps17
  go_wp2_with (go_at_call 29; refine (cC _).mono ?_; clear cC; rintro e w1 ⟨rfl, hB1⟩; have K1 := hid (K.out.below hB1); clear hB1)
  go_ret
  exact ⟨ret_bool e.out.symm, K1.out.2⟩

set_option maxRecDepth 100000 in
set_option maxHeartbeats 1000000 in
theorem powers_any (P Q G H : Int) (lo : Option Addr) (lc : Nat) (le : List Int) (hl : le.length ≤ 1048576) (b : Bool) (hb : b = true ↔ aC P Q G H le [] = 0) (w : World) (lrow : IRow w lo le) :
    Calls Try.prog 8 #[.agg #[.int .i64 P, .int .i64 Q, .int .i64 G, .int .i64 H], .slice lo le.length lc] w fun e w' => e = .returned (.bool b) ∧ Below w.heap.size w w' := by
  have K := hid (Gb.new w P Q G H)
  obtain ⟨c0, c1, c2, c3⟩ := K.out.cells
  obtain ⟨N, hN⟩ : ∃ N, N = le.length := ⟨_, rfl⟩
  have HN : Hid (N = le.length) := hN
  by_cases hx : le.any (exB Q) = true
  · have hb0 : b = false := by
      cases b with
      | false => rfl
      | true =>
        have := hb.1 rfl
        unfold aC at this
        split at this
        · omega
        · rename_i h; exact absurd this h
    subst hb0
    have HX := hid hx
    rw [← hN] at hl ⊢
    clear hN hx hb
    go_enter Try.func8, Try.ntmps8
    go_wp2
    go_loopw [9] (fun i wr => ∃ k : Nat, i = .int .i64 (k : Int) ∧ k ≤ N ∧ Hid (∀ j, j < k → exB Q (co le j) = false) ∧ Hid (Gb w wr P Q G H)) (fun i wr => ((N : Int) - intOf i).toNat)
    case atStart => exact ⟨0, rfl, by omega, fun j hj => by omega, K⟩
    case round =>
      obtain ⟨k, rfl, hk, hnot, KR⟩ := hrel
      obtain ⟨e0, e1, e2, e3⟩ := KR.out.cells
      by_cases hgo : k < N
      · have hgo' : (k : Int) < (N : Int) := by omega
        have hkl : Hid (k < le.length) := by have := HN.out; show k < le.length; omega
        rcases lo with _ | ad
        · exact (irow_none lrow hkl.out).elim
        · have c := (ib lrow KR.out.2).2 ad rfl k hkl.out
          obtain ⟨x, hxe⟩ : ∃ x, co le k = x := ⟨_, rfl⟩
          rw [hxe] at c
          have HE := hid hxe
          clear hxe
          by_cases hx0 : x < 0
          · go_wp2
            go_ret
            exact ⟨rfl, KR.out.2⟩
          · have hx0' : decide (x < 0) = false := by simpa using hx0
            by_cases hxQ : Q ≤ x
            · go_wp2
              go_ret
              exact ⟨rfl, KR.out.2⟩
            · have hn : Hid (∀ j, j < k + 1 → exB Q (co le j) = false) := fun j hj => by
                by_cases e : j = k
                · subst e; rw [HE.out, exB_iff]; omega
                · exact hnot.out j (by omega)
              go_wp2
              go_roundw
              case rel => exact ⟨k + 1, by simp, by omega, hn, KR⟩
              case measure => exact measK hgo
      · exfalso
        obtain ⟨x, h1, h2⟩ := List.any_eq_true.1 HX.out
        obtain ⟨j, hj, e⟩ := List.getElem_of_mem h1
        have := hnot.out j (by have := HN.out; omega)
        have e2 : co le j = x := by simp [co, List.getD, hj, e]
        rw [e2, h2] at this
        cases this
  · have hx : le.any (exB Q) = false := by simpa using hx
    have hg : b = true ↔ gC P Q G H = 0 := by
      rw [hb]
      unfold aC
      by_cases h0 : gC P Q G H = 0
      · rw [if_pos h0, hx]; simp [h0]
      · rw [if_neg h0]
    have cG := fun w => good_any P Q G H b hg w
    have HX : Hid (∀ k, k < N → 0 ≤ co le k ∧ co le k < Q) := fun k hk => by
      rw [← exB_iff]
      cases e : exB Q (co le k) with
      | false => rfl
      | true =>
        have := List.any_eq_true.2 ⟨co le k, co_mem (by rw [← hN]; exact hk), e⟩
        rw [hx] at this; cases this
    rw [← hN] at hl ⊢
    clear hN hx hb hg
    go_enter Try.func8, Try.ntmps8
    go_wp2
    go_loopw [9] (fun i wr => ∃ k : Nat, i = .int .i64 (k : Int) ∧ k ≤ N ∧ Hid (Gb w wr P Q G H)) (fun i wr => ((N : Int) - intOf i).toNat)
    case atStart => exact ⟨0, rfl, by omega, K⟩
    case round =>
      obtain ⟨k, rfl, hk, KR⟩ := hrel
      obtain ⟨e0, e1, e2, e3⟩ := KR.out.cells
      by_cases hgo : k < N
      · have hgo' : (k : Int) < (N : Int) := by omega
        have hkl : Hid (k < le.length) := by have := HN.out; show k < le.length; omega
        rcases lo with _ | ad
        · exact (irow_none lrow hkl.out).elim
        · have c := (ib lrow KR.out.2).2 ad rfl k hkl.out
          obtain ⟨hx1, hx2⟩ := HX.out k hgo
          generalize co le k = x at *
          have hx1' : ¬ x < 0 := by omega
          have hx2' : ¬ Q ≤ x := by omega
          go_wp2
          go_roundw
          case rel => exact ⟨k + 1, by simp, by omega, KR⟩
          case measure => exact measK hgo
      · have hgo' : ¬ (k : Int) < (N : Int) := by omega
        go_wp2_with (go_at_call 17; refine (cG _).mono ?_; clear cG; rintro e w1 ⟨rfl, hB1⟩; have K1 := hid (KR.out.below hB1); clear hB1)
        go_ret
        exact ⟨rfl, K1.out.2⟩

theorem irow_three (W : World) (x y z : Int) : IRow (W.alloc (.cells #[.int .i64 x, .int .i64 y, .int .i64 z] 2)) (some ⟨W.heap.size, 0, none⟩) [x, y, z] := by
  refine ⟨fun e => (by cases e), fun ad e j hj => ?_⟩
  obtain rfl : (⟨W.heap.size, 0, none⟩ : Addr) = ad := by simpa using e
  have : j = 0 ∨ j = 1 ∨ j = 2 := by simp at hj; omega
  rcases this with rfl | rfl | rfl <;> simp [co, zero_add_addr]

theorem pk1 (P Q G H a : Int) (b : Bool) (hb : b = true ↔ aC P Q G H [a] [] = 0) (wr : World) :
    Calls Try.prog 8 #[.agg #[.int .i64 P, .int .i64 Q, .int .i64 G, .int .i64 H], .slice (some ⟨wr.heap.size, 0, none⟩) 1 1] (wr.alloc (.cells #[.int .i64 a] 2)) fun e w' => e = .returned (.bool b) ∧ Below wr.heap.size wr w' :=
  (powers_any P Q G H _ 1 [a] (by simp) b hb _ (irow_one wr a)).mono fun e w' h => ⟨h.1, below_trans (alloc_b wr _) h.2⟩

theorem pk2 (P Q G H a a' : Int) (b : Bool) (hb : b = true ↔ aC P Q G H [a, a'] [] = 0) (wr : World) :
    Calls Try.prog 8 #[.agg #[.int .i64 P, .int .i64 Q, .int .i64 G, .int .i64 H], .slice (some ⟨wr.heap.size, 0, none⟩) 2 2] (wr.alloc (.cells #[.int .i64 a, .int .i64 a'] 2)) fun e w' => e = .returned (.bool b) ∧ Below wr.heap.size wr w' :=
  (powers_any P Q G H _ 2 [a, a'] (by simp) b hb _ (irow_two wr a a')).mono fun e w' h => ⟨h.1, below_trans (alloc_b wr _) h.2⟩

theorem pk3 (P Q G H a r s : Int) (b : Bool) (hb : b = true ↔ aC P Q G H [a, r, s] [] = 0) (wr : World) :
    Calls Try.prog 8 #[.agg #[.int .i64 P, .int .i64 Q, .int .i64 G, .int .i64 H], .slice (some ⟨wr.heap.size, 0, none⟩) 3 3] (wr.alloc (.cells #[.int .i64 a, .int .i64 r, .int .i64 s] 2)) fun e w' => e = .returned (.bool b) ∧ Below wr.heap.size wr w' :=
  (powers_any P Q G H _ 3 [a, r, s] (by simp) b hb _ (irow_three wr a r s)).mono fun e w' h => ⟨h.1, below_trans (alloc_b wr _) h.2⟩

theorem bool_of (Pp : Prop) : ∃ b : Bool, (b = true ↔ Pp) := by
  rcases Classical.em Pp with h | h
  · exact ⟨true, ⟨fun _ => h, fun _ => rfl⟩⟩
  · exact ⟨false, ⟨fun e => (by cases e), fun e => absurd e h⟩⟩

/-! ### what the calls answer at all arguments -/

theorem Public_any (P Q G H a : Int) : ∃ y : Int, ∀ w, Calls Try.prog 9 #[.agg #[.int .i64 P, .int .i64 Q, .int .i64 G, .int .i64 H], .int .i64 a] w fun e w' => e = .returned (.tuple #[.int .i64 y, .int .i64 (aC P Q G H [a] [])]) ∧ Below w.heap.size w w' := by
  by_cases h : aC P Q G H [a] [] = 0
  · obtain ⟨p, q, g, k, rfl, rfl, rfl, rfl, hG, h1, _⟩ := aC_zero h
    obtain ⟨n, rfl, hn⟩ := h1 a (by simp)
    exact ⟨_, fun w => by rw [h]; exact Public_yes p q g k n hG hn w⟩
  · exact ⟨0, fun w => Public_bad P Q G H a h w⟩

/-- Nothing is wrong with fewer numbers where nothing is with more. -/
theorem aC_sub {P Q G H : Int} {le le' lm lm' : List Int} (h : aC P Q G H le lm = 0) (h1 : ∀ x ∈ le', x ∈ le) (h2 : ∀ x ∈ lm', x ∈ lm) : aC P Q G H le' lm' = 0 := by
  obtain ⟨p, q, g, k, rfl, rfl, rfl, rfl, hG, e1, e2⟩ := aC_zero h
  exact aC_of hG (fun x hx => e1 x (h1 x hx)) (fun x hx => e2 x (h2 x hx))

/-- What is locked is opened. -/
theorem back {P Q A m a : Nat} (hA : Mem P Q A) (hm : m < P) (ha : a < Q) : (m * (A ^ a % P) % P) * (A ^ (Q - a) % P) % P = m := by
  rw [Nat.mod_mul_mod, Nat.mul_assoc, Nat.mul_mod, Nat.mul_comm (A ^ a % P), quot_pow hA ha, Nat.mul_one, Nat.mod_mod, Nat.mod_eq_of_lt hm]

theorem lock_swap (P G a r m : Nat) : m * ((G ^ a % P) ^ r % P) % P = m * ((G ^ r % P) ^ a % P) % P := by rw [shares]

theorem mul4 (P m n u v : Nat) : (m * (u % P) % P) * (n * (v % P) % P) % P = (m * n % P) * (u * v % P) % P := by
  rw [← Nat.mul_mod, Nat.mod_mul_mod, Nat.mul_mod_mod]
  have e : m * (u % P) * (n * (v % P)) = m * n * ((u % P) * (v % P)) := by
    rw [Nat.mul_assoc, Nat.mul_assoc, Nat.mul_left_comm (u % P) n (v % P)]
  rw [e, Nat.mul_mod, ← Nat.mul_mod u v P, ← Nat.mul_mod (m * n) (u * v) P]

/-- The product of two locked numbers is the product, locked. -/
theorem lock_mul (P A B a m n : Nat) : (m * (A ^ a % P) % P) * (n * (B ^ a % P) % P) % P = (m * n % P) * ((A * B % P) ^ a % P) % P := by
  rw [mul4, ← Nat.pow_mod, Nat.mul_pow, Nat.mul_mod_mod]

end Go.Proofs.Ytpflkihagebmlab.Calls162
