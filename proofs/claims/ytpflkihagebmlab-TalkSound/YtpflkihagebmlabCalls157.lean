/-
  Package group: the box of a group, powers, products, primes, Orders, and what is wrong with a group; and the document's answers to these.
-/
import Derived.Test.YtpflkihagebmlabBase4
import Derived.Test.YtpflkihagebmlabCalls22
import Derived.Test.YtpflkihagebmlabNum56
import Derived.Deep.RegionHeld3
import Derived.Shelf.Abstract
namespace Go.Proofs.Ytpflkihagebmlab.Calls157
set_option linter.unusedVariables false
open Go.ChangeShapes Go.WideShapes Go.ChangeAt Go.RowKit Go.Deep Go.Proofs.Ytpflkihagebmlab.Base Go.Proofs.Ytpflkihagebmlab.Base2 Go.Proofs.Ytpflkihagebmlab.Num Go.Proofs.Ytpflkihagebmlab.Num6 Go.Proofs.Ytpflkihagebmlab.Num7 Go.Proofs.Ytpflkihagebmlab.Num13 Go.Proofs.Ytpflkihagebmlab.Num16 Go.Proofs.Ytpflkihagebmlab.Num17 Go.Proofs.Ytpflkihagebmlab.Num34 Go.Proofs.Ytpflkihagebmlab.Base4 Go.Proofs.Ytpflkihagebmlab.Num56
open Go.Proofs.Ytpflkihagebmlab.Num3 (gcd_prime)
open Go.Proofs.Ytpflkihagebmlab.Num9 (fermat')
open Go.Proofs.Ytpflkihagebmlab.Calls9 (prB prB_iff Is_yes Is_no refIs_any)
open Go.Proofs.Ytpflkihagebmlab.Calls19 (Pow_yes refPow_any)
open Go.Proofs.Ytpflkihagebmlab.Calls22 (Order_yes)

theorem pw_n (o k p : Nat) : pw (o : Int) k p = o ^ k % p := by unfold pw; rw [rs_nat, ← Nat.pow_mod]

theorem refPow_nat (x k m : Nat) (hm1 : 1 ≤ m) (hm2 : m ≤ 1048576) (hk : k ≤ 2147483648) (w : World) :
    Calls Try.prog 43 #[.int .i64 (x : Int), .int .i64 (k : Int), .int .i64 (m : Int)] w fun e w' => e = .returned (.int .i64 (x ^ k % m : Nat)) ∧ w' = w := by
  have h := refPow_any (x : Int) m hm1 hm2 k w hk
  rwa [pw_n] at h

theorem wrap_in (x : Int) (h1 : -9223372036854775808 ≤ x) (h2 : x ≤ 9223372036854775807) : IntKind.i64.wrap x = x := by
  rw [IntKind.wrap_i64]; omega

theorem mul_bds {x y N : Nat} (hN : N ≤ 1048576) (hx : x < N) (hy : y < N) : 0 ≤ (x : Int) * (y : Int) ∧ (x : Int) * (y : Int) ≤ 1099511627776 := by
  have : x * y ≤ 1048576 * 1048576 := Nat.mul_le_mul (by omega) (by omega)
  have e : (x : Int) * (y : Int) = ((x * y : Nat) : Int) := by simp
  omega

theorem mul_tmod (x y N : Nat) : ((x : Int) * (y : Int)).tmod (N : Int) = ((x * y % N : Nat) : Int) := by
  rw [← Int.natCast_mul, ← Int.ofNat_tmod]

/-- A prime within the limits. -/
def isP (n : Int) : Bool := decide (1 ≤ n ∧ n ≤ 1048576) && prB n.toNat

theorem isP_nat (n : Nat) (h1 : 1 ≤ n) (h2 : n ≤ 1048576) : isP (n : Int) = prB n := by
  unfold isP; rw [decide_eq_true (by omega)]; simp

theorem Is_any (n : Int) : ∃ c : Int, ∀ w, Calls Try.prog 55 #[.int .i64 n] w fun e w' => e = .returned (.tuple #[.bool (isP n), .int .i64 c]) ∧ Below w.heap.size w w' := by
  by_cases h : 1 ≤ n ∧ n ≤ 1048576
  · obtain ⟨m, rfl⟩ : ∃ m : Nat, n = (m : Int) := ⟨n.toNat, by omega⟩
    have e : isP (m : Int) = prB m := isP_nat m (by omega) (by omega)
    exact ⟨0, fun w => by rw [e]; exact Is_yes m (by omega) (by omega) w⟩
  · have e : isP n = false := by unfold isP; rw [decide_eq_false h]; rfl
    exact ⟨2, fun w => by rw [e]; exact Is_no n h w⟩

theorem isPrime_any (n : Int) (w : World) :
    Calls Try.prog 39 #[.int .i64 n] w fun e w' => e = .returned (.bool (isP n)) ∧ Below w.heap.size w w' := by
  obtain ⟨c, hI⟩ := Is_any n
  generalize isP n = b at *
  go_enter Try.func39, Try.ntmps39
  go_wp2_with (go_at_call 55; refine (hI _).mono ?_; rintro e w1 ⟨rfl, hB1⟩)
  go_ret
  exact ⟨rfl, hB1⟩

/-! ### the group's box -/

/-- The cells of a group. -/
def gcs (P Q G H : Int) : Array Value := #[.int .i64 P, .int .i64 Q, .int .i64 G, .int .i64 H]

/-- The call's first block is the group's box. -/
def Gb (w wr : World) (P Q G H : Int) : Prop := BoxC wr w.heap.size 23 #[.int .i64 P, .int .i64 Q, .int .i64 G, .int .i64 H] ∧ Below w.heap.size w wr

theorem Gb.new (w : World) (P Q G H : Int) : Gb w (w.alloc (.cells #[.int .i64 P, .int .i64 Q, .int .i64 G, .int .i64 H] 23)) P Q G H := ⟨BoxC.new _ _ _, (Below.refl _ _).alloc (Nat.le_refl _) _⟩

theorem Gb.alloc {w wr : World} {P Q G H : Int} (h : Gb w wr P Q G H) (o : Obj) : Gb w (wr.alloc o) P Q G H := ⟨h.1.alloc o, h.2.alloc h.2.size _⟩

theorem Gb.drew {w wr : World} {P Q G H : Int} (h : Gb w wr P Q G H) : Gb w wr.drew P Q G H := ⟨h.1, h.2.drew⟩

theorem Gb.below {w wr w' : World} {P Q G H : Int} (h : Gb w wr P Q G H) (hb : Below wr.heap.size wr w') : Gb w w' P Q G H := ⟨(hb.block _ h.1.lt).trans h.1, below_trans h.2 hb⟩

theorem Gb.cells {w wr : World} {P Q G H : Int} (h : Gb w wr P Q G H) : wr.cell? ⟨w.heap.size, 0, none⟩ = some (.int .i64 P) ∧ wr.cell? ⟨w.heap.size, 1, none⟩ = some (.int .i64 Q) ∧ wr.cell? ⟨w.heap.size, 2, none⟩ = some (.int .i64 G) ∧ wr.cell? ⟨w.heap.size, 3, none⟩ = some (.int .i64 H) := ⟨by rw [h.1.cell 0]; rfl, by rw [h.1.cell 1]; rfl, by rw [h.1.cell 2]; rfl, by rw [h.1.cell 3]; rfl⟩

set_option maxRecDepth 100000 in
theorem raise_any (P : Nat) (Q G H : Int) (x k : Nat) (hx : x ≤ 1048576) (hk : k ≤ 2147483648) (h1 : 1 ≤ P) (h2 : P ≤ 1048576) (w : World) :
    Calls Try.prog 19 #[.agg #[.int .i64 (P : Int), .int .i64 Q, .int .i64 G, .int .i64 H], .int .i64 (x : Int), .int .i64 (k : Int)] w fun e w' => e = .returned (.int .i64 (x ^ k % P : Nat)) ∧ Below w.heap.size w w' := by
  have cP := fun w => Pow_yes (x : Int) k P (by omega) (by omega) hk h1 h2 w
  rw [pw_n] at cP
  have K := hid (Gb.new w (P : Int) Q G H)
  obtain ⟨c0, c1, c2, c3⟩ := K.out.cells
  generalize x ^ k % P = y at *
  go_enter Try.func19, Try.ntmps19
  go_wp2_with (go_at_call 32; refine (cP _).mono ?_; rintro e w' ⟨rfl, hw⟩; subst w')
  go_ret
  exact ⟨rfl, K.out.2⟩

set_option maxRecDepth 100000 in
theorem times_any (P : Nat) (Q G H : Int) (x y : Nat) (h2 : P ≤ 1048576) (hx : x < P) (hy : y < P) (w : World) :
    Calls Try.prog 35 #[.agg #[.int .i64 (P : Int), .int .i64 Q, .int .i64 G, .int .i64 H], .int .i64 (x : Int), .int .i64 (y : Int)] w fun e w' => e = .returned (.int .i64 (x * y % P : Nat)) ∧ Below w.heap.size w w' := by
  obtain ⟨m1, m2⟩ := mul_bds h2 hx hy
  have w1' : IntKind.i64.wrap ((x : Int) * (y : Int)) = (x : Int) * (y : Int) := wrap_in _ (by omega) (by omega)
  have n0 : ¬ (P : Int) = 0 := by omega
  have n1 : ¬ P = 0 := by omega
  have HE := hid (mul_tmod x y P)
  have K := hid (Gb.new w (P : Int) Q G H)
  obtain ⟨c0, c1, c2, c3⟩ := K.out.cells
  clear hx hy
  go_enter Try.func35, Try.ntmps35
  go_wp2
  go_ret
  exact ⟨ret_int HE.out, K.out.2⟩

set_option maxRecDepth 100000 in
theorem hasOrder_any (P Q x : Nat) (G H : Int) (hP : Pr P) (hP2 : P ≤ 1048576) (hx : 2 ≤ x) (hxP : x < P) (b : Bool) (hb : b = true ↔ IsOrd x P Q) (w : World) :
    Calls Try.prog 40 #[.agg #[.int .i64 (P : Int), .int .i64 (Q : Int), .int .i64 G, .int .i64 H], .int .i64 (x : Int)] w fun e w' => e = .returned (.bool b) ∧ Below w.heap.size w w' := by
  have hp := hP.1
  obtain ⟨o, ho, _⟩ := ord_ex (a := x) (m := P) (by omega) ((gcd_prime hP).2 (fun h => by have := Nat.le_of_dvd (by omega) h; omega))
  have ho' : IsOrd (rs (x : Int) P) P o := by rw [rs_nat, Nat.mod_eq_of_lt hxP]; exact ho
  have cO := fun w => Order_yes (x : Int) P o ⟨by omega, by omega⟩ (by omega) hP2 ho' w
  have hbo : b = ((o : Int) == (Q : Int)) := by
    cases hb' : ((o : Int) == (Q : Int)) with
    | true =>
      have e : o = Q := by have := beq_iff_eq.1 hb'; omega
      exact hb.2 (e ▸ ho)
    | false =>
      have e : ¬ o = Q := by have := beq_eq_false_iff_ne.1 hb'; omega
      cases b with
      | false => rfl
      | true => exact absurd (ho.uniq (hb.1 rfl)) e
  have HB := hid hbo
  have K := hid (Gb.new w (P : Int) (Q : Int) G H)
  clear hb hbo ho ho' hP
  go_enter Try.func40, Try.ntmps40
  go_wp2_with (go_at_call 56; refine (cO _).mono ?_; rintro e w1 ⟨rfl, hB1⟩; have K1 := hid (K.out.below hB1); obtain ⟨d0, d1, d2, d3⟩ := K1.out.cells; clear hB1)
  go_ret
  exact ⟨ret_bool (by rw [HB.out]), K1.out.2⟩

/-! ### what is wrong with a group -/

/-- The numbers are in range. -/
def Rg (P Q G H : Int) : Prop := (3 ≤ P ∧ P ≤ 1048576) ∧ (2 ≤ Q ∧ Q < P) ∧ (2 ≤ G ∧ G < P) ∧ 2 ≤ H ∧ H < P

def rgB (P Q G H : Int) : Bool := decide ((3 ≤ P ∧ P ≤ 1048576) ∧ (2 ≤ Q ∧ Q < P) ∧ (2 ≤ G ∧ G < P) ∧ 2 ≤ H ∧ H < P)

theorem rgB_iff (P Q G H : Int) : rgB P Q G H = true ↔ Rg P Q G H := by
  unfold rgB Rg
  exact decide_eq_true_iff

/-- P and Q are primes, and the powers of G and H by Q leave 1. -/
def gB (P Q G H : Nat) : Bool := prB P && prB Q && decide (G ^ Q % P = 1) && decide (H ^ Q % P = 1)

/-- What is wrong with a group; 0: nothing. -/
def gC (P Q G H : Int) : Int := if rgB P Q G H = true then if gB P.toNat Q.toNat G.toNat H.toNat = true then 0 else 3 else 2

/-- A group. -/
structure Grp (P Q G H : Nat) : Prop where
  g : Gp P Q G
  h : Gp P Q H
  p3 : 3 ≤ P
  big : P ≤ 1048576
  q2 : 2 ≤ Q
  qlt : Q < P

theorem Grp.gB {P Q G H : Nat} (h : Grp P Q G H) : gB P Q G H = true := by
  unfold Calls157.gB
  rw [(prB_iff P).2 h.g.pr, (prB_iff Q).2 h.g.prq, decide_eq_true h.g.one, decide_eq_true h.h.one]; rfl

theorem Rg.nat {P Q G H : Int} (h : Rg P Q G H) : ∃ p q g k : Nat, P = (p : Int) ∧ Q = (q : Int) ∧ G = (g : Int) ∧ H = (k : Int) := ⟨P.toNat, Q.toNat, G.toNat, H.toNat, by have := h.1.1; omega, by have := h.2.1.1; omega, by have := h.2.2.1.1; omega, by have := h.2.2.2.1; omega⟩

theorem Grp.of {P Q G H : Nat} (h : Rg (P : Int) (Q : Int) (G : Int) (H : Int)) (hb : Calls157.gB P Q G H = true) : Grp P Q G H := by
  unfold Calls157.gB at hb
  rw [Bool.and_eq_true, Bool.and_eq_true, Bool.and_eq_true, prB_iff, prB_iff, decide_eq_true_iff, decide_eq_true_iff] at hb
  obtain ⟨⟨⟨h1, h2⟩, h3⟩, h4⟩ := hb
  obtain ⟨⟨r1, r2⟩, ⟨r3, r4⟩, ⟨r5, r6⟩, r7, r8⟩ := h
  exact ⟨⟨h1, h2, h3, by omega, by omega⟩, ⟨h1, h2, h4, by omega, by omega⟩, by omega, by omega, by omega, by omega⟩

theorem Grp.rg {P Q G H : Nat} (h : Grp P Q G H) : Rg (P : Int) (Q : Int) (G : Int) (H : Int) := by
  have := h.g.two; have := h.g.lt; have := h.h.two; have := h.h.lt; have := h.p3; have := h.big; have := h.q2; have := h.qlt
  exact ⟨⟨by omega, by omega⟩, ⟨by omega, by omega⟩, ⟨by omega, by omega⟩, by omega, by omega⟩

theorem Grp.code {P Q G H : Nat} (h : Grp P Q G H) : gC (P : Int) (Q : Int) (G : Int) (H : Int) = 0 := by
  unfold gC
  rw [if_pos ((rgB_iff _ _ _ _).2 h.rg), if_pos (by simpa using h.gB)]

theorem gC_zero {P Q G H : Int} (h : gC P Q G H = 0) : ∃ p q g k : Nat, P = (p : Int) ∧ Q = (q : Int) ∧ G = (g : Int) ∧ H = (k : Int) ∧ Grp p q g k := by
  unfold gC at h
  split at h
  · rename_i hr0
    have hr := (rgB_iff _ _ _ _).1 hr0
    obtain ⟨p, q, g, k, rfl, rfl, rfl, rfl⟩ := hr.nat
    split at h
    · rename_i hb
      exact ⟨p, q, g, k, rfl, rfl, rfl, rfl, Grp.of hr (by simpa using hb)⟩
    · omega
  · omega

theorem gp_dvd {P Q G : Nat} (h : Gp P Q G) : (P - 1) % Q = 0 := by
  have h2 := h.lt
  have h3 := h.two
  have := (h.ord.dvd (P - 1)).1 (by rw [fermat' h.pr (by rw [Nat.mod_eq_of_lt h2]; omega), one_mod h.pr])
  exact Nat.mod_eq_zero_of_dvd this

theorem ord_one {P Q G : Nat} (hP : Pr P) (hQ : Pr Q) (h2 : 2 ≤ G) (hl : G < P) : IsOrd G P Q ↔ G ^ Q % P = 1 := by
  constructor
  · intro h
    have := h.2.1
    rwa [one_mod hP] at this
  · intro h
    exact Gp.ord ⟨hP, hQ, h, h2, hl⟩

set_option maxRecDepth 100000 in
set_option maxHeartbeats 4000000 in
theorem Check_range (P Q G H : Int) (h : ¬ Rg P Q G H) (w : World) :
    Calls Try.prog 26 #[.agg #[.int .i64 P, .int .i64 Q, .int .i64 G, .int .i64 H]] w fun e w' => e = .returned (.int .i64 2) ∧ Below w.heap.size w w' := by
  have K := hid (Gb.new w P Q G H)
  obtain ⟨c0, c1, c2, c3⟩ := K.out.cells
  have hh : P < 3 ∨ (¬ P < 3 ∧ (1048576 < P ∨ (¬ 1048576 < P ∧ (Q < 2 ∨ (¬ Q < 2 ∧ (P ≤ Q ∨ (¬ P ≤ Q ∧ (G < 2 ∨ (¬ G < 2 ∧ (P ≤ G ∨ (¬ P ≤ G ∧ (H < 2 ∨ (¬ H < 2 ∧ P ≤ H))))))))))))) := by
    have := h; unfold Rg at this; omega
  clear h
  rcases hh with n1 | ⟨n1, n2 | ⟨n2, n3 | ⟨n3, n4 | ⟨n4, n5 | ⟨n5, n6 | ⟨n6, n7 | ⟨n7, n8⟩⟩⟩⟩⟩⟩⟩
  all_goals
    go_enter Try.func26, Try.ntmps26
    go_wp2
    go_ret
    exact ⟨rfl, K.out.2⟩

set_option maxRecDepth 100000 in
set_option maxHeartbeats 4000000 in
/-- In range: what the four questions answer decides. -/
theorem Check_in (P Q G H : Nat) (h : Rg (P : Int) (Q : Int) (G : Int) (H : Int)) (c : Int) (hc : c = gC (P : Int) (Q : Int) (G : Int) (H : Int)) (w : World) :
    Calls Try.prog 26 #[.agg #[.int .i64 (P : Int), .int .i64 (Q : Int), .int .i64 (G : Int), .int .i64 (H : Int)]] w fun e w' => e = .returned (.int .i64 c) ∧ Below w.heap.size w w' := by
  have K := hid (Gb.new w (P : Int) (Q : Int) (G : Int) (H : Int))
  obtain ⟨c0, c1, c2, c3⟩ := K.out.cells
  have hr := h
  obtain ⟨⟨r1, r2⟩, ⟨r3, r4⟩, ⟨r5, r6⟩, r7, r8⟩ := h
  have cP := fun w => isPrime_any (P : Int) w
  have cQ := fun w => isPrime_any (Q : Int) w
  rw [isP_nat P (by omega) (by omega)] at cP
  rw [isP_nat Q (by omega) (by omega)] at cQ
  have n1 : ¬ (P : Int) < 3 := by omega
  have n2 : ¬ 1048576 < (P : Int) := by omega
  have n3 : ¬ (Q : Int) < 2 := by omega
  have n4 : ¬ (P : Int) ≤ (Q : Int) := by omega
  have n5 : ¬ (G : Int) < 2 := by omega
  have n6 : ¬ (P : Int) ≤ (G : Int) := by omega
  have n7 : ¬ (H : Int) < 2 := by omega
  have n8 : ¬ (P : Int) ≤ (H : Int) := by omega
  have n9 : ¬ (Q : Int) = 0 := by omega
  have n10 : ¬ Q = 0 := by omega
  have hw : IntKind.i64.wrap ((P : Int) - 1) = (P : Int) - 1 := wrap_in _ (by omega) (by omega)
  have hm : ((P : Int) - 1).tmod (Q : Int) = (((P - 1) % Q : Nat) : Int) := by
    have e : (P : Int) - 1 = ((P - 1 : Nat) : Int) := by omega
    rw [e, ← Int.ofNat_tmod]
  have hg : gC (P : Int) (Q : Int) (G : Int) (H : Int) = if gB P Q G H = true then 0 else 3 := by
    unfold gC; rw [if_pos ((rgB_iff _ _ _ _).2 hr)]; simp
  rw [hg] at hc
  by_cases hP : Pr P
  · rw [(prB_iff P).2 hP] at cP
    by_cases hQ : Pr Q
    · rw [(prB_iff Q).2 hQ] at cQ
      by_cases hD : (P - 1) % Q = 0
      · rw [hD] at hm
        have hm2 : (((P : Int) - 1).tmod (Q : Int) != 0) = false := by rw [hm]; rfl
        rw [Int.tmod_eq_emod_of_nonneg (by omega)] at hm
        have hm3 : (((P : Int) - 1) % (Q : Int) != 0) = false := by rw [hm]; rfl
        clear hm
        have cG := fun w => hasOrder_any P Q G (G : Int) (H : Int) hP (by omega) (by omega) (by omega) (decide (G ^ Q % P = 1)) (by rw [decide_eq_true_iff, ord_one hP hQ (by omega) (by omega)]) w
        have cH := fun w => hasOrder_any P Q H (G : Int) (H : Int) hP (by omega) (by omega) (by omega) (decide (H ^ Q % P = 1)) (by rw [decide_eq_true_iff, ord_one hP hQ (by omega) (by omega)]) w
        have hc2 : c = if (decide (G ^ Q % P = 1) && decide (H ^ Q % P = 1)) = true then 0 else 3 := by
          rw [hc]; unfold gB; rw [(prB_iff P).2 hP, (prB_iff Q).2 hQ]; simp
        clear hc hg hP hQ hD hr r1 r2 r3 r4 r5 r6 r7 r8
        generalize decide (G ^ Q % P = 1) = bg at *
        generalize decide (H ^ Q % P = 1) = bh at *
        cases bg
        · obtain rfl : c = 3 := by simpa using hc2
          clear hc2 cH
          go_enter Try.func26, Try.ntmps26
          go_wp2_with (first
            | (go_at_call 39; refine (cP _).mono ?_; clear cP; rintro e w1 ⟨rfl, hB1⟩; have K1 := hid (K.out.below hB1); obtain ⟨d0, d1, d2, d3⟩ := K1.out.cells; clear hB1)
            | (go_at_call 39; refine (cQ _).mono ?_; clear cQ; rintro e w2 ⟨rfl, hB2⟩; have K2 := hid (K1.out.below hB2); obtain ⟨e0, e1, e2, e3⟩ := K2.out.cells; clear hB2)
            | (go_at_call 40; refine (cG _).mono ?_; clear cG; rintro e w3 ⟨rfl, hB3⟩; have K3 := hid (K2.out.below hB3); obtain ⟨f0, f1, f2, f3⟩ := K3.out.cells; clear hB3))
          go_ret
          exact ⟨rfl, K3.out.2⟩
        · cases bh
          · obtain rfl : c = 3 := by simpa using hc2
            clear hc2
            go_enter Try.func26, Try.ntmps26
            go_wp2_with (first
              | (go_at_call 39; refine (cP _).mono ?_; clear cP; rintro e w1 ⟨rfl, hB1⟩; have K1 := hid (K.out.below hB1); obtain ⟨d0, d1, d2, d3⟩ := K1.out.cells; clear hB1)
              | (go_at_call 39; refine (cQ _).mono ?_; clear cQ; rintro e w2 ⟨rfl, hB2⟩; have K2 := hid (K1.out.below hB2); obtain ⟨e0, e1, e2, e3⟩ := K2.out.cells; clear hB2)
              | (go_at_call 40; refine (cG _).mono ?_; clear cG; rintro e w3 ⟨rfl, hB3⟩; have K3 := hid (K2.out.below hB3); obtain ⟨f0, f1, f2, f3⟩ := K3.out.cells; clear hB3)
              | (go_at_call 40; refine (cH _).mono ?_; clear cH; rintro e w4 ⟨rfl, hB4⟩; have K4 := hid (K3.out.below hB4); obtain ⟨g0, g1, g2, g3⟩ := K4.out.cells; clear hB4))
            go_ret
            exact ⟨rfl, K4.out.2⟩
          · obtain rfl : c = 0 := by simpa using hc2
            clear hc2
            go_enter Try.func26, Try.ntmps26
            go_wp2_with (first
              | (go_at_call 39; refine (cP _).mono ?_; clear cP; rintro e w1 ⟨rfl, hB1⟩; have K1 := hid (K.out.below hB1); obtain ⟨d0, d1, d2, d3⟩ := K1.out.cells; clear hB1)
              | (go_at_call 39; refine (cQ _).mono ?_; clear cQ; rintro e w2 ⟨rfl, hB2⟩; have K2 := hid (K1.out.below hB2); obtain ⟨e0, e1, e2, e3⟩ := K2.out.cells; clear hB2)
              | (go_at_call 40; refine (cG _).mono ?_; clear cG; rintro e w3 ⟨rfl, hB3⟩; have K3 := hid (K2.out.below hB3); obtain ⟨f0, f1, f2, f3⟩ := K3.out.cells; clear hB3)
              | (go_at_call 40; refine (cH _).mono ?_; clear cH; rintro e w4 ⟨rfl, hB4⟩; have K4 := hid (K3.out.below hB4); obtain ⟨g0, g1, g2, g3⟩ := K4.out.cells; clear hB4))
            go_ret
            exact ⟨rfl, K4.out.2⟩
      · obtain rfl : c = 3 := by
          rw [hc, if_neg]
          intro hb
          exact hD (gp_dvd (Grp.of hr hb).g)
        have hm2 : (((P : Int) - 1).tmod (Q : Int) != 0) = true := by
          rw [hm, bne_iff_ne]; omega
        rw [Int.tmod_eq_emod_of_nonneg (by omega)] at hm
        have hm3 : (((P : Int) - 1) % (Q : Int) != 0) = true := by
          rw [hm, bne_iff_ne]; omega
        clear hc hg hP hQ hD hr r1 r2 r3 r4 r5 r6 r7 r8 hm
        go_enter Try.func26, Try.ntmps26
        go_wp2_with (first
          | (go_at_call 39; refine (cP _).mono ?_; clear cP; rintro e w1 ⟨rfl, hB1⟩; have K1 := hid (K.out.below hB1); obtain ⟨d0, d1, d2, d3⟩ := K1.out.cells; clear hB1)
          | (go_at_call 39; refine (cQ _).mono ?_; clear cQ; rintro e w2 ⟨rfl, hB2⟩; have K2 := hid (K1.out.below hB2); obtain ⟨e0, e1, e2, e3⟩ := K2.out.cells; clear hB2))
        go_ret
        exact ⟨rfl, K2.out.2⟩
    · have hq : prB Q = false := by
        cases e : prB Q with
        | false => rfl
        | true => exact absurd ((prB_iff Q).1 e) hQ
      rw [hq] at cQ
      obtain rfl : c = 3 := by
        rw [hc, if_neg]
        unfold gB; rw [hq]; simp
      clear hc hg hP hQ hr r1 r2 r3 r4 r5 r6 r7 r8 hm hq
      go_enter Try.func26, Try.ntmps26
      go_wp2_with (first
        | (go_at_call 39; refine (cP _).mono ?_; clear cP; rintro e w1 ⟨rfl, hB1⟩; have K1 := hid (K.out.below hB1); obtain ⟨d0, d1, d2, d3⟩ := K1.out.cells; clear hB1)
        | (go_at_call 39; refine (cQ _).mono ?_; clear cQ; rintro e w2 ⟨rfl, hB2⟩; have K2 := hid (K1.out.below hB2); obtain ⟨e0, e1, e2, e3⟩ := K2.out.cells; clear hB2))
      go_ret
      exact ⟨rfl, K2.out.2⟩
  · have hp : prB P = false := by
      cases e : prB P with
      | false => rfl
      | true => exact absurd ((prB_iff P).1 e) hP
    rw [hp] at cP
    obtain rfl : c = 3 := by
      rw [hc, if_neg]
      unfold gB; rw [hp]; simp
    clear hc hg hP hr r1 r2 r3 r4 r5 r6 r7 r8 hm hp cQ
    go_enter Try.func26, Try.ntmps26
    go_wp2_with (go_at_call 39; refine (cP _).mono ?_; clear cP; rintro e w1 ⟨rfl, hB1⟩; have K1 := hid (K.out.below hB1); obtain ⟨d0, d1, d2, d3⟩ := K1.out.cells; clear hB1)
    go_ret
    exact ⟨rfl, K1.out.2⟩

theorem Check_any (P Q G H : Int) (w : World) :
    Calls Try.prog 26 #[.agg #[.int .i64 P, .int .i64 Q, .int .i64 G, .int .i64 H]] w fun e w' => e = .returned (.int .i64 (gC P Q G H)) ∧ Below w.heap.size w w' := by
  by_cases h : Rg P Q G H
  · obtain ⟨p, q, g, k, rfl, rfl, rfl, rfl⟩ := h.nat
    exact Check_in p q g k h _ rfl w
  · have e : gC P Q G H = 2 := by unfold gC; rw [if_neg (fun e => h ((rgB_iff _ _ _ _).1 e))]
    rw [e]
    exact Check_range P Q G H h w

end Go.Proofs.Ytpflkihagebmlab.Calls157
