/-
  For any group, any secret, any member and any two drawn numbers: what was locked is opened, and each drawn number makes another pair of it.
-/
import Derived.Test.YtilpdoihgfonhabRows
import Derived.Test.YtilpdoihgfonhabCalls162
import Derived.Test.YtilpdoihgfonhabBase10
import Derived.WalkKit
import Derived.ProofKit
import Derived.OpenShut
import Derived.Carry
namespace Go.Proofs.Ytilpdoihgfonhab.groupOpens
open Go.ChangeShapes Go.WideShapes Go.ChangeAt Go.RowKit Go.Deep Go.Proofs.Ytilpdoihgfonhab.Base Go.Proofs.Ytilpdoihgfonhab.Base2 Go.Proofs.Ytilpdoihgfonhab.Base4 Go.Proofs.Ytilpdoihgfonhab.Base10 Go.Proofs.Ytilpdoihgfonhab.Num Go.Proofs.Ytilpdoihgfonhab.Num56 Go.Proofs.Ytilpdoihgfonhab.Calls157 Go.Proofs.Ytilpdoihgfonhab.Calls158 Go.Proofs.Ytilpdoihgfonhab.Calls160 Go.Proofs.Ytilpdoihgfonhab.Calls159 Go.Proofs.Ytilpdoihgfonhab.Calls162
set_option linter.unusedVariables false

theorem own : ownKnob Try.prog.godebug = none := by kernel_rfl

theorem laidOut : laidOutB Try.prog = true := by kernel_rfl

theorem cells2 : Try.prog.cellsOf 2 = 1 := by kernel_rfl

theorem cells_G : Try.prog.cellsOf 23 = 4 := by kernel_rfl

set_option maxRecDepth 100000 in
set_option maxHeartbeats 1000000 in
/-- a is none. -/
theorem walkN (P Q G H a m r s y c : Int) (hc : c ≠ 0)
    (cA : ∀ w, Calls Try.prog 6 #[.agg #[.int .i64 P, .int .i64 Q, .int .i64 G, .int .i64 H], .int .i64 a] w fun e w' => e = .returned (.tuple #[.int .i64 y, .int .i64 c]) ∧ Below w.heap.size w w')
    (cP : ∀ wr, Calls Try.prog 7 #[.agg #[.int .i64 P, .int .i64 Q, .int .i64 G, .int .i64 H], .slice (some ⟨wr.heap.size, 0, none⟩) 1 1] (wr.alloc (.cells #[.int .i64 a] 2)) fun e w' => e = .returned (.bool false) ∧ Below wr.heap.size wr w') (w : World) :
    Calls Try.prog 4 #[.agg #[.int .i64 P, .int .i64 Q, .int .i64 G, .int .i64 H], .int .i64 a, .int .i64 m, .int .i64 r, .int .i64 s] w fun e w' => e = .returned (.bool true) ∧ Below w.heap.size w w' := by
  have K := hid (Gb.new w P Q G H)
  obtain ⟨c0, c1, c2, c3⟩ := K.out.cells
  have h1 : (c != 0) = true := by simpa using hc
  go_enter Try.func4, Try.ntmps4
  go_wp2_with (first
    | (go_at_call 6; refine (cA _).mono ?_; clear cA; rintro e w1 ⟨rfl, hB1⟩; have K1 := hid (K.out.below hB1); obtain ⟨d0, d1, d2, d3⟩ := K1.out.cells; clear hB1)
    | (go_at_call 7; refine (cP _).mono ?_; clear cP; rintro e w3 ⟨rfl, hB3⟩; have K3 := hid (K1.out.below hB3); obtain ⟨f0, f1, f2, f3⟩ := K3.out.cells; clear hB3))
  go_ret
  exact ⟨by simp, K3.out.2⟩

set_option maxRecDepth 100000 in
set_option maxHeartbeats 2000000 in
/-- r is no exponent, or m is no member. -/
theorem walkM (P Q G H a m r s y u v c : Int) (hc : c ≠ 0) (p n : Bool) (hpn : p = false ∨ (p = true ∧ n = false))
    (cA : ∀ w, Calls Try.prog 6 #[.agg #[.int .i64 P, .int .i64 Q, .int .i64 G, .int .i64 H], .int .i64 a] w fun e w' => e = .returned (.tuple #[.int .i64 y, .int .i64 0]) ∧ Below w.heap.size w w')
    (cP : ∀ wr, Calls Try.prog 7 #[.agg #[.int .i64 P, .int .i64 Q, .int .i64 G, .int .i64 H], .slice (some ⟨wr.heap.size, 0, none⟩) 1 1] (wr.alloc (.cells #[.int .i64 a] 2)) fun e w' => e = .returned (.bool true) ∧ Below wr.heap.size wr w')
    (cL : ∀ w, Calls Try.prog 10 #[.agg #[.int .i64 P, .int .i64 Q, .int .i64 G, .int .i64 H], .int .i64 y, .int .i64 m, .int .i64 r] w fun e w' => e = .returned (.tuple #[.agg #[.int .i64 u, .int .i64 v], .int .i64 c]) ∧ Below w.heap.size w w')
    (cR : ∀ wr, Calls Try.prog 7 #[.agg #[.int .i64 P, .int .i64 Q, .int .i64 G, .int .i64 H], .slice (some ⟨wr.heap.size, 0, none⟩) 1 1] (wr.alloc (.cells #[.int .i64 r] 2)) fun e w' => e = .returned (.bool p) ∧ Below wr.heap.size wr w')
    (cM : ∀ w, Calls Try.prog 9 #[.agg #[.int .i64 P, .int .i64 Q, .int .i64 G, .int .i64 H], .int .i64 m] w fun e w' => e = .returned (.bool n) ∧ Below w.heap.size w w') (w : World) :
    Calls Try.prog 4 #[.agg #[.int .i64 P, .int .i64 Q, .int .i64 G, .int .i64 H], .int .i64 a, .int .i64 m, .int .i64 r, .int .i64 s] w fun e w' => e = .returned (.bool true) ∧ Below w.heap.size w w' := by
  have K := hid (Gb.new w P Q G H)
  obtain ⟨c0, c1, c2, c3⟩ := K.out.cells
  have h1 : (c != 0) = true := by simpa using hc
  have cR2 : Hid (∀ w1 : World, Calls Try.prog 7 #[.agg #[.int .i64 P, .int .i64 Q, .int .i64 G, .int .i64 H], .slice (some ⟨w1.heap.size + 1, 0, none⟩) 1 1] ((w1.alloc (.cells #[.int .i64 u, .int .i64 v] 32)).alloc (.cells #[.int .i64 r] 2)) fun e w' => e = .returned (.bool p) ∧ Below (w1.alloc (.cells #[.int .i64 u, .int .i64 v] 32)).heap.size (w1.alloc (.cells #[.int .i64 u, .int .i64 v] 32)) w') := fun (w1 : World) => by
    have h := cR (w1.alloc (.cells #[.int .i64 u, .int .i64 v] 32))
    rw [World.size_alloc] at h ⊢
    exact h
  clear cR
  rcases hpn with rfl | ⟨rfl, rfl⟩
  all_goals
    go_enter Try.func4, Try.ntmps4
    go_wp2_with (first
      | (go_at_call 6; refine (cA _).mono ?_; clear cA; rintro e w1 ⟨rfl, hB1⟩; have K1 := hid (K.out.below hB1); obtain ⟨d0, d1, d2, d3⟩ := K1.out.cells; clear hB1)
      | (go_at_call 7; refine (cP _).mono ?_; clear cP; rintro e w2 ⟨rfl, hB2⟩; have K2 := hid (K1.out.below hB2); obtain ⟨e0, e1, e2, e3⟩ := K2.out.cells; clear hB2)
      | (go_at_call 10; refine (cL _).mono ?_; clear cL; rintro e w3 ⟨rfl, hB3⟩; have K3 := hid ((K2.out.below hB3).alloc (.cells #[.int .i64 u, .int .i64 v] 32)); obtain ⟨f0, f1, f2, f3⟩ := K3.out.cells; clear hB3)
      | (go_at_call 7; refine (cR2.out _).mono ?_; clear cR2; rintro e w4 ⟨rfl, hB4⟩; have K4 := hid (K3.out.below hB4); obtain ⟨g0, g1, g2, g3⟩ := K4.out.cells; clear hB4)
      | (go_at_call 9; refine (cM _).mono ?_; clear cM; rintro e w5 ⟨rfl, hB5⟩; have K4 := hid (K4.out.below hB5); obtain ⟨k0, k1, k2, k3⟩ := K4.out.cells; clear hB5))
    go_ret
    exact ⟨by simp, K4.out.2⟩

set_option maxRecDepth 100000 in
set_option maxHeartbeats 2000000 in
theorem walkY (P Q G H a m r : Int) (s y u v u' v' i : Int)
    (hi : i ≠ 0 ∨ (i = 0 ∧ r = s ∧ u = u' ∧ v = v') ∨ (i = 0 ∧ r ≠ s ∧ u ≠ u'))
    (cA : ∀ w, Calls Try.prog 6 #[.agg #[.int .i64 P, .int .i64 Q, .int .i64 G, .int .i64 H], .int .i64 a] w fun e w' => e = .returned (.tuple #[.int .i64 y, .int .i64 0]) ∧ Below w.heap.size w w')
    (cP : ∀ wr, Calls Try.prog 7 #[.agg #[.int .i64 P, .int .i64 Q, .int .i64 G, .int .i64 H], .slice (some ⟨wr.heap.size, 0, none⟩) 1 1] (wr.alloc (.cells #[.int .i64 a] 2)) fun e w' => e = .returned (.bool true) ∧ Below wr.heap.size wr w')
    (cL : ∀ w, Calls Try.prog 10 #[.agg #[.int .i64 P, .int .i64 Q, .int .i64 G, .int .i64 H], .int .i64 y, .int .i64 m, .int .i64 r] w fun e w' => e = .returned (.tuple #[.agg #[.int .i64 u, .int .i64 v], .int .i64 0]) ∧ Below w.heap.size w w')
    (cR : ∀ wr, Calls Try.prog 7 #[.agg #[.int .i64 P, .int .i64 Q, .int .i64 G, .int .i64 H], .slice (some ⟨wr.heap.size, 0, none⟩) 1 1] (wr.alloc (.cells #[.int .i64 r] 2)) fun e w' => e = .returned (.bool true) ∧ Below wr.heap.size wr w')
    (cM : ∀ w, Calls Try.prog 9 #[.agg #[.int .i64 P, .int .i64 Q, .int .i64 G, .int .i64 H], .int .i64 m] w fun e w' => e = .returned (.bool true) ∧ Below w.heap.size w w')
    (cO : ∀ w, Calls Try.prog 11 #[.agg #[.int .i64 P, .int .i64 Q, .int .i64 G, .int .i64 H], .int .i64 a, .agg #[.int .i64 u, .int .i64 v]] w fun e w' => e = .returned (.tuple #[.int .i64 m, .int .i64 0]) ∧ Below w.heap.size w w')
    (cD : ∀ w, Calls Try.prog 10 #[.agg #[.int .i64 P, .int .i64 Q, .int .i64 G, .int .i64 H], .int .i64 y, .int .i64 m, .int .i64 s] w fun e w' => e = .returned (.tuple #[.agg #[.int .i64 u', .int .i64 v'], .int .i64 i]) ∧ Below w.heap.size w w') (w : World) :
    Calls Try.prog 4 #[.agg #[.int .i64 P, .int .i64 Q, .int .i64 G, .int .i64 H], .int .i64 a, .int .i64 m, .int .i64 r, .int .i64 s] w fun e w' => e = .returned (.bool true) ∧ Below w.heap.size w w' := by
  have K := hid (Gb.new w P Q G H)
  obtain ⟨c0, c1, c2, c3⟩ := K.out.cells
  have cR2 : Hid (∀ w1 : World, Calls Try.prog 7 #[.agg #[.int .i64 P, .int .i64 Q, .int .i64 G, .int .i64 H], .slice (some ⟨w1.heap.size + 1, 0, none⟩) 1 1] ((w1.alloc (.cells #[.int .i64 u, .int .i64 v] 32)).alloc (.cells #[.int .i64 r] 2)) fun e w' => e = .returned (.bool true) ∧ Below (w1.alloc (.cells #[.int .i64 u, .int .i64 v] 32)).heap.size (w1.alloc (.cells #[.int .i64 u, .int .i64 v] 32)) w') := fun (w1 : World) => by
    have h := cR (w1.alloc (.cells #[.int .i64 u, .int .i64 v] 32))
    rw [World.size_alloc] at h ⊢
    exact h
  clear cR
  have hh : (i != 0) = true ∨ ((i != 0) = false ∧ ((r == s) = true ∧ (u == u') = true ∧ (v == v') = true) ) ∨ ((i != 0) = false ∧ ((r == s) = false ∧ (u == u') = false)) := by
    rcases hi with h | ⟨h, h1, h2, h3⟩ | ⟨h, h1, h2⟩
    · exact .inl (by simpa using h)
    · exact .inr (.inl ⟨by simpa using h, by simpa using h1, by simpa using h2, by simpa using h3⟩)
    · exact .inr (.inr ⟨by simpa using h, by simpa using h1, by simpa using h2⟩)
  clear hi
  rcases hh with h1 | ⟨h1, h2, h3, h4⟩ | ⟨h1, h2, h3⟩
  all_goals
    go_enter Try.func4, Try.ntmps4
    go_wp2_with (first
      | (go_at_call 6; refine (cA _).mono ?_; clear cA; rintro e w1 ⟨rfl, hB1⟩; have K1 := hid (K.out.below hB1); obtain ⟨d0, d1, d2, d3⟩ := K1.out.cells; clear hB1)
      | (go_at_call 7; refine (cP _).mono ?_; clear cP; rintro e w2 ⟨rfl, hB2⟩; have K2 := hid (K1.out.below hB2); obtain ⟨e0, e1, e2, e3⟩ := K2.out.cells; clear hB2)
      | (go_at_call 10; refine (cL _).mono ?_; clear cL; rintro e w3 ⟨rfl, hB3⟩; have K3 := hid ((K2.out.below hB3).alloc (.cells #[.int .i64 u, .int .i64 v] 32)); obtain ⟨f0, f1, f2, f3⟩ := K3.out.cells; have R3 := hid (BoxC.new w3 32 #[.int .i64 u, .int .i64 v]); obtain ⟨r0, r1, _, _⟩ := box_pair R3.out; clear hB3)
      | (go_at_call 7; refine (cR2.out _).mono ?_; clear cR2; rintro e w4 ⟨rfl, hB4⟩; have K4 := hid (K3.out.below hB4); obtain ⟨g0, g1, g2, g3⟩ := K4.out.cells; have R4 := hid (bx R3.out hB4); obtain ⟨s0, s1, _, _⟩ := box_pair R4.out; clear hB4)
      | (go_at_call 9; refine (cM _).mono ?_; clear cM; rintro e w5 ⟨rfl, hB5⟩; have K5 := hid (K4.out.below hB5); obtain ⟨k0, k1, k2, k3⟩ := K5.out.cells; have R5 := hid (bx R4.out hB5); obtain ⟨t0, t1, _, _⟩ := box_pair R5.out; clear hB5)
      | (go_at_call 11; refine (cO _).mono ?_; clear cO; rintro e w6 ⟨rfl, hB6⟩; have K6 := hid (K5.out.below hB6); obtain ⟨l0, l1, l2, l3⟩ := K6.out.cells; have R6 := hid (bx R5.out hB6); obtain ⟨m0, m1, _, _⟩ := box_pair R6.out; clear hB6)
      | (go_at_call 10; refine (cD _).mono ?_; clear cD; rintro e w7 ⟨rfl, hB7⟩; have K7 := hid ((K6.out.below hB7).alloc (.cells #[.int .i64 u', .int .i64 v'] 32)); have R7 := hid ((bx R6.out hB7).alloc (.cells #[.int .i64 u', .int .i64 v'] 32)); obtain ⟨n0, n1, _, _⟩ := box_pair R7.out; have R8 := hid (BoxC.new w7 32 #[.int .i64 u', .int .i64 v']); obtain ⟨o0, o1, _, _⟩ := box_pair R8.out; clear hB7))
    go_ret
    exact ⟨by simp, K7.out.2⟩

theorem walk (P Q G H : Int) (wP : (Lit.int .i64 P).wf = true) (wQ : (Lit.int .i64 Q).wf = true) (wG : (Lit.int .i64 G).wf = true) (wH : (Lit.int .i64 H).wf = true) (a m r s : Int) (w : World) :
    Calls Try.prog 4 #[.agg #[.int .i64 P, .int .i64 Q, .int .i64 G, .int .i64 H], .int .i64 a, .int .i64 m, .int .i64 r, .int .i64 s] w fun e w' => e = .returned (.bool true) ∧ Below w.heap.size w w' := by
  have cP := fun v (hv : v = true ↔ aC P Q G H [a] [] = 0) wr => pk1 P Q G H a v hv wr
  by_cases h : aC P Q G H [a] [] = 0
  · obtain ⟨p, q, g, k, rfl, rfl, rfl, rfl, hG, h1, _⟩ := aC_zero h
    obtain ⟨n, rfl, hn⟩ := h1 a (by simp)
    have p3 := hG.p3
    have pb := hG.big
    have ql := hG.qlt
    have cA := fun w => Public_yes p q g k n hG hn w
    have mx : Mem p q (g ^ n % p) := Mem.pow hG.g.pr hG.g.prq hG.g.mem n
    have cM := fun w => refMember_any p q (g : Int) (k : Int) m (by omega) pb (by omega) w
    by_cases hL : aC (p : Int) (q : Int) (g : Int) (k : Int) [r] [((g ^ n % p : Nat) : Int), m] = 0
    · obtain ⟨_, q', _, _, _, eq, _, _, _, h3, h4⟩ := aC_zero hL
      obtain rfl : q = q' := by omega
      obtain ⟨r', rfl, hr⟩ := h3 r (by simp)
      have hnm : noM (p : Int) (q : Int) m = false := by
        obtain ⟨p', q', _, _, e1, e2, _, _, _, _, h6⟩ := aC_zero hL
        obtain ⟨z, rfl, hz⟩ := h6 m (by simp)
        obtain rfl : p = p' := by omega
        obtain rfl : q = q' := by omega
        exact (noM_iff p q _).2 ⟨z, rfl, hz⟩
      obtain ⟨m', rfl, hm⟩ := (noM_iff p q m).1 hnm
      rw [hnm] at cM
      have cL := fun w => Lock_yes p q g k (g ^ n % p) m' r' hG hr mx hm w
      have cR := fun wr => pk1 (p : Int) (q : Int) (g : Int) (k : Int) (r' : Int) true (by simp [aC_of hG (ex1 hr) none0]) wr
      have mA : Mem p q (g ^ r' % p) := Mem.pow hG.g.pr hG.g.prq hG.g.mem r'
      have mB : Mem p q (m' * ((g ^ n % p) ^ r' % p) % p) := Mem.mul hG.g.pr hG.g.prq hm (Mem.pow hG.g.pr hG.g.prq mx r')
      have cO := fun w => Open_yes p q g k n (g ^ r' % p) (m' * ((g ^ n % p) ^ r' % p) % p) hG hn mA mB w
      have hb : (m' * ((g ^ n % p) ^ r' % p) % p) * ((g ^ r' % p) ^ (q - n) % p) % p = m' := by
        rw [lock_swap p g n r' m']; exact back mA hm.2.1 hn
      rw [hb] at cO
      obtain ⟨u', v', cD⟩ := Lock_any (p : Int) (q : Int) (g : Int) (k : Int) ((g ^ n % p : Nat) : Int) (m' : Int) s
      by_cases hs : aC (p : Int) (q : Int) (g : Int) (k : Int) [s] [((g ^ n % p : Nat) : Int), (m' : Int)] = 0
      · obtain ⟨_, q', _, _, _, eq, _, _, _, h3, _⟩ := aC_zero hs
        obtain rfl : q = q' := by omega
        obtain ⟨s', rfl, hs'⟩ := h3 s (by simp)
        have cD := fun w => Lock_yes p q g k (g ^ n % p) m' s' hG hs' mx hm w
        refine walkY _ _ _ _ _ _ _ _ _ _ _ _ _ _ (.inr ?_) cA (cP true (by simp [h])) cL cR cM cO cD w
        by_cases e : r' = s'
        · subst e; exact .inl ⟨rfl, rfl, rfl, rfl⟩
        · refine .inr ⟨rfl, by omega, fun h2 => e ((pow_lt_iff hG.g hr hs').1 (by exact_mod_cast h2))⟩
      · exact walkY _ _ _ _ _ _ _ _ _ _ _ _ _ _ (.inl hs) cA (cP true (by simp [h])) cL cR cM cO cD w
    · obtain ⟨u, v, cL⟩ := Lock_any (p : Int) (q : Int) (g : Int) (k : Int) ((g ^ n % p : Nat) : Int) m r
      obtain ⟨b, hb⟩ := bool_of (aC (p : Int) (q : Int) (g : Int) (k : Int) [r] [] = 0)
      have cR := fun wr => pk1 (p : Int) (q : Int) (g : Int) (k : Int) r b hb wr
      refine walkM _ _ _ _ _ _ _ _ _ _ _ _ hL b (!noM (p : Int) (q : Int) m) ?_ cA (cP true (by simp [h])) cL cR cM w
      cases b with
      | false => exact .inl rfl
      | true =>
        refine .inr ⟨rfl, ?_⟩
        cases hm : noM (p : Int) (q : Int) m with
        | true => rfl
        | false =>
          exfalso
          obtain ⟨m', rfl, hm'⟩ := (noM_iff p q m).1 hm
          obtain ⟨_, q', _, _, _, eq, _, _, _, h3, _⟩ := aC_zero (hb.1 rfl)
          obtain rfl : q = q' := by omega
          obtain ⟨r', rfl, hr⟩ := h3 r (by simp)
          exact hL (aC_of hG (ex1 hr) (me2 mx hm'))
  · obtain ⟨y, cA⟩ := Public_any P Q G H a
    exact walkN P Q G H a m r s y _ h cA (cP false (by simp [h])) w

theorem trodAll_five {H : Type} {enc : TypeId × Value → H} {P : Program} {w : World} {base : Nat} {spare : Nat → Bool} {held : Bool} {t0 t1 t2 t3 t4 : TypeId} {args : Array Value} {ds : List (DataW H)} {ps : List MemPlace} (h : DataW.TrodAll enc P w base spare held [t0, t1, t2, t3, t4] args.toList ds ps) :
    ∃ v0 v1 v2 v3 v4 d0 d1 d2 d3 d4 p0 p1 p2 p3 p4, args = #[v0, v1, v2, v3, v4] ∧ ds = [d0, d1, d2, d3, d4] ∧ ps = p0 ++ p1 ++ p2 ++ p3 ++ p4 ∧ DataW.Trod enc P w base spare held t0 v0 d0 p0 ∧ DataW.Trod enc P w base spare held t1 v1 d1 p1 ∧ DataW.Trod enc P w base spare held t2 v2 d2 p2 ∧ DataW.Trod enc P w base spare held t3 v3 d3 p3 ∧ DataW.Trod enc P w base spare held t4 v4 d4 p4 := by
  obtain ⟨v0, vs0, d0, ds0, p0, q0, hargs, rfl, rfl, hd0, hrest0⟩ := trodAll_cons h
  obtain ⟨v1, vs1, d1, ds1, p1, q1, rfl, rfl, rfl, hd1, hrest1⟩ := trodAll_cons hrest0
  obtain ⟨v2, vs2, d2, ds2, p2, q2, rfl, rfl, rfl, hd2, hrest2⟩ := trodAll_cons hrest1
  obtain ⟨v3, vs3, d3, ds3, p3, q3, rfl, rfl, rfl, hd3, hrest3⟩ := trodAll_cons hrest2
  obtain ⟨v4, vs4, d4, ds4, p4, q4, rfl, rfl, rfl, hd4, hrest4⟩ := trodAll_cons hrest3
  obtain ⟨rfl, rfl, rfl⟩ := trodAll_nil hrest4
  exact ⟨v0, v1, v2, v3, v4, d0, d1, d2, d3, d4, p0, p1, p2, p3, p4, by cases args; simp_all, rfl, by simp, hd0, hd1, hd2, hd3, hd4⟩

theorem trodAll_mk5 {H : Type} {enc : TypeId × Value → H} {P : Program} {w : World} {base : Nat} {spare : Nat → Bool} {held : Bool} {t0 t1 t2 t3 t4 : TypeId} {v0 v1 v2 v3 v4 : Value} {d0 d1 d2 d3 d4 : DataW H} {p0 p1 p2 p3 p4 : List MemPlace} (h0 : DataW.Trod enc P w base spare held t0 v0 d0 p0) (h1 : DataW.Trod enc P w base spare held t1 v1 d1 p1) (h2 : DataW.Trod enc P w base spare held t2 v2 d2 p2) (h3 : DataW.Trod enc P w base spare held t3 v3 d3 p3) (h4 : DataW.Trod enc P w base spare held t4 v4 d4 p4) : DataW.TrodAll enc P w base spare held [t0, t1, t2, t3, t4] [v0, v1, v2, v3, v4] [d0, d1, d2, d3, d4] (p0 ++ (p1 ++ (p2 ++ (p3 ++ (p4))))) := ⟨p0, p1 ++ (p2 ++ (p3 ++ (p4))), h0, trodAll_mk4 h1 h2 h3 h4, rfl⟩

set_option maxRecDepth 100000 in
theorem lifted (os : Os) (started : os.Started) (H : Type) (enc : TypeId × Value → H) :
    ReturnsInHanded {} Try.checked os 4 .any (Rows.groupOpensSpec.pre6 enc Try.prog Try.f4 Rows.groupOpensRow.domain false) (Rows.groupOpensSpec.post enc Try.prog Try.f4 false true false false) := by
  refine returnsInHanded_of_change (C := Try.checked) own started (by kernel_rfl) Try.func4
    (ChangeSpec.witness6 (enc := enc) (C := Try.checked) false ⟨#[], #[.agg #[.int .i64 0, .int .i64 0, .int .i64 0, .int .i64 0], .int .i64 0, .int .i64 0, .int .i64 0, .int .i64 0], []⟩ 8 (by kernel_rfl) (by kernel_rfl) (by kernel_rfl) (by kernel_rfl)) ?_
  intro W base args ds gs before hval0 hW hcnd _
  have hval : ∀ (j : Nat) t v, Try.f4.params[j]? = some t → args[j]? = some v → Value.okWide Try.prog W .any base t v := hval0
  have hW' := hW
  obtain ⟨p, q, hA0, hV, rfl, _, _⟩ := hW
  have hA : DataW.TrodAll enc Try.prog W 0 (fun _ => true) true Try.f4.params.toList args.toList ds p := hA0
  rw [Try.params4] at hA hval
  obtain ⟨v0, v1, v2, v3, v4, d0, d1, d2, d3, d4, p0, p1, p2, p3, p4, rfl, rfl, rfl, h0, h1, h2, h3, h4⟩ := trodAll_five hA
  obtain ⟨rfl, rfl⟩ := trodVars_none hV
  have hsv0 := hval 0 23 v0 rfl rfl
  obtain ⟨a1, rfl, rfl, rfl, w1⟩ := open_int Try.underlying2 (hval 1 2 v1 rfl rfl) h1
  obtain ⟨a2, rfl, rfl, rfl, w2⟩ := open_int Try.underlying2 (hval 2 2 v2 rfl rfl) h2
  obtain ⟨a3, rfl, rfl, rfl, w3⟩ := open_int Try.underlying2 (hval 3 2 v3 rfl rfl) h3
  obtain ⟨a4, rfl, rfl, rfl, w4⟩ := open_int Try.underlying2 (hval 4 2 v4 rfl rfl) h4
  clear hA0 hval0
  simp only [List.append_nil] at hW'
  have hlt0 : ∀ x ∈ p0, x.block < W.heap.size := fun x hx => by simpa using hW'.lt x (by simp [hx])
  have harg0 : ∀ (W' : World), Below W.heap.size W W' → DataW.Trod enc Try.prog W' 0 (fun b => decide (b < W.heap.size)) true 23 v0 d0 p0 :=
    fun W' hn => Below.trod laidOut (by kernel_rfl) (of_decide_eq_true (by kernel_rfl)) h0 hn hlt0
  obtain ⟨x0a, x0b, x0c, x0d, rfl, w0a, w0b, w0c, w0d⟩ := struct4_view Try.underlying23 cells_G rfl rfl rfl rfl ⟨cells2, Try.underlying2⟩ ⟨cells2, Try.underlying2⟩ ⟨cells2, Try.underlying2⟩ ⟨cells2, Try.underlying2⟩ h0 hsv0
  refine (walk x0a x0b x0c x0d w0a w0b w0c w0d a1 a2 a3 a4 W ).mono fun e W' ⟨he, hg⟩ => ?_
  subst he
  refine ⟨_, rfl, _, _, _, [], p0 ++ (([] : List MemPlace) ++ (([] : List MemPlace) ++ (([] : List MemPlace) ++ (([] : List MemPlace))))), [], hW', ?_, ?_, rfl, hg.frame _, fun h => by cases h⟩
  · exact trodAll_mk1 (shut_bool Try.underlying4 true)
  · exact trodAll_mk5 (harg0 _ hg) (shut_int Try.underlying2 w1) (shut_int Try.underlying2 w2) (shut_int Try.underlying2 w3) (shut_int Try.underlying2 w4)

theorem over : Rows.groupOpensRow.holds Try.pinned (OpenSpec.ofChange Rows.groupOpensSpec) :=
  OpenClaim.holds_of_wide 4 Try.f4 rfl rfl rfl rfl rfl rfl rfl ⟨rfl, rfl, rfl, rfl, rfl⟩ rfl rfl rfl rfl rfl (by kernel_rfl) Try.func4 (by kernel_rfl)
    (of_decide_eq_true (by kernel_rfl)) (by unfold Func.isWrapper; first | (rw [if_pos (by decide +kernel)]; kernel_rfl) | (rw [if_neg (by decide +kernel)]; exact ⟨rfl, rfl⟩))
    (fun os started H enc _ => lifted os started H enc)

/-- ████ THE STATEMENT ████ -/
theorem proved : Rows.GroupOpensSaid :=
  over

end Go.Proofs.Ytilpdoihgfonhab.groupOpens
