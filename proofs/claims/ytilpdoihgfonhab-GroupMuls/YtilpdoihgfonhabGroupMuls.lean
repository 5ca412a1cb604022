/-
  For any group, any secret, any two members and any two drawn numbers: the product of what was locked is opened as the product of both.
-/
import Derived.Test.YtilpdoihgfonhabRows
import Derived.Test.YtilpdoihgfonhabCalls162
import Derived.Test.YtilpdoihgfonhabBase10
import Derived.WalkKit
import Derived.ProofKit
import Derived.OpenShut
import Derived.Carry
namespace Go.Proofs.Ytilpdoihgfonhab.groupMuls
open Go.ChangeShapes Go.WideShapes Go.ChangeAt Go.RowKit Go.Deep Go.Proofs.Ytilpdoihgfonhab.Base Go.Proofs.Ytilpdoihgfonhab.Base2 Go.Proofs.Ytilpdoihgfonhab.Base4 Go.Proofs.Ytilpdoihgfonhab.Base10 Go.Proofs.Ytilpdoihgfonhab.Num Go.Proofs.Ytilpdoihgfonhab.Num56 Go.Proofs.Ytilpdoihgfonhab.Calls157 Go.Proofs.Ytilpdoihgfonhab.Calls158 Go.Proofs.Ytilpdoihgfonhab.Calls160 Go.Proofs.Ytilpdoihgfonhab.Calls159 Go.Proofs.Ytilpdoihgfonhab.Calls162
set_option linter.unusedVariables false

theorem own : ownKnob Try.prog.godebug = none := by kernel_rfl

theorem laidOut : laidOutB Try.prog = true := by kernel_rfl

theorem cells2 : Try.prog.cellsOf 2 = 1 := by kernel_rfl

theorem cells_G : Try.prog.cellsOf 23 = 4 := by kernel_rfl

set_option maxRecDepth 100000 in
set_option maxHeartbeats 2000000 in
/-- One is no member. -/
theorem walkN (P Q G H a m n r s y c : Int) (p u v b : Bool) (hb : b = (c == 0)) (hpn : (p = true ∧ u = false) ∨ (p = true ∧ u = true ∧ v = false))
    (cA : ∀ w, Calls Try.prog 6 #[.agg #[.int .i64 P, .int .i64 Q, .int .i64 G, .int .i64 H], .int .i64 a] w fun e w' => e = .returned (.tuple #[.int .i64 y, .int .i64 c]) ∧ Below w.heap.size w w')
    (cP : ∀ wr, Calls Try.prog 7 #[.agg #[.int .i64 P, .int .i64 Q, .int .i64 G, .int .i64 H], .slice (some ⟨wr.heap.size, 0, none⟩) 3 3] (wr.alloc (.cells #[.int .i64 a, .int .i64 r, .int .i64 s] 2)) fun e w' => e = .returned (.bool p) ∧ Below wr.heap.size wr w')
    (cR : ∀ wr, Calls Try.prog 7 #[.agg #[.int .i64 P, .int .i64 Q, .int .i64 G, .int .i64 H], .slice (some ⟨wr.heap.size, 0, none⟩) 1 1] (wr.alloc (.cells #[.int .i64 a] 2)) fun e w' => e = .returned (.bool b) ∧ Below wr.heap.size wr w')
    (cM : ∀ w, Calls Try.prog 9 #[.agg #[.int .i64 P, .int .i64 Q, .int .i64 G, .int .i64 H], .int .i64 m] w fun e w' => e = .returned (.bool u) ∧ Below w.heap.size w w')
    (cN : ∀ w, Calls Try.prog 9 #[.agg #[.int .i64 P, .int .i64 Q, .int .i64 G, .int .i64 H], .int .i64 n] w fun e w' => e = .returned (.bool v) ∧ Below w.heap.size w w') (w : World) :
    Calls Try.prog 5 #[.agg #[.int .i64 P, .int .i64 Q, .int .i64 G, .int .i64 H], .int .i64 a, .int .i64 m, .int .i64 n, .int .i64 r, .int .i64 s] w fun e w' => e = .returned (.bool true) ∧ Below w.heap.size w w' := by
  have K := hid (Gb.new w P Q G H)
  obtain ⟨c0, c1, c2, c3⟩ := K.out.cells
  have HB := hid hb
  clear hb
  rcases hpn with ⟨rfl, rfl⟩ | ⟨rfl, rfl, rfl⟩
  all_goals
    go_enter Try.func5, Try.ntmps5
    go_wp2_with (first
      | (go_at_call 6; refine (cA _).mono ?_; clear cA; rintro e w1 ⟨rfl, hB1⟩; have K1 := hid (K.out.below hB1); obtain ⟨d0, d1, d2, d3⟩ := K1.out.cells; clear hB1)
      | (go_at_call 7; refine (cP _).mono ?_; clear cP; rintro e w2 ⟨rfl, hB2⟩; have K1 := hid (K1.out.below hB2); obtain ⟨e0, e1, e2, e3⟩ := K1.out.cells; clear hB2)
      | (go_at_call 9; refine (cM _).mono ?_; clear cM; rintro e w3 ⟨rfl, hB3⟩; have K1 := hid (K1.out.below hB3); obtain ⟨f0, f1, f2, f3⟩ := K1.out.cells; clear hB3)
      | (go_at_call 9; refine (cN _).mono ?_; clear cN; rintro e w4 ⟨rfl, hB4⟩; have K1 := hid (K1.out.below hB4); obtain ⟨g0, g1, g2, g3⟩ := K1.out.cells; clear hB4)
      | (go_at_call 7; refine (cR _).mono ?_; clear cR; rintro e w5 ⟨rfl, hB5⟩; have K1 := hid (K1.out.below hB5); clear hB5))
    go_ret
    exact ⟨by simp [HB.out], K1.out.2⟩

set_option maxRecDepth 100000 in
set_option maxHeartbeats 1000000 in
/-- A number is no exponent. -/
theorem walkB (P Q G H a m n r s y c : Int) (b : Bool) (hb : b = (c == 0))
    (cA : ∀ w, Calls Try.prog 6 #[.agg #[.int .i64 P, .int .i64 Q, .int .i64 G, .int .i64 H], .int .i64 a] w fun e w' => e = .returned (.tuple #[.int .i64 y, .int .i64 c]) ∧ Below w.heap.size w w')
    (cP : ∀ wr, Calls Try.prog 7 #[.agg #[.int .i64 P, .int .i64 Q, .int .i64 G, .int .i64 H], .slice (some ⟨wr.heap.size, 0, none⟩) 3 3] (wr.alloc (.cells #[.int .i64 a, .int .i64 r, .int .i64 s] 2)) fun e w' => e = .returned (.bool false) ∧ Below wr.heap.size wr w')
    (cR : ∀ wr, Calls Try.prog 7 #[.agg #[.int .i64 P, .int .i64 Q, .int .i64 G, .int .i64 H], .slice (some ⟨wr.heap.size, 0, none⟩) 1 1] (wr.alloc (.cells #[.int .i64 a] 2)) fun e w' => e = .returned (.bool b) ∧ Below wr.heap.size wr w') (w : World) :
    Calls Try.prog 5 #[.agg #[.int .i64 P, .int .i64 Q, .int .i64 G, .int .i64 H], .int .i64 a, .int .i64 m, .int .i64 n, .int .i64 r, .int .i64 s] w fun e w' => e = .returned (.bool true) ∧ Below w.heap.size w w' := by
  have K := hid (Gb.new w P Q G H)
  obtain ⟨c0, c1, c2, c3⟩ := K.out.cells
  have HB := hid hb
  clear hb
  go_enter Try.func5, Try.ntmps5
  go_wp2_with (first
    | (go_at_call 6; refine (cA _).mono ?_; clear cA; rintro e w1 ⟨rfl, hB1⟩; have K1 := hid (K.out.below hB1); obtain ⟨d0, d1, d2, d3⟩ := K1.out.cells; clear hB1)
    | (go_at_call 7; refine (cP _).mono ?_; clear cP; rintro e w2 ⟨rfl, hB2⟩; have K1 := hid (K1.out.below hB2); obtain ⟨e0, e1, e2, e3⟩ := K1.out.cells; clear hB2)
    | (go_at_call 7; refine (cR _).mono ?_; clear cR; rintro e w5 ⟨rfl, hB5⟩; have K1 := hid (K1.out.below hB5); clear hB5))
  go_ret
  exact ⟨by simp [HB.out], K1.out.2⟩

set_option maxRecDepth 100000 in
set_option maxHeartbeats 4000000 in
theorem walkY (P : Nat) (Q G H a : Int) (m n o : Nat) (r s y u v u' v' x z : Int) (pb : P ≤ 1048576) (ml : m < P) (nl : n < P) (ho : m * n % P = o)
    (cA : ∀ w, Calls Try.prog 6 #[.agg #[.int .i64 (P : Int), .int .i64 Q, .int .i64 G, .int .i64 H], .int .i64 a] w fun e w' => e = .returned (.tuple #[.int .i64 y, .int .i64 0]) ∧ Below w.heap.size w w')
    (cP : ∀ wr, Calls Try.prog 7 #[.agg #[.int .i64 (P : Int), .int .i64 Q, .int .i64 G, .int .i64 H], .slice (some ⟨wr.heap.size, 0, none⟩) 3 3] (wr.alloc (.cells #[.int .i64 a, .int .i64 r, .int .i64 s] 2)) fun e w' => e = .returned (.bool true) ∧ Below wr.heap.size wr w')
    (cM : ∀ w, Calls Try.prog 9 #[.agg #[.int .i64 (P : Int), .int .i64 Q, .int .i64 G, .int .i64 H], .int .i64 (m : Int)] w fun e w' => e = .returned (.bool true) ∧ Below w.heap.size w w')
    (cN : ∀ w, Calls Try.prog 9 #[.agg #[.int .i64 (P : Int), .int .i64 Q, .int .i64 G, .int .i64 H], .int .i64 (n : Int)] w fun e w' => e = .returned (.bool true) ∧ Below w.heap.size w w')
    (cL : ∀ w, Calls Try.prog 10 #[.agg #[.int .i64 (P : Int), .int .i64 Q, .int .i64 G, .int .i64 H], .int .i64 y, .int .i64 (m : Int), .int .i64 r] w fun e w' => e = .returned (.tuple #[.agg #[.int .i64 u, .int .i64 v], .int .i64 0]) ∧ Below w.heap.size w w')
    (cD : ∀ w, Calls Try.prog 10 #[.agg #[.int .i64 (P : Int), .int .i64 Q, .int .i64 G, .int .i64 H], .int .i64 y, .int .i64 (n : Int), .int .i64 s] w fun e w' => e = .returned (.tuple #[.agg #[.int .i64 u', .int .i64 v'], .int .i64 0]) ∧ Below w.heap.size w w')
    (cU : ∀ w, Calls Try.prog 12 #[.agg #[.int .i64 (P : Int), .int .i64 Q, .int .i64 G, .int .i64 H], .agg #[.int .i64 u, .int .i64 v], .agg #[.int .i64 u', .int .i64 v']] w fun e w' => e = .returned (.tuple #[.agg #[.int .i64 x, .int .i64 z], .int .i64 0]) ∧ Below w.heap.size w w')
    (cO : ∀ w, Calls Try.prog 11 #[.agg #[.int .i64 (P : Int), .int .i64 Q, .int .i64 G, .int .i64 H], .int .i64 a, .agg #[.int .i64 x, .int .i64 z]] w fun e w' => e = .returned (.tuple #[.int .i64 (o : Int), .int .i64 0]) ∧ Below w.heap.size w w') (w : World) :
    Calls Try.prog 5 #[.agg #[.int .i64 (P : Int), .int .i64 Q, .int .i64 G, .int .i64 H], .int .i64 a, .int .i64 (m : Int), .int .i64 (n : Int), .int .i64 r, .int .i64 s] w fun e w' => e = .returned (.bool true) ∧ Below w.heap.size w w' := by
  obtain ⟨m1, m2⟩ := mul_bds pb ml nl
  have hw' : IntKind.i64.wrap ((m : Int) * (n : Int)) = (m : Int) * (n : Int) := wrap_in _ (by omega) (by omega)
  have ht := mul_tmod m n P
  rw [ho] at ht
  have n0 : ¬ (P : Int) = 0 := by omega
  have n1 : ¬ P = 0 := by omega
  have K := hid (Gb.new w (P : Int) Q G H)
  obtain ⟨c0, c1, c2, c3⟩ := K.out.cells
  clear pb ml nl ho
  go_enter Try.func5, Try.ntmps5
  go_wp2_with (first
    | (go_at_call 6; refine (cA _).mono ?_; clear cA; rintro e w1 ⟨rfl, hB1⟩; have K1 := hid (K.out.below hB1); obtain ⟨d0, d1, d2, d3⟩ := K1.out.cells; clear hB1)
    | (go_at_call 7; refine (cP _).mono ?_; clear cP; rintro e w2 ⟨rfl, hB2⟩; have K2 := hid (K1.out.below hB2); obtain ⟨e0, e1, e2, e3⟩ := K2.out.cells; clear hB2)
    | (go_at_call 9; refine (cM _).mono ?_; clear cM; rintro e w3 ⟨rfl, hB3⟩; have K3 := hid (K2.out.below hB3); obtain ⟨f0, f1, f2, f3⟩ := K3.out.cells; clear hB3)
    | (go_at_call 9; refine (cN _).mono ?_; clear cN; rintro e w4 ⟨rfl, hB4⟩; have K4 := hid (K3.out.below hB4); obtain ⟨g0, g1, g2, g3⟩ := K4.out.cells; clear hB4)
    | (go_at_call 10; refine (cL _).mono ?_; clear cL; rintro e w5 ⟨rfl, hB5⟩; have K5 := hid ((K4.out.below hB5).alloc (.cells #[.int .i64 u, .int .i64 v] 32)); obtain ⟨k0, k1, k2, k3⟩ := K5.out.cells; have R5 := hid (BoxC.new w5 32 #[.int .i64 u, .int .i64 v]); obtain ⟨r0, r1, _, _⟩ := box_pair R5.out; clear hB5)
    | (go_at_call 10; refine (cD _).mono ?_; clear cD; rintro e w6 ⟨rfl, hB6⟩; have K6 := hid ((K5.out.below hB6).alloc (.cells #[.int .i64 u', .int .i64 v'] 32)); obtain ⟨l0, l1, l2, l3⟩ := K6.out.cells; have R6 := hid ((bx R5.out hB6).alloc (.cells #[.int .i64 u', .int .i64 v'] 32)); obtain ⟨s0, s1, _, _⟩ := box_pair R6.out; have S6 := hid (BoxC.new w6 32 #[.int .i64 u', .int .i64 v']); obtain ⟨t0, t1, _, _⟩ := box_pair S6.out; clear hB6)
    | (go_at_call 12; refine (cU _).mono ?_; clear cU; rintro e w7 ⟨rfl, hB7⟩; have K7 := hid ((K6.out.below hB7).alloc (.cells #[.int .i64 x, .int .i64 z] 32)); obtain ⟨p0, p1, p2, p3⟩ := K7.out.cells; have R7 := hid (BoxC.new w7 32 #[.int .i64 x, .int .i64 z]); obtain ⟨u0, u1, _, _⟩ := box_pair R7.out; clear hB7)
    | (go_at_call 11; refine (cO _).mono ?_; clear cO; rintro e w8 ⟨rfl, hB8⟩; have K8 := hid (K7.out.below hB8); obtain ⟨q0, q1, q2, q3⟩ := K8.out.cells; clear hB8))
  go_ret
  exact ⟨by simp, K8.out.2⟩

theorem walk (P Q G H : Int) (wP : (Lit.int .i64 P).wf = true) (wQ : (Lit.int .i64 Q).wf = true) (wG : (Lit.int .i64 G).wf = true) (wH : (Lit.int .i64 H).wf = true) (a m n r s : Int) (w : World) :
    Calls Try.prog 5 #[.agg #[.int .i64 P, .int .i64 Q, .int .i64 G, .int .i64 H], .int .i64 a, .int .i64 m, .int .i64 n, .int .i64 r, .int .i64 s] w fun e w' => e = .returned (.bool true) ∧ Below w.heap.size w w' := by
  obtain ⟨y, cA⟩ := Public_any P Q G H a
  have cR := fun wr => pk1 P Q G H a (aC P Q G H [a] [] == 0) (by simp) wr
  by_cases h : aC P Q G H [a, r, s] [] = 0
  · have cP := fun wr => pk3 P Q G H a r s true (by simp [h]) wr
    obtain ⟨p, q, g, k, rfl, rfl, rfl, rfl, hG, h1, _⟩ := aC_zero h
    obtain ⟨a', rfl, ha⟩ := h1 a (by simp)
    obtain ⟨r', rfl, hr⟩ := h1 r (by simp)
    obtain ⟨s', rfl, hs⟩ := h1 s (by simp)
    have p3 := hG.p3
    have pb := hG.big
    have ql := hG.qlt
    have cM := fun w => refMember_any p q (g : Int) (k : Int) m (by omega) pb (by omega) w
    have cN := fun w => refMember_any p q (g : Int) (k : Int) n (by omega) pb (by omega) w
    cases hm : noM (p : Int) (q : Int) m with
    | true =>
      rw [hm] at cM
      exact walkN _ _ _ _ _ _ _ _ _ _ _ true false _ _ rfl (.inl ⟨rfl, rfl⟩) cA cP cR cM cN w
    | false =>
      rw [hm] at cM
      cases hn : noM (p : Int) (q : Int) n with
      | true =>
        rw [hn] at cN
        exact walkN _ _ _ _ _ _ _ _ _ _ _ true true false _ rfl (.inr ⟨rfl, rfl, rfl⟩) cA cP cR cM cN w
      | false =>
        rw [hn] at cN
        obtain ⟨m', rfl, hm'⟩ := (noM_iff p q m).1 hm
        obtain ⟨n', rfl, hn'⟩ := (noM_iff p q n).1 hn
        have mx : Mem p q (g ^ a' % p) := Mem.pow hG.g.pr hG.g.prq hG.g.mem a'
        have mA : Mem p q (g ^ r' % p) := Mem.pow hG.g.pr hG.g.prq hG.g.mem r'
        have mA' : Mem p q (g ^ s' % p) := Mem.pow hG.g.pr hG.g.prq hG.g.mem s'
        have mB : Mem p q (m' * ((g ^ a' % p) ^ r' % p) % p) := Mem.mul hG.g.pr hG.g.prq hm' (Mem.pow hG.g.pr hG.g.prq mx r')
        have mB' : Mem p q (n' * ((g ^ a' % p) ^ s' % p) % p) := Mem.mul hG.g.pr hG.g.prq hn' (Mem.pow hG.g.pr hG.g.prq mx s')
        have mU := Mem.mul hG.g.pr hG.g.prq mA mA'
        have mV := Mem.mul hG.g.pr hG.g.prq mB mB'
        have cO := fun w => Open_yes p q g k a' _ _ hG ha mU mV w
        have hb : (m' * ((g ^ a' % p) ^ r' % p) % p) * (n' * ((g ^ a' % p) ^ s' % p) % p) % p * (((g ^ r' % p) * (g ^ s' % p) % p) ^ (q - a') % p) % p = m' * n' % p := by
          rw [lock_swap p g a' r' m', lock_swap p g a' s' n', lock_mul]
          exact back mU (Nat.mod_lt _ (by omega)) ha
        rw [hb] at cO
        exact walkY p _ _ _ _ m' n' (m' * n' % p) _ _ _ _ _ _ _ _ _ pb hm'.2.1 hn'.2.1 rfl (fun w => Public_yes p q g k a' hG ha w) cP cM cN (fun w => Lock_yes p q g k (g ^ a' % p) m' r' hG hr mx hm' w) (fun w => Lock_yes p q g k (g ^ a' % p) n' s' hG hs mx hn' w) (fun w => Mul_yes p q g k _ _ _ _ hG mA mB mA' mB' w) cO w
  · have cP := fun wr => pk3 P Q G H a r s false (by simp [h]) wr
    exact walkB P Q G H a m n r s y _ _ rfl cA cP cR w

theorem trodAll_six {H : Type} {enc : TypeId × Value → H} {P : Program} {w : World} {base : Nat} {spare : Nat → Bool} {held : Bool} {t0 t1 t2 t3 t4 t5 : TypeId} {args : Array Value} {ds : List (DataW H)} {ps : List MemPlace} (h : DataW.TrodAll enc P w base spare held [t0, t1, t2, t3, t4, t5] args.toList ds ps) :
    ∃ v0 v1 v2 v3 v4 v5 d0 d1 d2 d3 d4 d5 p0 p1 p2 p3 p4 p5, args = #[v0, v1, v2, v3, v4, v5] ∧ ds = [d0, d1, d2, d3, d4, d5] ∧ ps = p0 ++ p1 ++ p2 ++ p3 ++ p4 ++ p5 ∧ DataW.Trod enc P w base spare held t0 v0 d0 p0 ∧ DataW.Trod enc P w base spare held t1 v1 d1 p1 ∧ DataW.Trod enc P w base spare held t2 v2 d2 p2 ∧ DataW.Trod enc P w base spare held t3 v3 d3 p3 ∧ DataW.Trod enc P w base spare held t4 v4 d4 p4 ∧ DataW.Trod enc P w base spare held t5 v5 d5 p5 := by
  obtain ⟨v0, vs0, d0, ds0, p0, q0, hargs, rfl, rfl, hd0, hrest0⟩ := trodAll_cons h
  obtain ⟨v1, vs1, d1, ds1, p1, q1, rfl, rfl, rfl, hd1, hrest1⟩ := trodAll_cons hrest0
  obtain ⟨v2, vs2, d2, ds2, p2, q2, rfl, rfl, rfl, hd2, hrest2⟩ := trodAll_cons hrest1
  obtain ⟨v3, vs3, d3, ds3, p3, q3, rfl, rfl, rfl, hd3, hrest3⟩ := trodAll_cons hrest2
  obtain ⟨v4, vs4, d4, ds4, p4, q4, rfl, rfl, rfl, hd4, hrest4⟩ := trodAll_cons hrest3
  obtain ⟨v5, vs5, d5, ds5, p5, q5, rfl, rfl, rfl, hd5, hrest5⟩ := trodAll_cons hrest4
  obtain ⟨rfl, rfl, rfl⟩ := trodAll_nil hrest5
  exact ⟨v0, v1, v2, v3, v4, v5, d0, d1, d2, d3, d4, d5, p0, p1, p2, p3, p4, p5, by cases args; simp_all, rfl, by simp, hd0, hd1, hd2, hd3, hd4, hd5⟩

theorem trodAll_mk5 {H : Type} {enc : TypeId × Value → H} {P : Program} {w : World} {base : Nat} {spare : Nat → Bool} {held : Bool} {t0 t1 t2 t3 t4 : TypeId} {v0 v1 v2 v3 v4 : Value} {d0 d1 d2 d3 d4 : DataW H} {p0 p1 p2 p3 p4 : List MemPlace} (h0 : DataW.Trod enc P w base spare held t0 v0 d0 p0) (h1 : DataW.Trod enc P w base spare held t1 v1 d1 p1) (h2 : DataW.Trod enc P w base spare held t2 v2 d2 p2) (h3 : DataW.Trod enc P w base spare held t3 v3 d3 p3) (h4 : DataW.Trod enc P w base spare held t4 v4 d4 p4) : DataW.TrodAll enc P w base spare held [t0, t1, t2, t3, t4] [v0, v1, v2, v3, v4] [d0, d1, d2, d3, d4] (p0 ++ (p1 ++ (p2 ++ (p3 ++ (p4))))) := ⟨p0, p1 ++ (p2 ++ (p3 ++ (p4))), h0, trodAll_mk4 h1 h2 h3 h4, rfl⟩

theorem trodAll_mk6 {H : Type} {enc : TypeId × Value → H} {P : Program} {w : World} {base : Nat} {spare : Nat → Bool} {held : Bool} {t0 t1 t2 t3 t4 t5 : TypeId} {v0 v1 v2 v3 v4 v5 : Value} {d0 d1 d2 d3 d4 d5 : DataW H} {p0 p1 p2 p3 p4 p5 : List MemPlace} (h0 : DataW.Trod enc P w base spare held t0 v0 d0 p0) (h1 : DataW.Trod enc P w base spare held t1 v1 d1 p1) (h2 : DataW.Trod enc P w base spare held t2 v2 d2 p2) (h3 : DataW.Trod enc P w base spare held t3 v3 d3 p3) (h4 : DataW.Trod enc P w base spare held t4 v4 d4 p4) (h5 : DataW.Trod enc P w base spare held t5 v5 d5 p5) : DataW.TrodAll enc P w base spare held [t0, t1, t2, t3, t4, t5] [v0, v1, v2, v3, v4, v5] [d0, d1, d2, d3, d4, d5] (p0 ++ (p1 ++ (p2 ++ (p3 ++ (p4 ++ (p5)))))) := ⟨p0, p1 ++ (p2 ++ (p3 ++ (p4 ++ (p5)))), h0, trodAll_mk5 h1 h2 h3 h4 h5, rfl⟩

set_option maxRecDepth 100000 in
theorem lifted (os : Os) (started : os.Started) (H : Type) (enc : TypeId × Value → H) :
    ReturnsInHanded {} Try.checked os 5 .any (Rows.groupMulsSpec.pre6 enc Try.prog Try.f5 Rows.groupMulsRow.domain false) (Rows.groupMulsSpec.post enc Try.prog Try.f5 false true false false) := by
  refine returnsInHanded_of_change (C := Try.checked) own started (by kernel_rfl) Try.func5
    (ChangeSpec.witness6 (enc := enc) (C := Try.checked) false ⟨#[], #[.agg #[.int .i64 0, .int .i64 0, .int .i64 0, .int .i64 0], .int .i64 0, .int .i64 0, .int .i64 0, .int .i64 0, .int .i64 0], []⟩ 8 (by kernel_rfl) (by kernel_rfl) (by kernel_rfl) (by kernel_rfl)) ?_
  intro W base args ds gs before hval0 hW hcnd _
  have hval : ∀ (j : Nat) t v, Try.f5.params[j]? = some t → args[j]? = some v → Value.okWide Try.prog W .any base t v := hval0
  have hW' := hW
  obtain ⟨p, q, hA0, hV, rfl, _, _⟩ := hW
  have hA : DataW.TrodAll enc Try.prog W 0 (fun _ => true) true Try.f5.params.toList args.toList ds p := hA0
  rw [Try.params5] at hA hval
  obtain ⟨v0, v1, v2, v3, v4, v5, d0, d1, d2, d3, d4, d5, p0, p1, p2, p3, p4, p5, rfl, rfl, rfl, h0, h1, h2, h3, h4, h5⟩ := trodAll_six hA
  obtain ⟨rfl, rfl⟩ := trodVars_none hV
  have hsv0 := hval 0 23 v0 rfl rfl
  obtain ⟨a1, rfl, rfl, rfl, w1⟩ := open_int Try.underlying2 (hval 1 2 v1 rfl rfl) h1
  obtain ⟨a2, rfl, rfl, rfl, w2⟩ := open_int Try.underlying2 (hval 2 2 v2 rfl rfl) h2
  obtain ⟨a3, rfl, rfl, rfl, w3⟩ := open_int Try.underlying2 (hval 3 2 v3 rfl rfl) h3
  obtain ⟨a4, rfl, rfl, rfl, w4⟩ := open_int Try.underlying2 (hval 4 2 v4 rfl rfl) h4
  obtain ⟨a5, rfl, rfl, rfl, w5⟩ := open_int Try.underlying2 (hval 5 2 v5 rfl rfl) h5
  clear hA0 hval0
  simp only [List.append_nil] at hW'
  have hlt0 : ∀ x ∈ p0, x.block < W.heap.size := fun x hx => by simpa using hW'.lt x (by simp [hx])
  have harg0 : ∀ (W' : World), Below W.heap.size W W' → DataW.Trod enc Try.prog W' 0 (fun b => decide (b < W.heap.size)) true 23 v0 d0 p0 :=
    fun W' hn => Below.trod laidOut (by kernel_rfl) (of_decide_eq_true (by kernel_rfl)) h0 hn hlt0
  obtain ⟨x0a, x0b, x0c, x0d, rfl, w0a, w0b, w0c, w0d⟩ := struct4_view Try.underlying23 cells_G rfl rfl rfl rfl ⟨cells2, Try.underlying2⟩ ⟨cells2, Try.underlying2⟩ ⟨cells2, Try.underlying2⟩ ⟨cells2, Try.underlying2⟩ h0 hsv0
  refine (walk x0a x0b x0c x0d w0a w0b w0c w0d a1 a2 a3 a4 a5 W ).mono fun e W' ⟨he, hg⟩ => ?_
  subst he
  refine ⟨_, rfl, _, _, _, [], p0 ++ (([] : List MemPlace) ++ (([] : List MemPlace) ++ (([] : List MemPlace) ++ (([] : List MemPlace) ++ (([] : List MemPlace)))))), [], hW', ?_, ?_, rfl, hg.frame _, fun h => by cases h⟩
  · exact trodAll_mk1 (shut_bool Try.underlying4 true)
  · exact trodAll_mk6 (harg0 _ hg) (shut_int Try.underlying2 w1) (shut_int Try.underlying2 w2) (shut_int Try.underlying2 w3) (shut_int Try.underlying2 w4) (shut_int Try.underlying2 w5)

theorem over : Rows.groupMulsRow.holds Try.pinned (OpenSpec.ofChange Rows.groupMulsSpec) :=
  OpenClaim.holds_of_wide 5 Try.f5 rfl rfl rfl rfl rfl rfl rfl ⟨rfl, rfl, rfl, rfl, rfl⟩ rfl rfl rfl rfl rfl (by kernel_rfl) Try.func5 (by kernel_rfl)
    (of_decide_eq_true (by kernel_rfl)) (by unfold Func.isWrapper; first | (rw [if_pos (by decide +kernel)]; kernel_rfl) | (rw [if_neg (by decide +kernel)]; exact ⟨rfl, rfl⟩))
    (fun os started H enc _ => lifted os started H enc)

/-- ████ THE STATEMENT ████ -/
theorem proved : Rows.GroupMulsSaid :=
  over

end Go.Proofs.Ytilpdoihgfonhab.groupMuls
