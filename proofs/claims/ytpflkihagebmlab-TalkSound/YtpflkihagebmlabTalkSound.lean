/-
  SCHNORR: for any group, any secret and any two talks of one beginning, asked two things, that fit: the secret is told.
-/
import Derived.Test.YtpflkihagebmlabRows
import Derived.Test.YtpflkihagebmlabCalls175
import Derived.Test.YtpflkihagebmlabBase10
import Derived.WalkKit
import Derived.ProofKit
import Derived.OpenShut
import Derived.Carry
namespace Go.Proofs.Ytpflkihagebmlab.talkSound
open Go.ChangeShapes Go.WideShapes Go.ChangeAt Go.RowKit Go.Deep Go.Proofs.Ytpflkihagebmlab.Base Go.Proofs.Ytpflkihagebmlab.Base2 Go.Proofs.Ytpflkihagebmlab.Base4 Go.Proofs.Ytpflkihagebmlab.Base10 Go.Proofs.Ytpflkihagebmlab.Num Go.Proofs.Ytpflkihagebmlab.Num56 Go.Proofs.Ytpflkihagebmlab.Calls157 Go.Proofs.Ytpflkihagebmlab.Calls158 Go.Proofs.Ytpflkihagebmlab.Calls160 Go.Proofs.Ytpflkihagebmlab.Base8 Go.Proofs.Ytpflkihagebmlab.Num55 Go.Proofs.Ytpflkihagebmlab.Calls162 Go.Proofs.Ytpflkihagebmlab.Calls167 Go.Proofs.Ytpflkihagebmlab.Calls168 Go.Proofs.Ytpflkihagebmlab.Calls169 Go.Proofs.Ytpflkihagebmlab.Calls170 Go.Proofs.Ytpflkihagebmlab.Calls171 Go.Proofs.Ytpflkihagebmlab.Calls175
set_option linter.unusedVariables false

theorem own : ownKnob Try.prog.godebug = none := by kernel_rfl

theorem laidOut : laidOutB Try.prog = true := by kernel_rfl

theorem cells2 : Try.prog.cellsOf 2 = 1 := by kernel_rfl

theorem cells_G : Try.prog.cellsOf 23 = 4 := by kernel_rfl

theorem cells_T : Try.prog.cellsOf 25 = 3 := by kernel_rfl

set_option maxRecDepth 100000 in
set_option maxHeartbeats 2000000 in
theorem walkN (P Q G H s y c : Int) (f a z f2 a2 z2 : Int) (hc : c ≠ 0)
    (cA : ∀ w, Calls Try.prog 9 #[.agg #[.int .i64 P, .int .i64 Q, .int .i64 G, .int .i64 H], .int .i64 s] w fun e w' => e = .returned (.tuple #[.int .i64 y, .int .i64 c]) ∧ Below w.heap.size w w')
    (cP : ∀ wr, Calls Try.prog 8 #[.agg #[.int .i64 P, .int .i64 Q, .int .i64 G, .int .i64 H], .slice (some ⟨wr.heap.size, 0, none⟩) 1 1] (wr.alloc (.cells #[.int .i64 s] 2)) fun e w' => e = .returned (.bool false) ∧ Below wr.heap.size wr w') (w : World) :
    Calls Try.prog 4 #[.agg #[.int .i64 P, .int .i64 Q, .int .i64 G, .int .i64 H], .int .i64 s, .agg #[.int .i64 f, .int .i64 a, .int .i64 z], .agg #[.int .i64 f2, .int .i64 a2, .int .i64 z2]] w fun e w' => e = .returned (.bool true) ∧ Below w.heap.size w w' := by
  have h1 : (c != 0) = true := by simpa using hc
  have K := hid (Ge.new w P Q G H #[.int .i64 f, .int .i64 a, .int .i64 z] #[.int .i64 f2, .int .i64 a2, .int .i64 z2])
  obtain ⟨c0, c1, c2, c3⟩ := K.out.1.1.cells
  obtain ⟨t0, t1, t2, _⟩ := box_three K.out.1.2
  obtain ⟨u0, u1, u2, _⟩ := box_three K.out.2
  go_enter Try.func4, Try.ntmps4
  go_wp2_with (first
    | (go_at_call 9; refine (cA _).mono ?_; clear cA; rintro e w1 ⟨rfl, hB1⟩; have K := hid (K.out.below hB1); obtain ⟨c0, c1, c2, c3⟩ := K.out.1.1.cells; obtain ⟨t0, t1, t2, _⟩ := box_three K.out.1.2; obtain ⟨u0, u1, u2, _⟩ := box_three K.out.2; clear hB1)
    | (go_at_call 8; refine (cP _).mono ?_; clear cP; rintro e w1 ⟨rfl, hB1⟩; have K := hid (K.out.below hB1); obtain ⟨c0, c1, c2, c3⟩ := K.out.1.1.cells; obtain ⟨t0, t1, t2, _⟩ := box_three K.out.1.2; obtain ⟨u0, u1, u2, _⟩ := box_three K.out.2; clear hB1))
  go_ret
  exact ⟨by simp, K.out.1.1.2⟩

set_option maxRecDepth 100000 in
set_option maxHeartbeats 4000000 in
/-- Not both fit, or they have not one First, or one Asked. -/
theorem walkM (P Q G H s x : Int) (f a z f2 a2 z2 : Int) (e0 d c1' c2' : Int) (b b2 : Bool) (hd : d ≠ 0)
    (hh : c1' ≠ 0 ∨ (c1' = 0 ∧ c2' ≠ 0) ∨ (c1' = 0 ∧ c2' = 0 ∧ b = false) ∨ (c1' = 0 ∧ c2' = 0 ∧ b = true ∧ b2 = false) ∨ (c1' = 0 ∧ c2' = 0 ∧ b = true ∧ b2 = true ∧ (f != f2) = true) ∨ (c1' = 0 ∧ c2' = 0 ∧ b = true ∧ b2 = true ∧ (f != f2) = false ∧ (a == a2) = true))
    (cA : ∀ w, Calls Try.prog 9 #[.agg #[.int .i64 P, .int .i64 Q, .int .i64 G, .int .i64 H], .int .i64 s] w fun e w' => e = .returned (.tuple #[.int .i64 x, .int .i64 0]) ∧ Below w.heap.size w w')
    (cP : ∀ wr, Calls Try.prog 8 #[.agg #[.int .i64 P, .int .i64 Q, .int .i64 G, .int .i64 H], .slice (some ⟨wr.heap.size, 0, none⟩) 1 1] (wr.alloc (.cells #[.int .i64 s] 2)) fun e w' => e = .returned (.bool true) ∧ Below wr.heap.size wr w')
    (cC : ∀ w, Calls Try.prog 10 #[.agg #[.int .i64 P, .int .i64 Q, .int .i64 G, .int .i64 H], .int .i64 x, .agg #[.int .i64 f, .int .i64 a, .int .i64 z]] w fun e w' => e = .returned (.tuple #[.bool b, .int .i64 c1']) ∧ Below w.heap.size w w')
    (cD : ∀ w, Calls Try.prog 10 #[.agg #[.int .i64 P, .int .i64 Q, .int .i64 G, .int .i64 H], .int .i64 x, .agg #[.int .i64 f2, .int .i64 a2, .int .i64 z2]] w fun e w' => e = .returned (.tuple #[.bool b2, .int .i64 c2']) ∧ Below w.heap.size w w')
    (cE : ∀ w, Calls Try.prog 11 #[.agg #[.int .i64 P, .int .i64 Q, .int .i64 G, .int .i64 H], .int .i64 x, .agg #[.int .i64 f, .int .i64 a, .int .i64 z], .agg #[.int .i64 f2, .int .i64 a2, .int .i64 z2]] w fun e w' => e = .returned (.tuple #[.int .i64 e0, .int .i64 d]) ∧ Below w.heap.size w w')
    (cO : ∀ w, Calls Try.prog 10 #[.agg #[.int .i64 P, .int .i64 Q, .int .i64 G, .int .i64 H], .int .i64 x, .agg #[.int .i64 1, .int .i64 0, .int .i64 0]] w fun e w' => e = .returned (.tuple #[.bool true, .int .i64 0]) ∧ Below w.heap.size w w') (w : World) :
    Calls Try.prog 4 #[.agg #[.int .i64 P, .int .i64 Q, .int .i64 G, .int .i64 H], .int .i64 s, .agg #[.int .i64 f, .int .i64 a, .int .i64 z], .agg #[.int .i64 f2, .int .i64 a2, .int .i64 z2]] w fun e w' => e = .returned (.bool true) ∧ Below w.heap.size w w' := by
  have h1 : (d != 0) = true := by simpa using hd
  have hh' : (c1' != 0) = true ∨ (c1' = 0 ∧ (c2' != 0) = true) ∨ (c1' = 0 ∧ c2' = 0 ∧ b = false) ∨ (c1' = 0 ∧ c2' = 0 ∧ b = true ∧ b2 = false) ∨ (c1' = 0 ∧ c2' = 0 ∧ b = true ∧ b2 = true ∧ (f != f2) = true) ∨ (c1' = 0 ∧ c2' = 0 ∧ b = true ∧ b2 = true ∧ (f != f2) = false ∧ (a == a2) = true) := by
    simpa using hh
  clear hh hd
  have K := hid (Ge.new w P Q G H #[.int .i64 f, .int .i64 a, .int .i64 z] #[.int .i64 f2, .int .i64 a2, .int .i64 z2])
  obtain ⟨c0, c1, c2, c3⟩ := K.out.1.1.cells
  obtain ⟨t0, t1, t2, _⟩ := box_three K.out.1.2
  obtain ⟨u0, u1, u2, _⟩ := box_three K.out.2
  rcases hh' with g1 | ⟨rfl, g1⟩ | ⟨rfl, rfl, rfl⟩ | ⟨rfl, rfl, rfl, rfl⟩ | ⟨rfl, rfl, rfl, rfl, g1⟩ | ⟨rfl, rfl, rfl, rfl, g1, g2⟩
  all_goals
    go_enter Try.func4, Try.ntmps4
    go_wp2_with (first
      | (go_at_call 9; refine (cA _).mono ?_; clear cA; rintro e w1 ⟨rfl, hB1⟩; have K := hid (K.out.below hB1); obtain ⟨c0, c1, c2, c3⟩ := K.out.1.1.cells; obtain ⟨t0, t1, t2, _⟩ := box_three K.out.1.2; obtain ⟨u0, u1, u2, _⟩ := box_three K.out.2; clear hB1)
      | (go_at_call 8; refine (cP _).mono ?_; clear cP; rintro e w1 ⟨rfl, hB1⟩; have K := hid (K.out.below hB1); obtain ⟨c0, c1, c2, c3⟩ := K.out.1.1.cells; obtain ⟨t0, t1, t2, _⟩ := box_three K.out.1.2; obtain ⟨u0, u1, u2, _⟩ := box_three K.out.2; clear hB1)
      | (go_at_call 10; refine (cC _).mono ?_; clear cC; rintro e w1 ⟨rfl, hB1⟩; have K := hid (K.out.below hB1); obtain ⟨c0, c1, c2, c3⟩ := K.out.1.1.cells; obtain ⟨t0, t1, t2, _⟩ := box_three K.out.1.2; obtain ⟨u0, u1, u2, _⟩ := box_three K.out.2; clear hB1)
      | (go_at_call 10; refine (cD _).mono ?_; clear cD; rintro e w1 ⟨rfl, hB1⟩; have K := hid (K.out.below hB1); obtain ⟨c0, c1, c2, c3⟩ := K.out.1.1.cells; obtain ⟨t0, t1, t2, _⟩ := box_three K.out.1.2; obtain ⟨u0, u1, u2, _⟩ := box_three K.out.2; clear hB1)
      | (go_at_call 11; refine (cE _).mono ?_; clear cE; rintro e w1 ⟨rfl, hB1⟩; have K := hid (K.out.below hB1); obtain ⟨c0, c1, c2, c3⟩ := K.out.1.1.cells; obtain ⟨t0, t1, t2, _⟩ := box_three K.out.1.2; obtain ⟨u0, u1, u2, _⟩ := box_three K.out.2; clear hB1)
      | (go_at_call 10; refine (cO _).mono ?_; clear cO; rintro e w1 ⟨rfl, hB1⟩; have K := hid (K.out.below hB1); obtain ⟨c0, c1, c2, c3⟩ := K.out.1.1.cells; obtain ⟨t0, t1, t2, _⟩ := box_three K.out.1.2; obtain ⟨u0, u1, u2, _⟩ := box_three K.out.2; clear hB1))
    go_ret
    exact ⟨by simp, K.out.1.1.2⟩

set_option maxRecDepth 100000 in
set_option maxHeartbeats 4000000 in
theorem walkY (P Q G H s x : Int) (f a z a2 z2 : Int) (g2 : (a == a2) = false)
    (cA : ∀ w, Calls Try.prog 9 #[.agg #[.int .i64 P, .int .i64 Q, .int .i64 G, .int .i64 H], .int .i64 s] w fun e w' => e = .returned (.tuple #[.int .i64 x, .int .i64 0]) ∧ Below w.heap.size w w')
    (cP : ∀ wr, Calls Try.prog 8 #[.agg #[.int .i64 P, .int .i64 Q, .int .i64 G, .int .i64 H], .slice (some ⟨wr.heap.size, 0, none⟩) 1 1] (wr.alloc (.cells #[.int .i64 s] 2)) fun e w' => e = .returned (.bool true) ∧ Below wr.heap.size wr w')
    (cC : ∀ w, Calls Try.prog 10 #[.agg #[.int .i64 P, .int .i64 Q, .int .i64 G, .int .i64 H], .int .i64 x, .agg #[.int .i64 f, .int .i64 a, .int .i64 z]] w fun e w' => e = .returned (.tuple #[.bool true, .int .i64 0]) ∧ Below w.heap.size w w')
    (cD : ∀ w, Calls Try.prog 10 #[.agg #[.int .i64 P, .int .i64 Q, .int .i64 G, .int .i64 H], .int .i64 x, .agg #[.int .i64 f, .int .i64 a2, .int .i64 z2]] w fun e w' => e = .returned (.tuple #[.bool true, .int .i64 0]) ∧ Below w.heap.size w w')
    (cE : ∀ w, Calls Try.prog 11 #[.agg #[.int .i64 P, .int .i64 Q, .int .i64 G, .int .i64 H], .int .i64 x, .agg #[.int .i64 f, .int .i64 a, .int .i64 z], .agg #[.int .i64 f, .int .i64 a2, .int .i64 z2]] w fun e w' => e = .returned (.tuple #[.int .i64 s, .int .i64 0]) ∧ Below w.heap.size w w')
    (cO : ∀ w, Calls Try.prog 10 #[.agg #[.int .i64 P, .int .i64 Q, .int .i64 G, .int .i64 H], .int .i64 x, .agg #[.int .i64 1, .int .i64 0, .int .i64 0]] w fun e w' => e = .returned (.tuple #[.bool true, .int .i64 0]) ∧ Below w.heap.size w w') (w : World) :
    Calls Try.prog 4 #[.agg #[.int .i64 P, .int .i64 Q, .int .i64 G, .int .i64 H], .int .i64 s, .agg #[.int .i64 f, .int .i64 a, .int .i64 z], .agg #[.int .i64 f, .int .i64 a2, .int .i64 z2]] w fun e w' => e = .returned (.bool true) ∧ Below w.heap.size w w' := by
  have g1 : (f != f) = false := bne_self_eq_false _
  have K := hid (Ge.new w P Q G H #[.int .i64 f, .int .i64 a, .int .i64 z] #[.int .i64 f, .int .i64 a2, .int .i64 z2])
  obtain ⟨c0, c1, c2, c3⟩ := K.out.1.1.cells
  obtain ⟨t0, t1, t2, _⟩ := box_three K.out.1.2
  obtain ⟨u0, u1, u2, _⟩ := box_three K.out.2
  go_enter Try.func4, Try.ntmps4
  go_wp2_with (first
    | (go_at_call 9; refine (cA _).mono ?_; clear cA; rintro e w1 ⟨rfl, hB1⟩; have K := hid (K.out.below hB1); obtain ⟨c0, c1, c2, c3⟩ := K.out.1.1.cells; obtain ⟨t0, t1, t2, _⟩ := box_three K.out.1.2; obtain ⟨u0, u1, u2, _⟩ := box_three K.out.2; clear hB1)
    | (go_at_call 8; refine (cP _).mono ?_; clear cP; rintro e w1 ⟨rfl, hB1⟩; have K := hid (K.out.below hB1); obtain ⟨c0, c1, c2, c3⟩ := K.out.1.1.cells; obtain ⟨t0, t1, t2, _⟩ := box_three K.out.1.2; obtain ⟨u0, u1, u2, _⟩ := box_three K.out.2; clear hB1)
    | (go_at_call 10; refine (cC _).mono ?_; clear cC; rintro e w1 ⟨rfl, hB1⟩; have K := hid (K.out.below hB1); obtain ⟨c0, c1, c2, c3⟩ := K.out.1.1.cells; obtain ⟨t0, t1, t2, _⟩ := box_three K.out.1.2; obtain ⟨u0, u1, u2, _⟩ := box_three K.out.2; clear hB1)
    | (go_at_call 10; refine (cD _).mono ?_; clear cD; rintro e w1 ⟨rfl, hB1⟩; have K := hid (K.out.below hB1); obtain ⟨c0, c1, c2, c3⟩ := K.out.1.1.cells; obtain ⟨t0, t1, t2, _⟩ := box_three K.out.1.2; obtain ⟨u0, u1, u2, _⟩ := box_three K.out.2; clear hB1)
    | (go_at_call 11; refine (cE _).mono ?_; clear cE; rintro e w1 ⟨rfl, hB1⟩; have K := hid (K.out.below hB1); obtain ⟨c0, c1, c2, c3⟩ := K.out.1.1.cells; obtain ⟨t0, t1, t2, _⟩ := box_three K.out.1.2; obtain ⟨u0, u1, u2, _⟩ := box_three K.out.2; clear hB1)
    | (go_at_call 10; refine (cO _).mono ?_; clear cO; rintro e w1 ⟨rfl, hB1⟩; have K := hid (K.out.below hB1); obtain ⟨c0, c1, c2, c3⟩ := K.out.1.1.cells; obtain ⟨t0, t1, t2, _⟩ := box_three K.out.1.2; obtain ⟨u0, u1, u2, _⟩ := box_three K.out.2; clear hB1))
  go_ret
  exact ⟨by simp, K.out.1.1.2⟩

theorem walk (P Q G H : Int) (wP : (Lit.int .i64 P).wf = true) (wQ : (Lit.int .i64 Q).wf = true) (wG : (Lit.int .i64 G).wf = true) (wH : (Lit.int .i64 H).wf = true) (s f a z : Int) (wf : (Lit.int .i64 f).wf = true) (wa : (Lit.int .i64 a).wf = true) (wz : (Lit.int .i64 z).wf = true) (f2 a2 z2 : Int) (wf2 : (Lit.int .i64 f2).wf = true) (wa2 : (Lit.int .i64 a2).wf = true) (wz2 : (Lit.int .i64 z2).wf = true) (w : World) :
    Calls Try.prog 4 #[.agg #[.int .i64 P, .int .i64 Q, .int .i64 G, .int .i64 H], .int .i64 s, .agg #[.int .i64 f, .int .i64 a, .int .i64 z], .agg #[.int .i64 f2, .int .i64 a2, .int .i64 z2]] w fun e w' => e = .returned (.bool true) ∧ Below w.heap.size w w' := by
  by_cases hs0 : aC P Q G H [s] [] = 0
  · have cP := fun wr => pk1 P Q G H s true (by simp [hs0]) wr
    obtain ⟨p, q, g, h', rfl, rfl, rfl, rfl, hG, h1, _⟩ := aC_zero hs0
    obtain ⟨s, rfl, hs⟩ := h1 s (by simp)
    have q2 := hG.q2
    have hx : Mem p q (g ^ s % p) := hG.g.mem.pow hG.g.pr hG.g.prq s
    have m1 : Mem p q 1 := Mem.one hG.g.pr
    have cA := fun w => Public_yes p q g h' s hG hs w
    have cO := fun w => Check_yes p q g h' (g ^ s % p) 1 0 0 hG hx m1 (by omega) (by omega) true (by simp [← one_fits hG.g hx]) w
    rw [show ((1 : Nat) : Int) = 1 from rfl, show ((0 : Nat) : Int) = 0 from rfl] at cO
    by_cases h : aC (p : Int) (q : Int) (g : Int) (h' : Int) [a, z, a2, z2] [((g ^ s % p : Nat) : Int), f, f2] = 0
    · have t1 : aC (p : Int) (q : Int) (g : Int) (h' : Int) [a, z] [((g ^ s % p : Nat) : Int), f] = 0 := aC_sub' h (fun y hy => by simp at hy; rcases hy with rfl | rfl <;> simp) (fun y hy => by simp at hy; rcases hy with rfl | rfl <;> simp)
      have t2 : aC (p : Int) (q : Int) (g : Int) (h' : Int) [a2, z2] [((g ^ s % p : Nat) : Int), f2] = 0 := aC_sub' h (fun y hy => by simp at hy; rcases hy with rfl | rfl <;> simp) (fun y hy => by simp at hy; rcases hy with rfl | rfl <;> simp)
      obtain ⟨_, q', _, _, _, eq, _, _, _, h1, h2⟩ := aC_zero h
      obtain rfl : q = q' := by omega
      obtain ⟨p', q', _, _, ep, eq', _, _, _, _, h2⟩ := aC_zero h
      obtain rfl : q = q' := by omega
      obtain rfl : p = p' := by omega
      obtain ⟨a, rfl, ha⟩ := h1 a (by simp)
      obtain ⟨z, rfl, hz⟩ := h1 z (by simp)
      obtain ⟨a2, rfl, ha2⟩ := h1 a2 (by simp)
      obtain ⟨z2, rfl, hz2⟩ := h1 z2 (by simp)
      obtain ⟨f, rfl, hf⟩ := h2 f (by simp)
      obtain ⟨f2, rfl, hf2⟩ := h2 f2 (by simp)
      by_cases hh : f = fst p q g (g ^ s % p) a z ∧ f2 = fst p q g (g ^ s % p) a2 z2 ∧ f = f2 ∧ a ≠ a2
      · obtain ⟨k1, k2, rfl, k3⟩ := hh
        obtain ⟨s', ⟨hs', es⟩, cE⟩ := Extract_yes p q g h' (g ^ s % p) f a z a2 z2 hG hx hf ha hz ha2 hz2 k1 k2 k3
        obtain rfl : s' = s := (pow_lt_iff hG.g hs' hs).1 es
        exact walkY p q g h' s' _ f a z a2 z2 (i64_ne k3) cA cP (fun w => Check_yes p q g h' _ f a z hG hx hf ha hz true (by simp [← k1]) w) (fun w => Check_yes p q g h' _ f a2 z2 hG hx hf ha2 hz2 true (by simp [← k2]) w) cE cO w
      · refine walkM p q g h' s _ f a z f2 a2 z2 0 3 0 0 (decide (f = fst p q g (g ^ s % p) a z)) (decide (f2 = fst p q g (g ^ s % p) a2 z2)) (by decide) ?_ cA cP (fun w => Check_yes p q g h' _ f a z hG hx hf ha hz _ (by rw [decide_eq_true_iff]) w) (fun w => Check_yes p q g h' _ f2 a2 z2 hG hx hf2 ha2 hz2 _ (by rw [decide_eq_true_iff]) w) (fun w => Extract_no p q g h' _ f a z f2 a2 z2 hG hx hf hf2 ha hz ha2 hz2 hh w) cO w
        by_cases k1 : f = fst p q g (g ^ s % p) a z
        · by_cases k2 : f2 = fst p q g (g ^ s % p) a2 z2
          · by_cases e : f = f2
            · by_cases e2 : a = a2
              · exact .inr (.inr (.inr (.inr (.inr ⟨rfl, rfl, decide_eq_true k1, decide_eq_true k2, by rw [e]; exact bne_self_eq_false _, i64_eq e2⟩))))
              · exact absurd ⟨k1, k2, e, e2⟩ hh
            · exact .inr (.inr (.inr (.inr (.inl ⟨rfl, rfl, decide_eq_true k1, decide_eq_true k2, i64_bne e⟩))))
          · exact .inr (.inr (.inr (.inl ⟨rfl, rfl, decide_eq_true k1, decide_eq_false k2⟩)))
        · exact .inr (.inr (.inl ⟨rfl, rfl, decide_eq_false k1⟩))
    · obtain ⟨b, cC⟩ := Check_any' (p : Int) (q : Int) (g : Int) (h' : Int) ((g ^ s % p : Nat) : Int) f a z
      obtain ⟨b2, cD⟩ := Check_any' (p : Int) (q : Int) (g : Int) (h' : Int) ((g ^ s % p : Nat) : Int) f2 a2 z2
      refine walkM p q g h' s _ f a z f2 a2 z2 0 _ _ _ b b2 h ?_ cA cP cC cD (fun w => Extract_bad _ _ _ _ _ f a z f2 a2 z2 h w) cO w
      by_cases k1 : aC (p : Int) (q : Int) (g : Int) (h' : Int) [a, z] [((g ^ s % p : Nat) : Int), f] = 0
      · refine .inr (.inl ⟨k1, fun k2 => h ?_⟩)
        obtain ⟨p', q', _, _, ep, eq, _, _, _, h1, h2⟩ := aC_zero k1
        obtain ⟨p'', q'', _, _, ep', eq', _, _, _, h3, h4⟩ := aC_zero k2
        obtain rfl : q = q' := by omega
        obtain rfl : q = q'' := by omega
        obtain rfl : p = p' := by omega
        obtain rfl : p = p'' := by omega
        refine aC_of hG (fun y hy => ?_) (fun y hy => ?_)
        · simp at hy
          rcases hy with rfl | rfl | rfl | rfl
          · exact h1 _ (by simp)
          · exact h1 _ (by simp)
          · exact h3 _ (by simp)
          · exact h3 _ (by simp)
        · simp at hy
          rcases hy with rfl | rfl | rfl
          · exact h2 _ (by simp)
          · exact h2 _ (by simp)
          · exact h4 _ (by simp)
      · exact .inl k1
  · obtain ⟨y, cA⟩ := Public_any P Q G H s
    exact walkN P Q G H s y _ f a z f2 a2 z2 hs0 cA (fun wr => pk1 P Q G H s false (by simp [hs0]) wr) w

set_option maxRecDepth 100000 in
theorem lifted (os : Os) (started : os.Started) (H : Type) (enc : TypeId × Value → H) :
    ReturnsInHanded {} Try.checked os 4 .any (Rows.talkSoundSpec.pre6 enc Try.prog Try.f4 Rows.talkSoundRow.domain false) (Rows.talkSoundSpec.post enc Try.prog Try.f4 false true false false) := by
  refine returnsInHanded_of_change (C := Try.checked) own started (by kernel_rfl) Try.func4
    (ChangeSpec.witness6 (enc := enc) (C := Try.checked) false ⟨#[], #[.agg #[.int .i64 0, .int .i64 0, .int .i64 0, .int .i64 0], .int .i64 0, .agg #[.int .i64 0, .int .i64 0, .int .i64 0], .agg #[.int .i64 0, .int .i64 0, .int .i64 0]], []⟩ 8 (by kernel_rfl) (by kernel_rfl) (by kernel_rfl) (by kernel_rfl)) ?_
  intro W base args ds gs before hval0 hW hcnd _
  have hval : ∀ (j : Nat) t v, Try.f4.params[j]? = some t → args[j]? = some v → Value.okWide Try.prog W .any base t v := hval0
  have hW' := hW
  obtain ⟨p, q, hA0, hV, rfl, _, _⟩ := hW
  have hA : DataW.TrodAll enc Try.prog W 0 (fun _ => true) true Try.f4.params.toList args.toList ds p := hA0
  rw [Try.params4] at hA hval
  obtain ⟨v0, v1, v2, v3, d0, d1, d2, d3, p0, p1, p2, p3, rfl, rfl, rfl, h0, h1, h2, h3⟩ := trodAll_four hA
  obtain ⟨rfl, rfl⟩ := trodVars_none hV
  have hsv0 := hval 0 23 v0 rfl rfl
  obtain ⟨a1, rfl, rfl, rfl, w1⟩ := open_int Try.underlying2 (hval 1 2 v1 rfl rfl) h1
  have hsv2 := hval 2 25 v2 rfl rfl
  have hsv3 := hval 3 25 v3 rfl rfl
  clear hA0 hval0
  simp only [List.append_nil] at hW'
  have hlt0 : ∀ x ∈ p0, x.block < W.heap.size := fun x hx => by simpa using hW'.lt x (by simp [hx])
  have harg0 : ∀ (W' : World), Below W.heap.size W W' → DataW.Trod enc Try.prog W' 0 (fun b => decide (b < W.heap.size)) true 23 v0 d0 p0 :=
    fun W' hn => Below.trod laidOut (by kernel_rfl) (of_decide_eq_true (by kernel_rfl)) h0 hn hlt0
  obtain ⟨x0a, x0b, x0c, x0d, rfl, w0a, w0b, w0c, w0d⟩ := struct4_view Try.underlying23 cells_G rfl rfl rfl rfl ⟨cells2, Try.underlying2⟩ ⟨cells2, Try.underlying2⟩ ⟨cells2, Try.underlying2⟩ ⟨cells2, Try.underlying2⟩ h0 hsv0
  have hlt2 : ∀ x ∈ p2, x.block < W.heap.size := fun x hx => by simpa using hW'.lt x (by simp [hx])
  have harg2 : ∀ (W' : World), Below W.heap.size W W' → DataW.Trod enc Try.prog W' 0 (fun b => decide (b < W.heap.size)) true 25 v2 d2 p2 :=
    fun W' hn => Below.trod laidOut (by kernel_rfl) (of_decide_eq_true (by kernel_rfl)) h2 hn hlt2
  obtain ⟨x2a, x2b, x2c, rfl, w2a, w2b, w2c⟩ := struct3_view Try.underlying25 cells_T rfl rfl rfl ⟨cells2, Try.underlying2⟩ ⟨cells2, Try.underlying2⟩ ⟨cells2, Try.underlying2⟩ h2 hsv2
  have hlt3 : ∀ x ∈ p3, x.block < W.heap.size := fun x hx => by simpa using hW'.lt x (by simp [hx])
  have harg3 : ∀ (W' : World), Below W.heap.size W W' → DataW.Trod enc Try.prog W' 0 (fun b => decide (b < W.heap.size)) true 25 v3 d3 p3 :=
    fun W' hn => Below.trod laidOut (by kernel_rfl) (of_decide_eq_true (by kernel_rfl)) h3 hn hlt3
  obtain ⟨x3a, x3b, x3c, rfl, w3a, w3b, w3c⟩ := struct3_view Try.underlying25 cells_T rfl rfl rfl ⟨cells2, Try.underlying2⟩ ⟨cells2, Try.underlying2⟩ ⟨cells2, Try.underlying2⟩ h3 hsv3
  refine (walk x0a x0b x0c x0d w0a w0b w0c w0d a1 x2a x2b x2c w2a w2b w2c x3a x3b x3c w3a w3b w3c W ).mono fun e W' ⟨he, hg⟩ => ?_
  subst he
  refine ⟨_, rfl, _, _, _, [], p0 ++ (([] : List MemPlace) ++ (p2 ++ (p3))), [], hW', ?_, ?_, rfl, hg.frame _, fun h => by cases h⟩
  · exact trodAll_mk1 (shut_bool Try.underlying4 true)
  · exact trodAll_mk4 (harg0 _ hg) (shut_int Try.underlying2 w1) (harg2 _ hg) (harg3 _ hg)

theorem over : Rows.talkSoundRow.holds Try.pinned (OpenSpec.ofChange Rows.talkSoundSpec) :=
  OpenClaim.holds_of_wide 4 Try.f4 rfl rfl rfl rfl rfl rfl rfl ⟨rfl, rfl, rfl, rfl, rfl⟩ rfl rfl rfl rfl rfl (by kernel_rfl) Try.func4 (by kernel_rfl)
    (of_decide_eq_true (by kernel_rfl)) (by unfold Func.isWrapper; first | (rw [if_pos (by decide +kernel)]; kernel_rfl) | (rw [if_neg (by decide +kernel)]; exact ⟨rfl, rfl⟩))
    (fun os started H enc _ => lifted os started H enc)

/-- ████ THE STATEMENT ████ -/
theorem proved : Rows.TalkSoundSaid :=
  over

end Go.Proofs.Ytpflkihagebmlab.talkSound
