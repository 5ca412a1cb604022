/-
  Package talk: Feign, Check.
-/
import Derived.Test.YtpflkihagebmlabCalls167
namespace Go.Proofs.Ytpflkihagebmlab.Calls169
set_option linter.unusedVariables false
open Go.ChangeShapes Go.WideShapes Go.ChangeAt Go.RowKit Go.Deep Go.Proofs.Ytpflkihagebmlab.Base Go.Proofs.Ytpflkihagebmlab.Base2 Go.Proofs.Ytpflkihagebmlab.Num Go.Proofs.Ytpflkihagebmlab.Num13 Go.Proofs.Ytpflkihagebmlab.Num16 Go.Proofs.Ytpflkihagebmlab.Num17 Go.Proofs.Ytpflkihagebmlab.Num34 Go.Proofs.Ytpflkihagebmlab.Base4 Go.Proofs.Ytpflkihagebmlab.Num56 Go.Proofs.Ytpflkihagebmlab.Calls157 Go.Proofs.Ytpflkihagebmlab.Calls158 Go.Proofs.Ytpflkihagebmlab.Calls160 Go.Proofs.Ytpflkihagebmlab.Calls167

/-- A member among those asked about changes nothing. -/
theorem aC_skip {p q g k y : Nat} (hy : Mem p q y) (le : List Int) {lm ld : List Int} (hs : ∀ x, x ∈ ld ↔ x = (y : Int) ∨ x ∈ lm) : aC (p : Int) (q : Int) (g : Int) (k : Int) le ld = aC (p : Int) (q : Int) (g : Int) (k : Int) le lm := by
  have e : ld.any (noM (p : Int) (q : Int)) = lm.any (noM (p : Int) (q : Int)) := by
    rw [Bool.eq_iff_iff, List.any_eq_true, List.any_eq_true]
    constructor
    · rintro ⟨x, hx, e⟩
      rcases (hs x).1 hx with rfl | h3
      · rw [(noM_iff p q _).2 ⟨y, rfl, hy⟩] at e; cases e
      · exact ⟨x, h3, e⟩
    · rintro ⟨x, hx, e⟩
      exact ⟨x, (hs x).2 (.inr hx), e⟩
  unfold aC
  rw [e]

/-- What First is to be. -/
def fst (P Q G x a z : Nat) : Nat := (G ^ z % P) * (x ^ (Q - a) % P) % P

theorem fst_mem {P Q G x a z : Nat} (hG : Gp P Q G) (hx : Mem P Q x) : Mem P Q (fst P Q G x a z) := (hG.mem.pow hG.pr hG.prq z).mul hG.pr hG.prq (hx.pow hG.pr hG.prq (Q - a))

theorem fst_fits {P Q G x a z : Nat} (hG : Gp P Q G) (hx : Mem P Q x) (ha : a < Q) : fst P Q G x a z * (x ^ a % P) % P = G ^ z % P := by
  unfold fst
  rw [Nat.mod_mul_mod, Nat.mul_assoc, Nat.mul_mod, quot_pow hx ha, Nat.mul_one, Nat.mod_mod, Nat.mod_mod]

/-- Just this First fits. -/
theorem fst_iff {P Q G x a z f : Nat} (hG : Gp P Q G) (hx : Mem P Q x) (ha : a < Q) (hf : f < P) : G ^ z % P = f * (x ^ a % P) % P ↔ f = fst P Q G x a z := by
  constructor
  · intro h
    exact quot_uniq hG.pr hG.prq (hx.pow hG.pr hG.prq a) hf (fst_mem hG hx).2.1 (by rw [fst_fits hG hx ha, h])
  · rintro rfl
    exact (fst_fits hG hx ha).symm

/-! ### Feign -/

set_option maxRecDepth 100000 in
set_option maxHeartbeats 1000000 in
theorem Feign_one (P Q G H x a z : Int) (h : aC P Q G H [z] [] ≠ 0) (w : World) :
    Calls Try.prog 12 #[.agg #[.int .i64 P, .int .i64 Q, .int .i64 G, .int .i64 H], .int .i64 x, .int .i64 a, .int .i64 z] w fun e w' => e = .returned (.tuple #[.agg #[.int .i64 0, .int .i64 0, .int .i64 0], .int .i64 (aC P Q G H [z] [])]) ∧ Below w.heap.size w w' := by
  have K := hid (Gs.new w P Q G H #[.int .i64 0, .int .i64 0, .int .i64 0])
  obtain ⟨c0, c1, c2, c3⟩ := K.out.1.cells
  have cA := fun w => Public_bad P Q G H z h w
  generalize aC P Q G H [z] [] = c at *
  have h1 : (c != 0) = true := by simpa using h
  go_enter Try.func12, Try.ntmps12
  go_wp2_with (go_at_call 9; refine (cA _).mono ?_; clear cA; rintro e w1 ⟨rfl, hB1⟩; have K1 := hid (K.out.below hB1); obtain ⟨r0, r1, r2, f0, f1, f2⟩ := box_three K1.out.2; clear hB1)
  have R := K1.out.set (.int .i64 0) (.int .i64 0) (.int .i64 0)
  obtain ⟨s0, s1, s2, _⟩ := box_three R.2
  exact bodyPost_ret (v := .tuple #[.agg #[.int .i64 0, .int .i64 0, .int .i64 0], .int .i64 c]) (by simp [results, Try.results12, go_sem, s0, s1, s2]) rfl ⟨rfl, R.1.2⟩

set_option maxRecDepth 100000 in
set_option maxHeartbeats 1000000 in
theorem Feign_two (P Q G H z : Nat) (x a : Int) (hG : Grp P Q G H) (hz : z < Q) (h : aC (P : Int) (Q : Int) (G : Int) (H : Int) [a] [x, ((G ^ z % P : Nat) : Int)] ≠ 0) (w : World) :
    Calls Try.prog 12 #[.agg #[.int .i64 (P : Int), .int .i64 (Q : Int), .int .i64 (G : Int), .int .i64 (H : Int)], .int .i64 x, .int .i64 a, .int .i64 (z : Int)] w fun e w' => e = .returned (.tuple #[.agg #[.int .i64 0, .int .i64 0, .int .i64 0], .int .i64 (aC (P : Int) (Q : Int) (G : Int) (H : Int) [a] [x, ((G ^ z % P : Nat) : Int)])]) ∧ Below w.heap.size w w' := by
  have K := hid (Gs.new w (P : Int) (Q : Int) (G : Int) (H : Int) #[.int .i64 0, .int .i64 0, .int .i64 0])
  obtain ⟨c0, c1, c2, c3⟩ := K.out.1.cells
  have cA := fun w => Public_yes P Q G H z hG hz w
  have cB := fun w => Open_bad (P : Int) (Q : Int) (G : Int) (H : Int) a x _ h w
  generalize aC (P : Int) (Q : Int) (G : Int) (H : Int) [a] [x, ((G ^ z % P : Nat) : Int)] = c at *
  have h1 : (c != 0) = true := by simpa using h
  clear hG hz
  generalize G ^ z % P = y at *
  go_enter Try.func12, Try.ntmps12
  go_wp2_with (first
    | (go_at_call 9; refine (cA _).mono ?_; clear cA; rintro e w1 ⟨rfl, hB1⟩; have K1 := hid (K.out.below hB1); obtain ⟨d0, d1, d2, d3⟩ := K1.out.1.cells; clear hB1)
    | (go_at_call 22; refine (cB _).mono ?_; clear cB; rintro e w2 ⟨rfl, hB2⟩; have K2 := hid (K1.out.below hB2); obtain ⟨r0, r1, r2, f0, f1, f2⟩ := box_three K2.out.2; clear hB2))
  have R := K2.out.set (.int .i64 0) (.int .i64 0) (.int .i64 0)
  obtain ⟨s0, s1, s2, _⟩ := box_three R.2
  exact bodyPost_ret (v := .tuple #[.agg #[.int .i64 0, .int .i64 0, .int .i64 0], .int .i64 c]) (by simp [results, Try.results12, go_sem, s0, s1, s2]) rfl ⟨rfl, R.1.2⟩

theorem Feign_bad (P Q G H x a z : Int) (h : aC P Q G H [a, z] [x] ≠ 0) (w : World) :
    Calls Try.prog 12 #[.agg #[.int .i64 P, .int .i64 Q, .int .i64 G, .int .i64 H], .int .i64 x, .int .i64 a, .int .i64 z] w fun e w' => e = .returned (.tuple #[.agg #[.int .i64 0, .int .i64 0, .int .i64 0], .int .i64 (aC P Q G H [a, z] [x])]) ∧ Below w.heap.size w w' := by
  by_cases h1 : aC P Q G H [z] [] = 0
  · have e : aC P Q G H [a, z] [x] = aC P Q G H [a] [x] := aC_good [x] h1 (fun x => by simp [or_comm])
    obtain ⟨p, q, g, k, rfl, rfl, rfl, rfl, hG, hx, _⟩ := aC_zero h1
    obtain ⟨n, rfl, hn⟩ := hx z (by simp)
    have e2 : aC (p : Int) (q : Int) (g : Int) (k : Int) [a] [x, ((g ^ n % p : Nat) : Int)] = aC (p : Int) (q : Int) (g : Int) (k : Int) [a] [x] := aC_skip (hG.g.mem.pow hG.g.pr hG.g.prq n) [a] (fun y => by simp [or_comm])
    rw [e, ← e2] at h ⊢
    exact Feign_two p q g k n x a hG hn h w
  · rw [aC_bad [x] h1 (by simp)]
    exact Feign_one P Q G H x a z h1 w

set_option maxRecDepth 100000 in
set_option maxHeartbeats 1000000 in
theorem Feign_yes (P Q G H x a z : Nat) (hG : Grp P Q G H) (hx : Mem P Q x) (ha : a < Q) (hz : z < Q) (w : World) :
    Calls Try.prog 12 #[.agg #[.int .i64 (P : Int), .int .i64 (Q : Int), .int .i64 (G : Int), .int .i64 (H : Int)], .int .i64 (x : Int), .int .i64 (a : Int), .int .i64 (z : Int)] w fun e w' => e = .returned (.tuple #[.agg #[.int .i64 (fst P Q G x a z : Nat), .int .i64 (a : Int), .int .i64 (z : Int)], .int .i64 0]) ∧ Below w.heap.size w w' := by
  have K := hid (Gs.new w (P : Int) (Q : Int) (G : Int) (H : Int) #[.int .i64 0, .int .i64 0, .int .i64 0])
  obtain ⟨c0, c1, c2, c3⟩ := K.out.1.cells
  have cA := fun w => Public_yes P Q G H z hG hz w
  have cB := fun w => Open_yes P Q G H a x (G ^ z % P) hG ha hx (hG.g.mem.pow hG.g.pr hG.g.prq z) w
  have e0 : (G ^ z % P) * (x ^ (Q - a) % P) % P = fst P Q G x a z := rfl
  rw [e0] at cB
  clear hG hx ha hz e0
  generalize fst P Q G x a z = o at *
  generalize G ^ z % P = y at *
  go_enter Try.func12, Try.ntmps12
  go_wp2_with (first
    | (go_at_call 9; refine (cA _).mono ?_; clear cA; rintro e w1 ⟨rfl, hB1⟩; have K1 := hid (K.out.below hB1); obtain ⟨d0, d1, d2, d3⟩ := K1.out.1.cells; clear hB1)
    | (go_at_call 22; refine (cB _).mono ?_; clear cB; rintro e w2 ⟨rfl, hB2⟩; have K2 := hid (K1.out.below hB2); obtain ⟨r0, r1, r2, f0, f1, f2⟩ := box_three K2.out.2; clear hB2))
  have R := K2.out.set (.int .i64 (o : Int)) (.int .i64 (a : Int)) (.int .i64 (z : Int))
  obtain ⟨s0, s1, s2, _⟩ := box_three R.2
  exact bodyPost_ret (v := .tuple #[.agg #[.int .i64 (o : Int), .int .i64 (a : Int), .int .i64 (z : Int)], .int .i64 0]) (by simp [results, Try.results12, go_sem, s0, s1, s2]) rfl ⟨rfl, R.1.2⟩

/-! ### Check -/

set_option maxRecDepth 100000 in
set_option maxHeartbeats 1000000 in
theorem Check_one (P Q G H x f a z : Int) (h : aC P Q G H [a, z] [x] ≠ 0) (w : World) :
    Calls Try.prog 10 #[.agg #[.int .i64 P, .int .i64 Q, .int .i64 G, .int .i64 H], .int .i64 x, .agg #[.int .i64 f, .int .i64 a, .int .i64 z]] w fun e w' => e = .returned (.tuple #[.bool false, .int .i64 (aC P Q G H [a, z] [x])]) ∧ Below w.heap.size w w' := by
  have K := hid (Gs.new w P Q G H #[.int .i64 f, .int .i64 a, .int .i64 z])
  obtain ⟨c0, c1, c2, c3⟩ := K.out.1.cells
  obtain ⟨t0, t1, t2, _⟩ := box_three K.out.2
  have cA := fun w => Feign_bad P Q G H x a z h w
  generalize aC P Q G H [a, z] [x] = c at *
  have h1 : (c != 0) = true := by simpa using h
  go_enter Try.func10, Try.ntmps10
  go_wp2_with (go_at_call 12; refine (cA _).mono ?_; clear cA; rintro e w1 ⟨rfl, hB1⟩; have K1 := hid ((K.out.below hB1).alloc (.cells #[.int .i64 0, .int .i64 0, .int .i64 0] 25)); clear hB1)
  go_ret2
  exact ⟨rfl, K1.out.1.2⟩

set_option maxRecDepth 100000 in
set_option maxHeartbeats 1000000 in
theorem Check_two (P Q G H x a z : Nat) (f : Int) (hG : Grp P Q G H) (hx : Mem P Q x) (ha : a < Q) (hz : z < Q) (h : aC (P : Int) (Q : Int) (G : Int) (H : Int) [1] [f] ≠ 0) (w : World) :
    Calls Try.prog 10 #[.agg #[.int .i64 (P : Int), .int .i64 (Q : Int), .int .i64 (G : Int), .int .i64 (H : Int)], .int .i64 (x : Int), .agg #[.int .i64 f, .int .i64 (a : Int), .int .i64 (z : Int)]] w fun e w' => e = .returned (.tuple #[.bool false, .int .i64 (aC (P : Int) (Q : Int) (G : Int) (H : Int) [1] [f])]) ∧ Below w.heap.size w w' := by
  have K := hid (Gs.new w (P : Int) (Q : Int) (G : Int) (H : Int) #[.int .i64 f, .int .i64 (a : Int), .int .i64 (z : Int)])
  obtain ⟨c0, c1, c2, c3⟩ := K.out.1.cells
  obtain ⟨t0, t1, t2, _⟩ := box_three K.out.2
  have cA := fun w => Feign_yes P Q G H x a z hG hx ha hz w
  have cB := fun w => Shared_bad (P : Int) (Q : Int) (G : Int) (H : Int) 1 f h w
  generalize aC (P : Int) (Q : Int) (G : Int) (H : Int) [1] [f] = c at *
  have h1 : (c != 0) = true := by simpa using h
  clear hG hx ha hz
  generalize fst P Q G x a z = o at *
  go_enter Try.func10, Try.ntmps10
  go_wp2_with (first
    | (go_at_call 12; refine (cA _).mono ?_; clear cA; rintro e w1 ⟨rfl, hB1⟩; have K1 := hid ((K.out.below hB1).alloc (.cells #[.int .i64 (o : Int), .int .i64 (a : Int), .int .i64 (z : Int)] 25)); obtain ⟨d0, d1, d2, d3⟩ := K1.out.1.cells; obtain ⟨u0, u1, u2, _⟩ := box_three K1.out.2; clear hB1)
    | (go_at_call 20; refine (cB _).mono ?_; clear cB; rintro e w2 ⟨rfl, hB2⟩; have K2 := hid (K1.out.below hB2); clear hB2))
  go_ret2
  exact ⟨rfl, K2.out.1.2⟩

theorem ex_one {q : Nat} (h : 2 ≤ q) : ∀ x ∈ [(1 : Int)], ∃ n : Nat, x = (n : Int) ∧ n < q := fun x hx => ⟨1, by simpa using hx, by omega⟩

theorem Check_bad (P Q G H x f a z : Int) (h : aC P Q G H [a, z] [x, f] ≠ 0) (w : World) :
    Calls Try.prog 10 #[.agg #[.int .i64 P, .int .i64 Q, .int .i64 G, .int .i64 H], .int .i64 x, .agg #[.int .i64 f, .int .i64 a, .int .i64 z]] w fun e w' => e = .returned (.tuple #[.bool false, .int .i64 (aC P Q G H [a, z] [x, f])]) ∧ Below w.heap.size w w' := by
  by_cases h1 : aC P Q G H [a, z] [x] = 0
  · have h0 : aC P Q G H [a, z] [] = 0 := aC_sub' h1 (fun x hx => hx) (fun x hx => by cases hx)
    have e : aC P Q G H [a, z] [x, f] = aC P Q G H [a, z] [f] := aC_mem h1 (fun y => by simp)
    obtain ⟨p, q, g, k, rfl, rfl, rfl, rfl, hG, hx, hm⟩ := aC_zero h1
    obtain ⟨a', rfl, ha⟩ := hx a (by simp)
    obtain ⟨z', rfl, hz⟩ := hx z (by simp)
    obtain ⟨x', rfl, hx'⟩ := hm x (by simp)
    have e1 : aC (p : Int) (q : Int) (g : Int) (k : Int) [1] [] = 0 := aC_of hG (ex_one hG.q2) none0
    rw [e, ← aC_same [f] h0 e1] at h ⊢
    exact Check_two p q g k x' a' z' f hG hx' ha hz h w
  · have e : aC P Q G H [a, z] [x, f] = aC P Q G H [a, z] [x] := by
      by_cases h0 : aC P Q G H [a, z] [] = 0
      · exact aC_form h0 h0 h1 (fun y hy => by simp at hy; simp [hy])
      · rw [aC_bad [x, f] h0 (fun y hy => hy), aC_bad [x] h0 (fun y hy => hy)]
    rw [e]
    exact Check_one P Q G H x f a z h1 w

set_option maxRecDepth 100000 in
set_option maxHeartbeats 2000000 in
theorem Check_yes (P Q G H x f a z : Nat) (hG : Grp P Q G H) (hx : Mem P Q x) (hf : Mem P Q f) (ha : a < Q) (hz : z < Q) (b : Bool) (hb : b = true ↔ f = fst P Q G x a z) (w : World) :
    Calls Try.prog 10 #[.agg #[.int .i64 (P : Int), .int .i64 (Q : Int), .int .i64 (G : Int), .int .i64 (H : Int)], .int .i64 (x : Int), .agg #[.int .i64 (f : Int), .int .i64 (a : Int), .int .i64 (z : Int)]] w fun e w' => e = .returned (.tuple #[.bool b, .int .i64 0]) ∧ Below w.heap.size w w' := by
  have K := hid (Gs.new w (P : Int) (Q : Int) (G : Int) (H : Int) #[.int .i64 (f : Int), .int .i64 (a : Int), .int .i64 (z : Int)])
  obtain ⟨c0, c1, c2, c3⟩ := K.out.1.cells
  obtain ⟨t0, t1, t2, _⟩ := box_three K.out.2
  have cA := fun w => Feign_yes P Q G H x a z hG hx ha hz w
  have cB := fun w => Shared_yes P Q G H 1 f hG (by have := hG.q2; omega) hf w
  rw [show ((1 : Nat) : Int) = 1 from rfl] at cB
  have hbe : Hid (b = ((f : Int) == (fst P Q G x a z : Int))) := by
    show b = _
    cases b with
    | true => rw [i64_eq (hb.1 rfl)]
    | false => rw [i64_ne (fun e => by have := hb.2 e; cases this)]
  clear hG hx hf ha hz hb
  generalize fst P Q G x a z = o at *
  generalize f ^ 1 % P = f' at *
  have e3 : ((f : Int) == (o : Int)) = b := hbe.out.symm
  clear hbe
  cases b
  all_goals
    go_enter Try.func10, Try.ntmps10
    go_wp2_with (first
      | (go_at_call 12; refine (cA _).mono ?_; clear cA; rintro e w1 ⟨rfl, hB1⟩; have K1 := hid ((K.out.below hB1).alloc (.cells #[.int .i64 (o : Int), .int .i64 (a : Int), .int .i64 (z : Int)] 25)); have R1 := hid (BoxC.new w1 25 #[.int .i64 (o : Int), .int .i64 (a : Int), .int .i64 (z : Int)]); obtain ⟨d0, d1, d2, d3⟩ := K1.out.1.cells; obtain ⟨u0, u1, u2, _⟩ := box_three K1.out.2; clear hB1)
      | (go_at_call 20; refine (cB _).mono ?_; clear cB; rintro e w2 ⟨rfl, hB2⟩; have K2 := hid (K1.out.below hB2); have R2 := hid (R1.out.below hB2 R1.out.lt); obtain ⟨u0, u1, u2, _⟩ := box_three K2.out.2; obtain ⟨v0, v1, v2, _⟩ := box_three R2.out; clear hB2))
    go_ret2
    exact ⟨rfl, K2.out.1.2⟩

end Go.Proofs.Ytpflkihagebmlab.Calls169
