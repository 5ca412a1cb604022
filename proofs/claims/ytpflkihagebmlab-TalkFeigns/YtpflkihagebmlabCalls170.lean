/-
  Package talk: Sign, Verify.
-/
import Derived.Test.YtpflkihagebmlabCalls168
import Derived.Test.YtpflkihagebmlabCalls169
namespace Go.Proofs.Ytpflkihagebmlab.Calls170
set_option linter.unusedVariables false
open Go.ChangeShapes Go.WideShapes Go.ChangeAt Go.RowKit Go.Deep Go.Proofs.Ytpflkihagebmlab.Base Go.Proofs.Ytpflkihagebmlab.Base2 Go.Proofs.Ytpflkihagebmlab.Base8 Go.Proofs.Ytpflkihagebmlab.Num Go.Proofs.Ytpflkihagebmlab.Num13 Go.Proofs.Ytpflkihagebmlab.Num16 Go.Proofs.Ytpflkihagebmlab.Num17 Go.Proofs.Ytpflkihagebmlab.Num34 Go.Proofs.Ytpflkihagebmlab.Num55 Go.Proofs.Ytpflkihagebmlab.Num56 Go.Proofs.Ytpflkihagebmlab.Calls157 Go.Proofs.Ytpflkihagebmlab.Calls158 Go.Proofs.Ytpflkihagebmlab.Calls160 Go.Proofs.Ytpflkihagebmlab.Calls167 Go.Proofs.Ytpflkihagebmlab.Calls168 Go.Proofs.Ytpflkihagebmlab.Calls169
open Go.Proofs.Ytpflkihagebmlab.Calls126 (yb')

/-- What the text asks. -/
def askd (Q f x : Nat) (l : List Nat) : Nat := sum (said f x l) % Q

theorem askd_lt {Q f x : Nat} {l : List Nat} (h : 2 ≤ Q) : askd Q f x l < Q := Nat.mod_lt _ (by omega)

/-! ### Sign -/

set_option maxRecDepth 100000 in
set_option maxHeartbeats 1000000 in
theorem Sign_bad (P Q G H s k : Int) (o : Option Addr) (n c : Nat) (h : aC P Q G H [s, k] [] ≠ 0) (w : World) :
    Calls Try.prog 13 #[.agg #[.int .i64 P, .int .i64 Q, .int .i64 G, .int .i64 H], .int .i64 s, .int .i64 k, .slice o n c] w fun e w' => e = .returned (.tuple #[.agg #[.int .i64 0, .int .i64 0, .int .i64 0], .int .i64 (aC P Q G H [s, k] [])]) ∧ Below w.heap.size w w' := by
  have K := hid (Gs.new w P Q G H #[.int .i64 0, .int .i64 0, .int .i64 0])
  obtain ⟨c0, c1, c2, c3⟩ := K.out.1.cells
  have cC := tk2 P Q G H s k _ (w.heap.size + 1 + 1) (size2 w (.cells #[.int .i64 P, .int .i64 Q, .int .i64 G, .int .i64 H] 23) (.cells #[.int .i64 0, .int .i64 0, .int .i64 0] 25))
  generalize aC P Q G H [s, k] [] = d at *
  have h1 : (d != 0) = true := by simpa using h
  go_enter Try.func13, Try.ntmps13
  go_wp2_with (go_at_call 16; refine cC.mono ?_; clear cC; rintro e w1 ⟨rfl, hB1⟩; have K1 := hid (K.out.below hB1); obtain ⟨r0, r1, r2, f0, f1, f2⟩ := box_three K1.out.2; clear hB1)
  have R := K1.out.set (.int .i64 0) (.int .i64 0) (.int .i64 0)
  obtain ⟨s0, s1, s2, _⟩ := box_three R.2
  exact bodyPost_ret (v := .tuple #[.agg #[.int .i64 0, .int .i64 0, .int .i64 0], .int .i64 d]) (by simp [results, Try.results13, go_sem, s0, s1, s2]) rfl ⟨rfl, R.1.2⟩

set_option maxRecDepth 100000 in
set_option maxHeartbeats 2000000 in
theorem Sign_large (P Q G H s k : Nat) (o : Option Addr) (n c : Nat) (hG : Grp P Q G H) (hs : s < Q) (hk : k < Q) (hn : 4088 < n) (hn2 : n ≤ 9223372036854775807) (w : World) :
    Calls Try.prog 13 #[.agg #[.int .i64 (P : Int), .int .i64 (Q : Int), .int .i64 (G : Int), .int .i64 (H : Int)], .int .i64 (s : Int), .int .i64 (k : Int), .slice o n c] w fun e w' => e = .returned (.tuple #[.agg #[.int .i64 0, .int .i64 0, .int .i64 0], .int .i64 1]) ∧ Below w.heap.size w w' := by
  have K := hid (Gs.new w (P : Int) (Q : Int) (G : Int) (H : Int) #[.int .i64 0, .int .i64 0, .int .i64 0])
  obtain ⟨c0, c1, c2, c3⟩ := K.out.1.cells
  have cC := tk2 (P : Int) (Q : Int) (G : Int) (H : Int) (s : Int) (k : Int) _ (w.heap.size + 1 + 1) (size2 w (.cells #[.int .i64 (P : Int), .int .i64 (Q : Int), .int .i64 (G : Int), .int .i64 (H : Int)] 23) (.cells #[.int .i64 0, .int .i64 0, .int .i64 0] 25))
  rw [aC_of hG (ex2 hs hk) none0] at cC
  have cA := fun w => Public_yes P Q G H s hG hs w
  have cB := fun w => Public_yes P Q G H k hG hk w
  have cL := fun w => asks_large (P : Int) (Q : Int) (G : Int) (H : Int) (G ^ k % P : Nat) (G ^ s % P : Nat) o n c hn hn2 w
  clear hG hs hk
  generalize G ^ s % P = x at *
  generalize G ^ k % P = y at *
  go_enter Try.func13, Try.ntmps13
  go_wp2_with (first
    | (go_at_call 16; refine cC.mono ?_; clear cC; rintro e w1 ⟨rfl, hB1⟩; have K1 := hid (K.out.below hB1); obtain ⟨d0, d1, d2, d3⟩ := K1.out.1.cells; clear hB1)
    | (go_at_call 9; refine (cA _).mono ?_; clear cA; rintro e w2 ⟨rfl, hB2⟩; have K2 := hid (K1.out.below hB2); obtain ⟨e0, e1, e2, e3⟩ := K2.out.1.cells; clear hB2)
    | (go_at_call 9; refine (cB _).mono ?_; clear cB; rintro e w3 ⟨rfl, hB3⟩; have K3 := hid (K2.out.below hB3); obtain ⟨f0, f1, f2, f3⟩ := K3.out.1.cells; clear hB3)
    | (go_at_call 23; refine (cL _).mono ?_; clear cL; rintro e w4 ⟨rfl, hB4⟩; have K4 := hid (K3.out.below hB4); obtain ⟨g0, g1, g2, g3⟩ := K4.out.1.cells; obtain ⟨r0, r1, r2, q0, q1, q2⟩ := box_three K4.out.2; clear hB4))
  have R := K4.out.set (.int .i64 0) (.int .i64 0) (.int .i64 0)
  obtain ⟨s0, s1, s2, _⟩ := box_three R.2
  exact bodyPost_ret (v := .tuple #[.agg #[.int .i64 0, .int .i64 0, .int .i64 0], .int .i64 1]) (by simp [results, Try.results13, go_sem, s0, s1, s2]) rfl ⟨rfl, R.1.2⟩

set_option maxRecDepth 100000 in
set_option maxHeartbeats 2000000 in
theorem Sign_yes (P Q G H s k : Nat) (o : Option Addr) (c : Nat) (l : List Nat) (hG : Grp P Q G H) (hs : s < Q) (hk : k < Q) (hl : l.length ≤ 4088) (hby : Byt l) (w : World) (r : YRow w o l) :
    Calls Try.prog 13 #[.agg #[.int .i64 (P : Int), .int .i64 (Q : Int), .int .i64 (G : Int), .int .i64 (H : Int)], .int .i64 (s : Int), .int .i64 (k : Int), .slice o l.length c] w fun e w' => e = .returned (.tuple #[.agg #[.int .i64 (G ^ k % P : Nat), .int .i64 (askd Q (G ^ k % P) (G ^ s % P) l : Nat), .int .i64 ((k + askd Q (G ^ k % P) (G ^ s % P) l * s) % Q : Nat)], .int .i64 0]) ∧ Below w.heap.size w w' := by
  have pb := hG.big
  have ql := hG.qlt
  have q2 := hG.q2
  have yl : G ^ k % P < P := Nat.mod_lt _ (by omega)
  have xl : G ^ s % P < P := Nat.mod_lt _ (by omega)
  have K := hid (Gs.new w (P : Int) (Q : Int) (G : Int) (H : Int) #[.int .i64 0, .int .i64 0, .int .i64 0])
  obtain ⟨c0, c1, c2, c3⟩ := K.out.1.cells
  have cC := tk2 (P : Int) (Q : Int) (G : Int) (H : Int) (s : Int) (k : Int) _ (w.heap.size + 1 + 1) (size2 w (.cells #[.int .i64 (P : Int), .int .i64 (Q : Int), .int .i64 (G : Int), .int .i64 (H : Int)] 23) (.cells #[.int .i64 0, .int .i64 0, .int .i64 0] 25))
  rw [aC_of hG (ex2 hs hk) none0] at cC
  have cA := fun w => Public_yes P Q G H s hG hs w
  have cB := fun w => Public_yes P Q G H k hG hk w
  have cL := hid (fun w (r : YRow w o l) => asks_yes P Q G H (G ^ k % P) (G ^ s % P) (by omega) (by omega) (by omega) (by omega) o c l hl hby w r)
  have cS := fun w => Speak_yes P Q G H s k (askd Q (G ^ k % P) (G ^ s % P) l) hG hs hk (askd_lt q2) w
  have R0 := hid r
  have e0 : sum (said (G ^ k % P) (G ^ s % P) l) % Q = askd Q (G ^ k % P) (G ^ s % P) l := rfl
  rw [e0] at cL
  clear hG hs hk pb ql q2 yl xl e0 r hl
  generalize askd Q (G ^ k % P) (G ^ s % P) l = a at *
  generalize (k + a * s) % Q = z at *
  generalize G ^ s % P = x at *
  generalize G ^ k % P = y at *
  generalize l.length = n at *
  go_enter Try.func13, Try.ntmps13
  go_wp2_with (first
    | (go_at_call 16; refine cC.mono ?_; clear cC; rintro e w1 ⟨rfl, hB1⟩; have K1 := hid (K.out.below hB1); obtain ⟨d0, d1, d2, d3⟩ := K1.out.1.cells; clear hB1)
    | (go_at_call 9; refine (cA _).mono ?_; clear cA; rintro e w2 ⟨rfl, hB2⟩; have K2 := hid (K1.out.below hB2); obtain ⟨e0, e1, e2, e3⟩ := K2.out.1.cells; clear hB2)
    | (go_at_call 9; refine (cB _).mono ?_; clear cB; rintro e w3 ⟨rfl, hB3⟩; have K3 := hid (K2.out.below hB3); obtain ⟨f0, f1, f2, f3⟩ := K3.out.1.cells; clear hB3)
    | (go_at_call 23; refine (cL.out _ (yb' R0.out K3.out.1.2)).mono ?_; clear cL; rintro e w4 ⟨rfl, hB4⟩; have K4 := hid (K3.out.below hB4); obtain ⟨g0, g1, g2, g3⟩ := K4.out.1.cells; clear hB4)
    | (go_at_call 7; refine (cS _).mono ?_; clear cS; rintro e w5 ⟨rfl, hB5⟩; have K5 := hid (K4.out.below hB5); obtain ⟨r0, r1, r2, q0, q1, q2⟩ := box_three K5.out.2; clear hB5))
  have R := K5.out.set (.int .i64 (y : Int)) (.int .i64 (a : Int)) (.int .i64 (z : Int))
  obtain ⟨s0, s1, s2, _⟩ := box_three R.2
  exact bodyPost_ret (v := .tuple #[.agg #[.int .i64 (y : Int), .int .i64 (a : Int), .int .i64 (z : Int)], .int .i64 0]) (by simp [results, Try.results13, go_sem, s0, s1, s2]) rfl ⟨rfl, R.1.2⟩

/-! ### Verify -/

set_option maxRecDepth 100000 in
set_option maxHeartbeats 1000000 in
theorem Verify_bad (P Q G H x f a z : Int) (o : Option Addr) (n c : Nat) (h : aC P Q G H [a, z] [x, f] ≠ 0) (w : World) :
    Calls Try.prog 14 #[.agg #[.int .i64 P, .int .i64 Q, .int .i64 G, .int .i64 H], .int .i64 x, .slice o n c, .agg #[.int .i64 f, .int .i64 a, .int .i64 z]] w fun e w' => e = .returned (.tuple #[.bool false, .int .i64 (aC P Q G H [a, z] [x, f])]) ∧ Below w.heap.size w w' := by
  have K := hid (Gs.new w P Q G H #[.int .i64 f, .int .i64 a, .int .i64 z])
  obtain ⟨c0, c1, c2, c3⟩ := K.out.1.cells
  obtain ⟨t0, t1, t2, _⟩ := box_three K.out.2
  have cA := fun w => Check_bad P Q G H x f a z h w
  generalize aC P Q G H [a, z] [x, f] = d at *
  have h1 : (d != 0) = true := by simpa using h
  go_enter Try.func14, Try.ntmps14
  go_wp2_with (go_at_call 10; refine (cA _).mono ?_; clear cA; rintro e w1 ⟨rfl, hB1⟩; have K1 := hid (K.out.below hB1); clear hB1)
  go_ret2
  exact ⟨rfl, K1.out.1.2⟩

set_option maxRecDepth 100000 in
set_option maxHeartbeats 1000000 in
theorem Verify_large (P Q G H : Nat) (x f a z : Nat) (o : Option Addr) (n c : Nat) (hG : Grp P Q G H) (hx : Mem P Q x) (hf : Mem P Q f) (ha : a < Q) (hz : z < Q) (hn : 4088 < n) (hn2 : n ≤ 9223372036854775807) (w : World) :
    Calls Try.prog 14 #[.agg #[.int .i64 (P : Int), .int .i64 (Q : Int), .int .i64 (G : Int), .int .i64 (H : Int)], .int .i64 (x : Int), .slice o n c, .agg #[.int .i64 (f : Int), .int .i64 (a : Int), .int .i64 (z : Int)]] w fun e w' => e = .returned (.tuple #[.bool false, .int .i64 1]) ∧ Below w.heap.size w w' := by
  have K := hid (Gs.new w (P : Int) (Q : Int) (G : Int) (H : Int) #[.int .i64 (f : Int), .int .i64 (a : Int), .int .i64 (z : Int)])
  obtain ⟨c0, c1, c2, c3⟩ := K.out.1.cells
  obtain ⟨t0, t1, t2, _⟩ := box_three K.out.2
  have cA := fun w => Check_yes P Q G H x f a z hG hx hf ha hz (decide (f = fst P Q G x a z)) (by rw [decide_eq_true_iff]) w
  have cL := fun w => asks_large (P : Int) (Q : Int) (G : Int) (H : Int) (f : Int) (x : Int) o n c hn hn2 w
  generalize decide (f = fst P Q G x a z) = b at *
  clear hG hx hf ha hz
  go_enter Try.func14, Try.ntmps14
  go_wp2_with (first
    | (go_at_call 10; refine (cA _).mono ?_; clear cA; rintro e w1 ⟨rfl, hB1⟩; have K1 := hid (K.out.below hB1); obtain ⟨d0, d1, d2, d3⟩ := K1.out.1.cells; obtain ⟨u0, u1, u2, _⟩ := box_three K1.out.2; clear hB1)
    | (go_at_call 23; refine (cL _).mono ?_; clear cL; rintro e w2 ⟨rfl, hB2⟩; have K2 := hid (K1.out.below hB2); clear hB2))
  go_ret2
  exact ⟨rfl, K2.out.1.2⟩

set_option maxRecDepth 100000 in
set_option maxHeartbeats 2000000 in
theorem Verify_yes (P Q G H : Nat) (x f a z : Nat) (o : Option Addr) (c : Nat) (l : List Nat) (hG : Grp P Q G H) (hx : Mem P Q x) (hf : Mem P Q f) (ha : a < Q) (hz : z < Q) (hl : l.length ≤ 4088) (hby : Byt l) (b v : Bool) (hb : b = true ↔ f = fst P Q G x a z) (hv : v = true ↔ a = askd Q f x l) (w : World) (r : YRow w o l) :
    Calls Try.prog 14 #[.agg #[.int .i64 (P : Int), .int .i64 (Q : Int), .int .i64 (G : Int), .int .i64 (H : Int)], .int .i64 (x : Int), .slice o l.length c, .agg #[.int .i64 (f : Int), .int .i64 (a : Int), .int .i64 (z : Int)]] w fun e w' => e = .returned (.tuple #[.bool (b && v), .int .i64 0]) ∧ Below w.heap.size w w' := by
  have pb := hG.big
  have ql := hG.qlt
  have q2 := hG.q2
  have xl := hx.2.1
  have fl := hf.2.1
  have K := hid (Gs.new w (P : Int) (Q : Int) (G : Int) (H : Int) #[.int .i64 (f : Int), .int .i64 (a : Int), .int .i64 (z : Int)])
  obtain ⟨c0, c1, c2, c3⟩ := K.out.1.cells
  obtain ⟨t0, t1, t2, _⟩ := box_three K.out.2
  have cA := fun w => Check_yes P Q G H x f a z hG hx hf ha hz b hb w
  have cL := hid (fun w (r : YRow w o l) => asks_yes P Q G H f x (by omega) (by omega) (by omega) (by omega) o c l hl hby w r)
  have R0 := hid r
  have e0 : sum (said f x l) % Q = askd Q f x l := rfl
  rw [e0] at cL
  have e3 : ((a : Int) == (askd Q f x l : Int)) = v := by
    cases v with
    | true => exact i64_eq (hv.1 rfl)
    | false => exact i64_ne (fun e => by have := hv.2 e; cases this)
  clear hG hx hf ha hz pb ql q2 xl fl e0 r hl hb hv
  generalize askd Q f x l = d at *
  generalize l.length = n at *
  cases b
  · clear e3
    go_enter Try.func14, Try.ntmps14
    go_wp2_with (first
      | (go_at_call 10; refine (cA _).mono ?_; clear cA; rintro e w1 ⟨rfl, hB1⟩; have K1 := hid (K.out.below hB1); obtain ⟨d0, d1, d2, d3⟩ := K1.out.1.cells; obtain ⟨u0, u1, u2, _⟩ := box_three K1.out.2; clear hB1)
      | (go_at_call 23; refine (cL.out _ (yb' R0.out K1.out.1.2)).mono ?_; clear cL; rintro e w2 ⟨rfl, hB2⟩; have K2 := hid (K1.out.below hB2); obtain ⟨u0, u1, u2, _⟩ := box_three K2.out.2; clear hB2))
    go_ret2
    exact ⟨rfl, K2.out.1.2⟩
  · cases v
    all_goals
      go_enter Try.func14, Try.ntmps14
      go_wp2_with (first
        | (go_at_call 10; refine (cA _).mono ?_; clear cA; rintro e w1 ⟨rfl, hB1⟩; have K1 := hid (K.out.below hB1); obtain ⟨d0, d1, d2, d3⟩ := K1.out.1.cells; obtain ⟨u0, u1, u2, _⟩ := box_three K1.out.2; clear hB1)
        | (go_at_call 23; refine (cL.out _ (yb' R0.out K1.out.1.2)).mono ?_; clear cL; rintro e w2 ⟨rfl, hB2⟩; have K2 := hid (K1.out.below hB2); obtain ⟨u0, u1, u2, _⟩ := box_three K2.out.2; clear hB2))
      go_ret2
      exact ⟨by first | rfl | (rw [e3]; rfl), K2.out.1.2⟩

end Go.Proofs.Ytpflkihagebmlab.Calls170
