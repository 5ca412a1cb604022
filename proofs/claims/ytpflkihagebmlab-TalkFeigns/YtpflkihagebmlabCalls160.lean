/-
  Package group: Public, Shared, Lock, Open, Mul.
-/
import Derived.Test.YtpflkihagebmlabCalls158
namespace Go.Proofs.Ytpflkihagebmlab.Calls160
set_option linter.unusedVariables false
open Go.ChangeShapes Go.WideShapes Go.ChangeAt Go.RowKit Go.Deep Go.Proofs.Ytpflkihagebmlab.Base Go.Proofs.Ytpflkihagebmlab.Base2 Go.Proofs.Ytpflkihagebmlab.Num Go.Proofs.Ytpflkihagebmlab.Num13 Go.Proofs.Ytpflkihagebmlab.Num16 Go.Proofs.Ytpflkihagebmlab.Num17 Go.Proofs.Ytpflkihagebmlab.Num34 Go.Proofs.Ytpflkihagebmlab.Base4 Go.Proofs.Ytpflkihagebmlab.Num56 Go.Proofs.Ytpflkihagebmlab.Calls157 Go.Proofs.Ytpflkihagebmlab.Calls158

theorem irow_one' (W : World) (o : Obj) (x : Int) : IRow ((W.alloc o).alloc (.cells #[.int .i64 x] 2)) (some ⟨W.heap.size + 1, 0, none⟩) [x] := by
  have h := irow_one (W.alloc o) x
  rwa [World.size_alloc] at h

theorem irow_two' (W : World) (o : Obj) (x y : Int) : IRow ((W.alloc o).alloc (.cells #[.int .i64 x, .int .i64 y] 2)) (some ⟨W.heap.size + 1, 0, none⟩) [x, y] := by
  have h := irow_two (W.alloc o) x y
  rwa [World.size_alloc] at h

/-! ### check over rows that are written out -/

theorem ck10 (P Q G H a : Int) (wr : World) (n : Nat) (hn : n = wr.heap.size) :
    Calls Try.prog 18 #[.agg #[.int .i64 P, .int .i64 Q, .int .i64 G, .int .i64 H], .slice (some ⟨n, 0, none⟩) 1 1, .slice none 0 0] (wr.alloc (.cells #[.int .i64 a] 2)) fun e w' => e = .returned (.int .i64 (aC P Q G H [a] [])) ∧ Below wr.heap.size wr w' := by
  subst hn
  exact (check_any P Q G H _ none 1 0 [a] [] (by simp) (by simp) _ (irow_one wr a) (irow_nil _ _)).mono fun e w' h => ⟨h.1, below_trans (alloc_b wr _) h.2⟩

theorem ck11 (P Q G H a x : Int) (wr : World) (n : Nat) (hn : n = wr.heap.size) :
    Calls Try.prog 18 #[.agg #[.int .i64 P, .int .i64 Q, .int .i64 G, .int .i64 H], .slice (some ⟨n, 0, none⟩) 1 1, .slice (some ⟨n + 1, 0, none⟩) 1 1] ((wr.alloc (.cells #[.int .i64 a] 2)).alloc (.cells #[.int .i64 x] 2)) fun e w' => e = .returned (.int .i64 (aC P Q G H [a] [x])) ∧ Below wr.heap.size wr w' := by
  subst hn
  exact (check_any P Q G H _ _ 1 1 [a] [x] (by simp) (by simp) _ (ib (irow_one wr a) (alloc_b _ _)) (irow_one' wr _ x)).mono fun e w' h => ⟨h.1, below_trans (alloc_b2 wr _ _) h.2⟩

theorem ck12 (P Q G H a x y : Int) (wr : World) (n : Nat) (hn : n = wr.heap.size) :
    Calls Try.prog 18 #[.agg #[.int .i64 P, .int .i64 Q, .int .i64 G, .int .i64 H], .slice (some ⟨n, 0, none⟩) 1 1, .slice (some ⟨n + 1, 0, none⟩) 2 2] ((wr.alloc (.cells #[.int .i64 a] 2)).alloc (.cells #[.int .i64 x, .int .i64 y] 2)) fun e w' => e = .returned (.int .i64 (aC P Q G H [a] [x, y])) ∧ Below wr.heap.size wr w' := by
  subst hn
  exact (check_any P Q G H _ _ 1 2 [a] [x, y] (by simp) (by simp) _ (ib (irow_one wr a) (alloc_b _ _)) (irow_two' wr _ x y)).mono fun e w' h => ⟨h.1, below_trans (alloc_b2 wr _ _) h.2⟩

theorem ck04 (P Q G H x y z v : Int) (wr : World) (n : Nat) (hn : n = wr.heap.size) :
    Calls Try.prog 18 #[.agg #[.int .i64 P, .int .i64 Q, .int .i64 G, .int .i64 H], .slice none 0 0, .slice (some ⟨n, 0, none⟩) 4 4] (wr.alloc (.cells #[.int .i64 x, .int .i64 y, .int .i64 z, .int .i64 v] 2)) fun e w' => e = .returned (.int .i64 (aC P Q G H [] [x, y, z, v])) ∧ Below wr.heap.size wr w' := by
  subst hn
  exact (check_any P Q G H none _ 0 4 [] [x, y, z, v] (by simp) (by simp) _ (irow_nil _ _) (irow_four wr x y z v)).mono fun e w' h => ⟨h.1, below_trans (alloc_b wr _) h.2⟩

/-! ### nothing is wrong -/

theorem aC_zero {P Q G H : Int} {le lm : List Int} (h : aC P Q G H le lm = 0) : ∃ p q g k : Nat, P = (p : Int) ∧ Q = (q : Int) ∧ G = (g : Int) ∧ H = (k : Int) ∧ Grp p q g k ∧ (∀ x ∈ le, ∃ n : Nat, x = (n : Int) ∧ n < q) ∧ ∀ x ∈ lm, ∃ n : Nat, x = (n : Int) ∧ Mem p q n := by
  unfold aC at h
  by_cases h0 : gC P Q G H = 0
  · rw [if_pos h0] at h
    obtain ⟨p, q, g, k, rfl, rfl, rfl, rfl, hG⟩ := gC_zero h0
    by_cases h1 : le.any (exB (q : Int)) = true
    · rw [if_pos h1] at h; omega
    · rw [if_neg h1] at h
      by_cases h2 : lm.any (noM (p : Int) (q : Int)) = true
      · rw [if_pos h2] at h; omega
      · refine ⟨p, q, g, k, rfl, rfl, rfl, rfl, hG, fun x hx => ?_, fun x hx => ?_⟩
        · have : exB (q : Int) x = false := by
            cases e : exB (q : Int) x with
            | false => rfl
            | true => exact absurd (List.any_eq_true.2 ⟨x, hx, e⟩) h1
          have := (exB_iff _ _).1 this
          exact ⟨x.toNat, by omega, by omega⟩
        · have : noM (p : Int) (q : Int) x = false := by
            cases e : noM (p : Int) (q : Int) x with
            | false => rfl
            | true => exact absurd (List.any_eq_true.2 ⟨x, hx, e⟩) h2
          exact (noM_iff p q x).1 this
  · rw [if_neg h0] at h; exact absurd h h0

theorem aC_of {p q g k : Nat} (hG : Grp p q g k) {le lm : List Int} (h1 : ∀ x ∈ le, ∃ n : Nat, x = (n : Int) ∧ n < q) (h2 : ∀ x ∈ lm, ∃ n : Nat, x = (n : Int) ∧ Mem p q n) : aC (p : Int) (q : Int) (g : Int) (k : Int) le lm = 0 := by
  unfold aC
  rw [if_pos hG.code, if_neg, if_neg]
  · intro h
    obtain ⟨x, hx, e⟩ := List.any_eq_true.1 h
    rw [(noM_iff p q x).2 (h2 x hx)] at e; cases e
  · intro h
    obtain ⟨x, hx, e⟩ := List.any_eq_true.1 h
    obtain ⟨n, rfl, hn⟩ := h1 x hx
    rw [(exB_iff (q : Int) (n : Int)).2 ⟨by omega, by omega⟩] at e; cases e

theorem ex1 {q a : Nat} (h : a < q) : ∀ x ∈ [(a : Int)], ∃ n : Nat, x = (n : Int) ∧ n < q := fun x hx => ⟨a, by simpa using hx, h⟩

theorem me1 {p q a : Nat} (h : Mem p q a) : ∀ x ∈ [(a : Int)], ∃ n : Nat, x = (n : Int) ∧ Mem p q n := fun x hx => ⟨a, by simpa using hx, h⟩

theorem me2 {p q a b : Nat} (h : Mem p q a) (h' : Mem p q b) : ∀ x ∈ [(a : Int), (b : Int)], ∃ n : Nat, x = (n : Int) ∧ Mem p q n := fun x hx => by
  simp at hx
  rcases hx with rfl | rfl
  · exact ⟨a, rfl, h⟩
  · exact ⟨b, rfl, h'⟩

theorem me4 {p q a b c d : Nat} (ha : Mem p q a) (hb : Mem p q b) (hc : Mem p q c) (hd : Mem p q d) : ∀ x ∈ [(a : Int), (b : Int), (c : Int), (d : Int)], ∃ n : Nat, x = (n : Int) ∧ Mem p q n := fun x hx => by
  simp at hx
  rcases hx with rfl | rfl | rfl | rfl
  · exact ⟨a, rfl, ha⟩
  · exact ⟨b, rfl, hb⟩
  · exact ⟨c, rfl, hc⟩
  · exact ⟨d, rfl, hd⟩

theorem none0 {Pp : Int → Prop} : ∀ x ∈ ([] : List Int), Pp x := fun x hx => by cases hx

/-! ### Public, Shared -/

set_option maxRecDepth 100000 in
theorem Public_bad (P Q G H a : Int) (h : aC P Q G H [a] [] ≠ 0) (w : World) :
    Calls Try.prog 9 #[.agg #[.int .i64 P, .int .i64 Q, .int .i64 G, .int .i64 H], .int .i64 a] w fun e w' => e = .returned (.tuple #[.int .i64 0, .int .i64 (aC P Q G H [a] [])]) ∧ Below w.heap.size w w' := by
  have K := hid (Gb.new w P Q G H)
  obtain ⟨c0, c1, c2, c3⟩ := K.out.cells
  have cC := ck10 P Q G H a _ (w.heap.size + 1) (World.size_alloc w (.cells #[.int .i64 P, .int .i64 Q, .int .i64 G, .int .i64 H] 23)).symm
  generalize aC P Q G H [a] [] = c at *
  have h1 : (c != 0) = true := by simpa using h
  go_enter Try.func9, Try.ntmps9
  go_wp2_with (go_at_call 18; refine cC.mono ?_; clear cC; rintro e w1 ⟨rfl, hB1⟩; have K1 := hid (K.out.below hB1); clear hB1)
  go_ret2
  exact ⟨rfl, K1.out.2⟩

set_option maxRecDepth 100000 in
theorem Public_yes (P Q G H a : Nat) (hG : Grp P Q G H) (ha : a < Q) (w : World) :
    Calls Try.prog 9 #[.agg #[.int .i64 (P : Int), .int .i64 (Q : Int), .int .i64 (G : Int), .int .i64 (H : Int)], .int .i64 (a : Int)] w fun e w' => e = .returned (.tuple #[.int .i64 (G ^ a % P : Nat), .int .i64 0]) ∧ Below w.heap.size w w' := by
  have p3 := hG.p3
  have pb := hG.big
  have ql := hG.qlt
  have gl := hG.g.lt
  have K := hid (Gb.new w (P : Int) (Q : Int) (G : Int) (H : Int))
  obtain ⟨c0, c1, c2, c3⟩ := K.out.cells
  have cC := ck10 (P : Int) (Q : Int) (G : Int) (H : Int) (a : Int) _ (w.heap.size + 1) (World.size_alloc w (.cells #[.int .i64 (P : Int), .int .i64 (Q : Int), .int .i64 (G : Int), .int .i64 (H : Int)] 23)).symm
  rw [aC_of hG (ex1 ha) none0] at cC
  have cR := fun w => raise_any P (Q : Int) (G : Int) (H : Int) G a (by omega) (by omega) (by omega) pb w
  clear hG ha p3 pb ql gl
  generalize G ^ a % P = y at *
  go_enter Try.func9, Try.ntmps9
  go_wp2_with (first
    | (go_at_call 18; refine cC.mono ?_; clear cC; rintro e w1 ⟨rfl, hB1⟩; have K1 := hid (K.out.below hB1); obtain ⟨d0, d1, d2, d3⟩ := K1.out.cells; clear hB1)
    | (go_at_call 19; refine (cR _).mono ?_; clear cR; rintro e w2 ⟨rfl, hB2⟩; have K2 := hid (K1.out.below hB2); clear hB2))
  go_ret2
  exact ⟨rfl, K2.out.2⟩

set_option maxRecDepth 100000 in
theorem Shared_bad (P Q G H a x : Int) (h : aC P Q G H [a] [x] ≠ 0) (w : World) :
    Calls Try.prog 20 #[.agg #[.int .i64 P, .int .i64 Q, .int .i64 G, .int .i64 H], .int .i64 a, .int .i64 x] w fun e w' => e = .returned (.tuple #[.int .i64 0, .int .i64 (aC P Q G H [a] [x])]) ∧ Below w.heap.size w w' := by
  have K := hid (Gb.new w P Q G H)
  obtain ⟨c0, c1, c2, c3⟩ := K.out.cells
  have cC := ck11 P Q G H a x _ (w.heap.size + 1) (World.size_alloc w (.cells #[.int .i64 P, .int .i64 Q, .int .i64 G, .int .i64 H] 23)).symm
  generalize aC P Q G H [a] [x] = c at *
  have h1 : (c != 0) = true := by simpa using h
  go_enter Try.func20, Try.ntmps20
  go_wp2_with (go_at_call 18; refine cC.mono ?_; clear cC; rintro e w1 ⟨rfl, hB1⟩; have K1 := hid (K.out.below hB1); clear hB1)
  go_ret2
  exact ⟨rfl, K1.out.2⟩

set_option maxRecDepth 100000 in
theorem Shared_yes (P Q G H a x : Nat) (hG : Grp P Q G H) (ha : a < Q) (hx : Mem P Q x) (w : World) :
    Calls Try.prog 20 #[.agg #[.int .i64 (P : Int), .int .i64 (Q : Int), .int .i64 (G : Int), .int .i64 (H : Int)], .int .i64 (a : Int), .int .i64 (x : Int)] w fun e w' => e = .returned (.tuple #[.int .i64 (x ^ a % P : Nat), .int .i64 0]) ∧ Below w.heap.size w w' := by
  have p3 := hG.p3
  have pb := hG.big
  have ql := hG.qlt
  have xl := hx.2.1
  have K := hid (Gb.new w (P : Int) (Q : Int) (G : Int) (H : Int))
  obtain ⟨c0, c1, c2, c3⟩ := K.out.cells
  have cC := ck11 (P : Int) (Q : Int) (G : Int) (H : Int) (a : Int) (x : Int) _ (w.heap.size + 1) (World.size_alloc w (.cells #[.int .i64 (P : Int), .int .i64 (Q : Int), .int .i64 (G : Int), .int .i64 (H : Int)] 23)).symm
  rw [aC_of hG (ex1 ha) (me1 hx)] at cC
  have cR := fun w => raise_any P (Q : Int) (G : Int) (H : Int) x a (by omega) (by omega) (by omega) pb w
  clear hG ha p3 pb ql xl hx
  generalize x ^ a % P = y at *
  go_enter Try.func20, Try.ntmps20
  go_wp2_with (first
    | (go_at_call 18; refine cC.mono ?_; clear cC; rintro e w1 ⟨rfl, hB1⟩; have K1 := hid (K.out.below hB1); obtain ⟨d0, d1, d2, d3⟩ := K1.out.cells; clear hB1)
    | (go_at_call 19; refine (cR _).mono ?_; clear cR; rintro e w2 ⟨rfl, hB2⟩; have K2 := hid (K1.out.below hB2); clear hB2))
  go_ret2
  exact ⟨rfl, K2.out.2⟩

/-! ### a result that is a pair, behind the group's box -/

def Gl (w wr : World) (P Q G H : Int) (x : Array Value) : Prop := Gb w wr P Q G H ∧ BoxC wr (w.heap.size + 1) 53 x

theorem Gl.new (w : World) (P Q G H : Int) (x : Array Value) : Gl w ((w.alloc (.cells #[.int .i64 P, .int .i64 Q, .int .i64 G, .int .i64 H] 23)).alloc (.cells x 53)) P Q G H x := by
  have h := BoxC.new (w.alloc (.cells #[.int .i64 P, .int .i64 Q, .int .i64 G, .int .i64 H] 23)) 53 x
  rw [World.size_alloc] at h
  exact ⟨(Gb.new w P Q G H).alloc _, h⟩

theorem Gl.below {w wr w' : World} {P Q G H : Int} {x : Array Value} (h : Gl w wr P Q G H x) (hb : Below wr.heap.size wr w') : Gl w w' P Q G H x := ⟨h.1.below hb, (hb.block _ h.2.lt).trans h.2⟩

theorem Gl.drew {w wr : World} {P Q G H : Int} {x : Array Value} (h : Gl w wr P Q G H x) : Gl w wr.drew P Q G H x := ⟨h.1.drew, h.2⟩

theorem Gb.setCell {w wr : World} {P Q G H : Int} (h : Gb w wr P Q G H) {B : Nat} (hB : w.heap.size < B) (i : Nat) (u : Value) : Gb w (wr.setCell ⟨B, i, none⟩ u) P Q G H := ⟨h.1.other (by omega) i u, h.2.setCell (by simp; omega) u⟩

theorem Gl.set {w wr : World} {P Q G H : Int} {a b : Value} (h : Gl w wr P Q G H #[a, b]) (a' b' : Value) : Gl w ((wr.setCell ⟨w.heap.size + 1, 0, none⟩ a').setCell ⟨w.heap.size + 1, 1, none⟩ b') P Q G H #[a', b'] :=
  ⟨Gb.setCell (Gb.setCell h.1 (by omega) _ _) (by omega) _ _, h.2.set2 a' b'⟩

theorem Gl.pair {w wr : World} {P Q G H : Int} {a b : Value} (h : Gl w wr P Q G H #[a, b]) : wr.cell? ⟨w.heap.size + 1, 0, none⟩ = some a ∧ wr.cell? ⟨w.heap.size + 1, 1, none⟩ = some b ∧ wr.frozen? ⟨w.heap.size + 1, 0, none⟩ = false ∧ wr.frozen? ⟨w.heap.size + 1, 1, none⟩ = false := ⟨by rw [h.2.cell 0]; rfl, by rw [h.2.cell 1]; rfl, h.2.frozen 0, h.2.frozen 1⟩

theorem size2 (w : World) (o o' : Obj) : w.heap.size + 1 + 1 = ((w.alloc o).alloc o').heap.size := by rw [World.size_alloc, World.size_alloc]

/-! ### Open: a pair's box behind the group's -/

theorem quot_pow {P Q a c : Nat} (hc : Mem P Q c) (ha : a < Q) : (c ^ (Q - a) % P) * (c ^ a % P) % P = 1 := by
  rw [← Nat.mul_mod, ← Nat.pow_add, Nat.sub_add_cancel (by omega)]
  exact hc.2.2

set_option maxRecDepth 100000 in
set_option maxHeartbeats 1000000 in
theorem Open_bad (P Q G H a x y : Int) (h : aC P Q G H [a] [x, y] ≠ 0) (w : World) :
    Calls Try.prog 22 #[.agg #[.int .i64 P, .int .i64 Q, .int .i64 G, .int .i64 H], .int .i64 a, .agg #[.int .i64 x, .int .i64 y]] w fun e w' => e = .returned (.tuple #[.int .i64 0, .int .i64 (aC P Q G H [a] [x, y])]) ∧ Below w.heap.size w w' := by
  have K := hid (Gl.new w P Q G H #[.int .i64 x, .int .i64 y])
  obtain ⟨c0, c1, c2, c3⟩ := K.out.1.cells
  obtain ⟨r0, r1, _, _⟩ := K.out.pair
  have cC := ck12 P Q G H a x y _ (w.heap.size + 1 + 1) (size2 w (.cells #[.int .i64 P, .int .i64 Q, .int .i64 G, .int .i64 H] 23) (.cells #[.int .i64 x, .int .i64 y] 53))
  generalize aC P Q G H [a] [x, y] = c at *
  have h1 : (c != 0) = true := by simpa using h
  go_enter Try.func22, Try.ntmps22
  go_wp2_with (go_at_call 18; refine cC.mono ?_; clear cC; rintro e w1 ⟨rfl, hB1⟩; have K1 := hid (K.out.below hB1); clear hB1)
  go_ret2
  exact ⟨rfl, K1.out.1.2⟩

set_option maxRecDepth 100000 in
set_option maxHeartbeats 2000000 in
theorem Open_yes (P Q G H a x y : Nat) (hG : Grp P Q G H) (ha : a < Q) (hx : Mem P Q x) (hy : Mem P Q y) (w : World) :
    Calls Try.prog 22 #[.agg #[.int .i64 (P : Int), .int .i64 (Q : Int), .int .i64 (G : Int), .int .i64 (H : Int)], .int .i64 (a : Int), .agg #[.int .i64 (x : Int), .int .i64 (y : Int)]] w fun e w' => e = .returned (.tuple #[.int .i64 (y * (x ^ (Q - a) % P) % P : Nat), .int .i64 0]) ∧ Below w.heap.size w w' := by
  have p3 := hG.p3
  have pb := hG.big
  have ql := hG.qlt
  have xl := hx.2.1
  have yl := hy.2.1
  have K := hid (Gl.new w (P : Int) (Q : Int) (G : Int) (H : Int) #[.int .i64 (x : Int), .int .i64 (y : Int)])
  obtain ⟨c0, c1, c2, c3⟩ := K.out.1.cells
  obtain ⟨r0, r1, _, _⟩ := K.out.pair
  have cC := ck12 (P : Int) (Q : Int) (G : Int) (H : Int) (a : Int) (x : Int) (y : Int) _ (w.heap.size + 1 + 1) (size2 w (.cells #[.int .i64 (P : Int), .int .i64 (Q : Int), .int .i64 (G : Int), .int .i64 (H : Int)] 23) (.cells #[.int .i64 (x : Int), .int .i64 (y : Int)] 53))
  rw [aC_of hG (ex1 ha) (me2 hx hy)] at cC
  have hs : IntKind.i64.wrap ((Q : Int) - (a : Int)) = ((Q - a : Nat) : Int) := by
    rw [wrap_in _ (by omega) (by omega)]; omega
  have cR := fun w => raise_any P (Q : Int) (G : Int) (H : Int) x (Q - a) (by omega) (by omega) (by omega) pb w
  have zl : x ^ (Q - a) % P < P := Nat.mod_lt _ (by omega)
  have cT := fun w => times_any P (Q : Int) (G : Int) (H : Int) y (x ^ (Q - a) % P) pb yl zl w
  clear hG ha p3 pb ql xl yl hx hy zl
  generalize x ^ (Q - a) % P = z at *
  generalize y * z % P = b at *
  generalize Q - a = d at *
  go_enter Try.func22, Try.ntmps22
  go_wp2_with (go_at_call 18; refine cC.mono ?_; clear cC; rintro e w1 ⟨rfl, hB1⟩; have K1 := hid (K.out.below hB1); obtain ⟨s0, s1, _, _⟩ := K1.out.pair; obtain ⟨d0, d1, d2, d3⟩ := K1.out.1.cells; clear hB1)
  go_region_held3 (fun w' => w'.cell? ⟨w.heap.size, 0, none⟩ = some (.int .i64 (P : Int)) ∧ w'.cell? ⟨w.heap.size, 1, none⟩ = some (.int .i64 (Q : Int)) ∧ w'.cell? ⟨w.heap.size, 2, none⟩ = some (.int .i64 (G : Int)) ∧ w'.cell? ⟨w.heap.size, 3, none⟩ = some (.int .i64 (H : Int)) ∧ w'.cell? ⟨w.heap.size + 1, 0, none⟩ = some (.int .i64 (x : Int)) ∧ w'.cell? ⟨w.heap.size + 1, 1, none⟩ = some (.int .i64 (y : Int))) (first | exact ⟨d0, d1, d2, d3, s0, s1⟩)
    (first
      | (go_at_call 19; refine (cR _).mono ?_; rintro e w2 ⟨rfl, hB2⟩; have K1 := hid (show Gl w w2 _ _ _ _ _ by first | exact K1.out.below hB2 | exact K1.out.drew.below hB2); obtain ⟨s0, s1, _, _⟩ := K1.out.pair; obtain ⟨d0, d1, d2, d3⟩ := K1.out.1.cells; clear hB2)
      | (go_at_call 35; refine (cT _).mono ?_; rintro e w2 ⟨rfl, hB2⟩; have K1 := hid (show Gl w w2 _ _ _ _ _ by first | exact K1.out.below hB2 | exact K1.out.drew.below hB2); obtain ⟨s0, s1, _, _⟩ := K1.out.pair; obtain ⟨d0, d1, d2, d3⟩ := K1.out.1.cells; clear hB2))
  go_wp2
  go_ret2
  exact ⟨rfl, K1.out.1.2⟩

/-! ### Mul: two pairs' boxes and a result that is a pair -/

def Gm (w wr : World) (P Q G H : Int) (x y z : Array Value) : Prop := Gl w wr P Q G H x ∧ BoxC wr (w.heap.size + 1 + 1) 53 y ∧ BoxC wr (w.heap.size + 1 + 1 + 1) 53 z

theorem Gl.alloc {w wr : World} {P Q G H : Int} {x : Array Value} (h : Gl w wr P Q G H x) (o : Obj) : Gl w (wr.alloc o) P Q G H x := ⟨h.1.alloc o, h.2.alloc o⟩

theorem Gm.new (w : World) (P Q G H : Int) (x y z : Array Value) : Gm w ((((w.alloc (.cells #[.int .i64 P, .int .i64 Q, .int .i64 G, .int .i64 H] 23)).alloc (.cells x 53)).alloc (.cells y 53)).alloc (.cells z 53)) P Q G H x y z := by
  have h := BoxC.new ((w.alloc (.cells #[.int .i64 P, .int .i64 Q, .int .i64 G, .int .i64 H] 23)).alloc (.cells x 53)) 53 y
  have h2 := BoxC.new (((w.alloc (.cells #[.int .i64 P, .int .i64 Q, .int .i64 G, .int .i64 H] 23)).alloc (.cells x 53)).alloc (.cells y 53)) 53 z
  simp only [World.size_alloc] at h h2
  exact ⟨((Gl.new w P Q G H x).alloc _).alloc _, h.alloc _, h2⟩

theorem Gm.below {w wr w' : World} {P Q G H : Int} {x y z : Array Value} (h : Gm w wr P Q G H x y z) (hb : Below wr.heap.size wr w') : Gm w w' P Q G H x y z := ⟨h.1.below hb, (hb.block _ h.2.1.lt).trans h.2.1, (hb.block _ h.2.2.lt).trans h.2.2⟩

theorem Gm.drew {w wr : World} {P Q G H : Int} {x y z : Array Value} (h : Gm w wr P Q G H x y z) : Gm w wr.drew P Q G H x y z := ⟨h.1.drew, h.2.1, h.2.2⟩

theorem Gl.setCell {w wr : World} {P Q G H : Int} {x : Array Value} (h : Gl w wr P Q G H x) {B : Nat} (hB : w.heap.size + 1 < B) (i : Nat) (u : Value) : Gl w (wr.setCell ⟨B, i, none⟩ u) P Q G H x := ⟨Gb.setCell h.1 (by omega) i u, h.2.other (by omega) i u⟩

theorem Gm.set {w wr : World} {P Q G H : Int} {x y : Array Value} {a b : Value} (h : Gm w wr P Q G H x y #[a, b]) (a' b' : Value) : Gm w ((wr.setCell ⟨w.heap.size + 1 + 1 + 1, 0, none⟩ a').setCell ⟨w.heap.size + 1 + 1 + 1, 1, none⟩ b') P Q G H x y #[a', b'] :=
  ⟨Gl.setCell (Gl.setCell h.1 (by omega) _ _) (by omega) _ _, (h.2.1.other (by omega) _ _).other (by omega) _ _, h.2.2.set2 a' b'⟩

theorem box_pair {wr : World} {B : Nat} {t : TypeId} {a b : Value} (h : BoxC wr B t #[a, b]) : wr.cell? ⟨B, 0, none⟩ = some a ∧ wr.cell? ⟨B, 1, none⟩ = some b ∧ wr.frozen? ⟨B, 0, none⟩ = false ∧ wr.frozen? ⟨B, 1, none⟩ = false := ⟨by rw [h.cell 0]; rfl, by rw [h.cell 1]; rfl, h.frozen 0, h.frozen 1⟩

theorem size4 (w : World) (o1 o2 o3 o4 : Obj) : w.heap.size + 1 + 1 + 1 + 1 = ((((w.alloc o1).alloc o2).alloc o3).alloc o4).heap.size := by simp only [World.size_alloc]

end Go.Proofs.Ytpflkihagebmlab.Calls160
