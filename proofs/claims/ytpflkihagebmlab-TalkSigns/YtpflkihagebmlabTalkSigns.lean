/-
  FIAT, SHAMIR: for any group, any secret, whatever is drawn, and any text: what is signed is verified; and with a byte of the text turned, if something else is asked then, it is not.
-/
import Derived.Test.YtpflkihagebmlabRows
import Derived.Test.YtpflkihagebmlabCalls173
import Derived.Test.YtpflkihagebmlabCalls175
import Derived.Test.YtpflkihagebmlabBase10
import Derived.WalkKit
import Derived.ProofKit
import Derived.OpenShut
import Derived.Carry
namespace Go.Proofs.Ytpflkihagebmlab.talkSigns
open Go.ChangeShapes Go.WideShapes Go.ChangeAt Go.RowKit Go.Deep Go.Proofs.Ytpflkihagebmlab.Base Go.Proofs.Ytpflkihagebmlab.Base2 Go.Proofs.Ytpflkihagebmlab.Base4 Go.Proofs.Ytpflkihagebmlab.Base10 Go.Proofs.Ytpflkihagebmlab.Num Go.Proofs.Ytpflkihagebmlab.Num56 Go.Proofs.Ytpflkihagebmlab.Calls157 Go.Proofs.Ytpflkihagebmlab.Calls158 Go.Proofs.Ytpflkihagebmlab.Calls160 Go.Proofs.Ytpflkihagebmlab.Base7 Go.Proofs.Ytpflkihagebmlab.Base8 Go.Proofs.Ytpflkihagebmlab.Num55 Go.Proofs.Ytpflkihagebmlab.Calls126 Go.Proofs.Ytpflkihagebmlab.Calls127 Go.Proofs.Ytpflkihagebmlab.Calls162 Go.Proofs.Ytpflkihagebmlab.Calls167 Go.Proofs.Ytpflkihagebmlab.Calls168 Go.Proofs.Ytpflkihagebmlab.Calls169 Go.Proofs.Ytpflkihagebmlab.Calls170 Go.Proofs.Ytpflkihagebmlab.Calls171 Go.Proofs.Ytpflkihagebmlab.Calls173 Go.Proofs.Ytpflkihagebmlab.Calls175
set_option linter.unusedVariables false

theorem own : ownKnob Try.prog.godebug = none := by kernel_rfl

theorem laidOut : laidOutB Try.prog = true := by kernel_rfl

theorem cells2 : Try.prog.cellsOf 2 = 1 := by kernel_rfl

theorem cells8 : Try.prog.cellsOf 5 = 1 := by kernel_rfl

theorem cells_G : Try.prog.cellsOf 23 = 4 := by kernel_rfl

theorem pw2 (P Q G H s k : Int) (v : Bool) (hv : v = true ↔ aC P Q G H [s, k] [] = 0) (tb : Array Value) (w1 : World) : Calls Try.prog 8 #[.agg #[.int .i64 P, .int .i64 Q, .int .i64 G, .int .i64 H], .slice (some ⟨w1.heap.size + 1, 0, none⟩) 2 2] ((w1.alloc (.cells tb 25)).alloc (.cells #[.int .i64 s, .int .i64 k] 2)) fun e w' => e = .returned (.bool v) ∧ Below (w1.alloc (.cells tb 25)).heap.size (w1.alloc (.cells tb 25)) w' := by
  have h := pk2 P Q G H s k v hv (w1.alloc (.cells tb 25))
  rw [World.size_alloc] at h ⊢
  exact h

set_option maxRecDepth 100000 in
set_option maxHeartbeats 1000000 in
/-- A number is no exponent, or the text is too long. -/
theorem walkN (P Q G H s k d : Int) (o : Option Addr) (n c : Nat) (t x : Int) (v : Bool) (hd : d ≠ 0) (hv : v = false ∨ (v = true ∧ 4088 < n)) (hn : n ≤ 9223372036854775807)
    (cS : ∀ w, Calls Try.prog 13 #[.agg #[.int .i64 P, .int .i64 Q, .int .i64 G, .int .i64 H], .int .i64 s, .int .i64 k, .slice o n c] w fun e w' => e = .returned (.tuple #[.agg #[.int .i64 0, .int .i64 0, .int .i64 0], .int .i64 d]) ∧ Below w.heap.size w w')
    (cP : Hid (∀ w1 : World, Calls Try.prog 8 #[.agg #[.int .i64 P, .int .i64 Q, .int .i64 G, .int .i64 H], .slice (some ⟨w1.heap.size + 1, 0, none⟩) 2 2] ((w1.alloc (.cells #[.int .i64 0, .int .i64 0, .int .i64 0] 25)).alloc (.cells #[.int .i64 s, .int .i64 k] 2)) fun e w' => e = .returned (.bool v) ∧ Below (w1.alloc (.cells #[.int .i64 0, .int .i64 0, .int .i64 0] 25)).heap.size (w1.alloc (.cells #[.int .i64 0, .int .i64 0, .int .i64 0] 25)) w')) (w : World) :
    Calls Try.prog 6 #[.agg #[.int .i64 P, .int .i64 Q, .int .i64 G, .int .i64 H], .int .i64 s, .int .i64 k, .slice o n c, .int .u16 t, .int .u8 x] w fun e w' => e = .returned (.bool true) ∧ Below w.heap.size w w' := by
  have h1 : (d != 0) = true := by simpa using hd
  have K := hid (Gb.new w P Q G H)
  obtain ⟨c0, c1, c2, c3⟩ := K.out.cells
  have hv' : v = false ∨ (v = true ∧ (4088 : Int) < (n : Int)) := by
    rcases hv with h | ⟨h, h2⟩
    · exact .inl h
    · exact .inr ⟨h, by omega⟩
  clear hd hv
  rcases hv' with rfl | ⟨rfl, h2⟩
  all_goals
    go_enter Try.func6, Try.ntmps6
    go_wp2_with (first
      | (go_at_call 13; refine (cS _).mono ?_; clear cS; rintro e w1 ⟨rfl, hB1⟩; have K1 := hid ((K.out.below hB1).alloc (.cells #[.int .i64 0, .int .i64 0, .int .i64 0] 25)); have R1 := hid (BoxC.new w1 25 #[.int .i64 0, .int .i64 0, .int .i64 0]); obtain ⟨d0, d1, d2, d3⟩ := K1.out.cells; obtain ⟨r0, r1, r2, _⟩ := box_three R1.out; clear hB1)
      | (go_at_call 8; refine (cP.out _).mono ?_; clear cP; rintro e w2 ⟨rfl, hB2⟩; have K2 := hid (K1.out.below hB2); clear hB2))
    go_ret
    exact ⟨by simp, K2.out.2⟩

set_option maxRecDepth 100000 in
set_option maxHeartbeats 2000000 in
/-- No text. -/
theorem walkE (P Q G H s k x y a z : Nat) (o : Option Addr) (c : Nat) (l : List Nat) (t u : Int)
    (cS : Hid (∀ w, YRow w o l → Calls Try.prog 13 #[.agg #[.int .i64 (P : Int), .int .i64 (Q : Int), .int .i64 (G : Int), .int .i64 (H : Int)], .int .i64 (s : Int), .int .i64 (k : Int), .slice o 0 c] w fun e w' => e = .returned (.tuple #[.agg #[.int .i64 (y : Int), .int .i64 (a : Int), .int .i64 (z : Int)], .int .i64 0]) ∧ Below w.heap.size w w'))
    (cP : Hid (∀ w1 : World, Calls Try.prog 8 #[.agg #[.int .i64 (P : Int), .int .i64 (Q : Int), .int .i64 (G : Int), .int .i64 (H : Int)], .slice (some ⟨w1.heap.size + 1, 0, none⟩) 2 2] ((w1.alloc (.cells #[.int .i64 (y : Int), .int .i64 (a : Int), .int .i64 (z : Int)] 25)).alloc (.cells #[.int .i64 (s : Int), .int .i64 (k : Int)] 2)) fun e w' => e = .returned (.bool true) ∧ Below (w1.alloc (.cells #[.int .i64 (y : Int), .int .i64 (a : Int), .int .i64 (z : Int)] 25)).heap.size (w1.alloc (.cells #[.int .i64 (y : Int), .int .i64 (a : Int), .int .i64 (z : Int)] 25)) w'))
    (cA : ∀ w, Calls Try.prog 9 #[.agg #[.int .i64 (P : Int), .int .i64 (Q : Int), .int .i64 (G : Int), .int .i64 (H : Int)], .int .i64 (s : Int)] w fun e w' => e = .returned (.tuple #[.int .i64 (x : Int), .int .i64 0]) ∧ Below w.heap.size w w')
    (cV : Hid (∀ w, YRow w o l → Calls Try.prog 14 #[.agg #[.int .i64 (P : Int), .int .i64 (Q : Int), .int .i64 (G : Int), .int .i64 (H : Int)], .int .i64 (x : Int), .slice o 0 c, .agg #[.int .i64 (y : Int), .int .i64 (a : Int), .int .i64 (z : Int)]] w fun e w' => e = .returned (.tuple #[.bool true, .int .i64 0]) ∧ Below w.heap.size w w'))
    (w : World) (R0 : Hid (YRow w o l)) :
    Calls Try.prog 6 #[.agg #[.int .i64 (P : Int), .int .i64 (Q : Int), .int .i64 (G : Int), .int .i64 (H : Int)], .int .i64 (s : Int), .int .i64 (k : Int), .slice o 0 c, .int .u16 t, .int .u8 u] w fun e w' => e = .returned (.bool true) ∧ Below w.heap.size w w' := by
  have K := hid (Gb.new w (P : Int) (Q : Int) (G : Int) (H : Int))
  obtain ⟨c0, c1, c2, c3⟩ := K.out.cells
  go_enter Try.func6, Try.ntmps6
  go_wp2_with (first
    | (go_at_call 13; refine (cS.out _ (yb' R0.out K.out.2)).mono ?_; clear cS; rintro e w1 ⟨rfl, hB1⟩; have K := hid ((K.out.below hB1).alloc (.cells #[.int .i64 (y : Int), .int .i64 (a : Int), .int .i64 (z : Int)] 25)); have R1 := hid (BoxC.new w1 25 #[.int .i64 (y : Int), .int .i64 (a : Int), .int .i64 (z : Int)]); obtain ⟨c0, c1, c2, c3⟩ := K.out.cells; obtain ⟨r0, r1, r2, _⟩ := box_three R1.out; clear hB1)
    | (go_at_call 8; refine (cP.out _).mono ?_; clear cP; rintro e w2 ⟨rfl, hB2⟩; have K := hid (K.out.below hB2); have R1 := hid (bx R1.out hB2); obtain ⟨c0, c1, c2, c3⟩ := K.out.cells; obtain ⟨r0, r1, r2, _⟩ := box_three R1.out; clear hB2)
    | (go_at_call 9; refine (cA _).mono ?_; clear cA; rintro e w3 ⟨rfl, hB3⟩; have K := hid (K.out.below hB3); have R1 := hid (bx R1.out hB3); obtain ⟨c0, c1, c2, c3⟩ := K.out.cells; obtain ⟨r0, r1, r2, _⟩ := box_three R1.out; clear hB3)
    | (go_at_call 14; refine (cV.out _ (yb' R0.out K.out.2)).mono ?_; clear cV; rintro e w4 ⟨rfl, hB4⟩; have K := hid (K.out.below hB4); have R1 := hid (bx R1.out hB4); obtain ⟨c0, c1, c2, c3⟩ := K.out.cells; obtain ⟨r0, r1, r2, _⟩ := box_three R1.out; clear hB4))
  go_ret
  exact ⟨rfl, K.out.2⟩

set_option maxRecDepth 100000 in
set_option maxHeartbeats 4000000 in
/-- A text, and a byte of it turned. -/
theorem walkY (P Q G H s k x y a z d : Nat) (o : Option Addr) (c n i : Nat) (l m : List Nat) (t u : Nat) (ht : t < 65536) (HN : Hid (n = (yv l).length)) (h1 : 1 ≤ n) (h2 : n ≤ 4088) (HM : Hid (m = l.set i u)) (hin : i < n) (hit : ((t : Int)).tmod (n : Int) = (i : Int)) (b : Bool) (hb : ((d : Int) == (a : Int)) = b) (yi : Nat) (hgi : Hid ((yv l)[i]? = some (.int .u8 (yi : Int)))) (one : Hid (∀ u ∈ yv l, u.oneCell' = true))
    (cS : Hid (∀ w, YRow w o l → Calls Try.prog 13 #[.agg #[.int .i64 (P : Int), .int .i64 (Q : Int), .int .i64 (G : Int), .int .i64 (H : Int)], .int .i64 (s : Int), .int .i64 (k : Int), .slice o n c] w fun e w' => e = .returned (.tuple #[.agg #[.int .i64 (y : Int), .int .i64 (a : Int), .int .i64 (z : Int)], .int .i64 0]) ∧ Below w.heap.size w w'))
    (cP : Hid (∀ w1 : World, Calls Try.prog 8 #[.agg #[.int .i64 (P : Int), .int .i64 (Q : Int), .int .i64 (G : Int), .int .i64 (H : Int)], .slice (some ⟨w1.heap.size + 1, 0, none⟩) 2 2] ((w1.alloc (.cells #[.int .i64 (y : Int), .int .i64 (a : Int), .int .i64 (z : Int)] 25)).alloc (.cells #[.int .i64 (s : Int), .int .i64 (k : Int)] 2)) fun e w' => e = .returned (.bool true) ∧ Below (w1.alloc (.cells #[.int .i64 (y : Int), .int .i64 (a : Int), .int .i64 (z : Int)] 25)).heap.size (w1.alloc (.cells #[.int .i64 (y : Int), .int .i64 (a : Int), .int .i64 (z : Int)] 25)) w'))
    (cA : ∀ w, Calls Try.prog 9 #[.agg #[.int .i64 (P : Int), .int .i64 (Q : Int), .int .i64 (G : Int), .int .i64 (H : Int)], .int .i64 (s : Int)] w fun e w' => e = .returned (.tuple #[.int .i64 (x : Int), .int .i64 0]) ∧ Below w.heap.size w w')
    (cV : Hid (∀ w, YRow w o l → Calls Try.prog 14 #[.agg #[.int .i64 (P : Int), .int .i64 (Q : Int), .int .i64 (G : Int), .int .i64 (H : Int)], .int .i64 (x : Int), .slice o n c, .agg #[.int .i64 (y : Int), .int .i64 (a : Int), .int .i64 (z : Int)]] w fun e w' => e = .returned (.tuple #[.bool true, .int .i64 0]) ∧ Below w.heap.size w w'))
    (cW : Hid (∀ (o' : Option Addr) (c' : Nat) (w : World), YRow w o' m → Calls Try.prog 14 #[.agg #[.int .i64 (P : Int), .int .i64 (Q : Int), .int .i64 (G : Int), .int .i64 (H : Int)], .int .i64 (x : Int), .slice o' n c', .agg #[.int .i64 (y : Int), .int .i64 (a : Int), .int .i64 (z : Int)]] w fun e w' => e = .returned (.tuple #[.bool b, .int .i64 0]) ∧ Below w.heap.size w w'))
    (cT : Hid (∀ (o' : Option Addr) (c' : Nat) (w : World), YRow w o' m → Calls Try.prog 15 #[.agg #[.int .i64 (P : Int), .int .i64 (Q : Int), .int .i64 (G : Int), .int .i64 (H : Int)], .int .i64 (x : Int), .int .i64 (y : Int), .slice o' n c'] w fun e w' => e = .returned (.int .i64 (d : Int)) ∧ Below w.heap.size w w')) (w : World) (R0 : Hid (YRow w o l)) :
    Calls Try.prog 6 #[.agg #[.int .i64 (P : Int), .int .i64 (Q : Int), .int .i64 (G : Int), .int .i64 (H : Int)], .int .i64 (s : Int), .int .i64 (k : Int), .slice o n c, .int .u16 (t : Int), .int .u8 (u : Int)] w fun e w' => e = .returned (.bool true) ∧ Below w.heap.size w w' := by
  obtain ⟨i0, hi, hz0, hz1, hz2⟩ := infoY infoU8
  have h3 : ¬ (4088 : Int) < (n : Int) := by omega
  have h4 : ((n : Int) == 0) = false := by simp; omega
  have h5 : ¬ (n : Int) = 0 := by omega
  have h6 : ¬ n = 0 := by omega
  have K := hid (Gb.new w (P : Int) (Q : Int) (G : Int) (H : Int))
  obtain ⟨c0, c1, c2, c3⟩ := K.out.cells
  go_enter Try.func6, Try.ntmps6
  go_wp2_with (first
    | (go_at_call 13; refine (cS.out _ (yb' R0.out K.out.2)).mono ?_; clear cS; rintro e w1 ⟨rfl, hB1⟩; have K := hid ((K.out.below hB1).alloc (.cells #[.int .i64 (y : Int), .int .i64 (a : Int), .int .i64 (z : Int)] 25)); have R1 := hid (BoxC.new w1 25 #[.int .i64 (y : Int), .int .i64 (a : Int), .int .i64 (z : Int)]); obtain ⟨c0, c1, c2, c3⟩ := K.out.cells; obtain ⟨r0, r1, r2, _⟩ := box_three R1.out; clear hB1)
    | (go_at_call 8; refine (cP.out _).mono ?_; clear cP; rintro e w2 ⟨rfl, hB2⟩; have K := hid (K.out.below hB2); have R1 := hid (bx R1.out hB2); obtain ⟨c0, c1, c2, c3⟩ := K.out.cells; obtain ⟨r0, r1, r2, _⟩ := box_three R1.out; clear hB2)
    | (go_at_call 9; refine (cA _).mono ?_; clear cA; rintro e w3 ⟨rfl, hB3⟩; have K := hid (K.out.below hB3); have R1 := hid (bx R1.out hB3); obtain ⟨c0, c1, c2, c3⟩ := K.out.cells; obtain ⟨r0, r1, r2, _⟩ := box_three R1.out; clear hB3)
    | (go_at_call 14; refine (cV.out _ (yb' R0.out K.out.2)).mono ?_; clear cV; rintro e w4 ⟨rfl, hB4⟩; have K := hid (K.out.below hB4); have R1 := hid (bx R1.out hB4); obtain ⟨c0, c1, c2, c3⟩ := K.out.cells; obtain ⟨r0, r1, r2, _⟩ := box_three R1.out; clear hB4; have HBE := hid ((Below.refl w4.heap.size w4).alloc (Nat.le_refl _) (.cells #[] 5)); have HR4 := hid (yb' R0.out (K.out.alloc (.cells #[] 5)).2))
    | (at_builtin; refine wpList_copyV _ rfl _ _ 37 rfl w4.heap.size 5 i0 (.int .u8 0) 1 Try.underlying37 hi hz0 hz1 hz2 rfl (by omega) (by omega) w4.heap.size rfl (owns_empty w4 w4.heap.size 5 1 (Nat.le_refl _)) o n c (yv l) rfl HN.out HR4.out one.out (by omega) (by simp) ?_; intro g cap w5 hO hG hlt; have HB5 := hid (HBE.out.grown hG (by simp) (fun j ej => by simp at ej; omega)); have cc := (World.ownsRow.cellAt hO i (by omega)).trans hgi.out; have ff := World.ownsRow.frozenAt hO i; have HY := hid (own_row (l := m) (by have := (World.ownsRow.stored hO i (.int .u8 (u : Int))).1; rw [yv_set, ← HM.out] at this; exact this)); have hgl := (World.ownsRow.lt hO g rfl).1; have HB6 := hid (HB5.out.setCell (p := ⟨g, i, none⟩) hgl (.int .u8 (u : Int))); have K := hid (K.out.below HB6.out); have R1 := hid (bx R1.out HB6.out); obtain ⟨c0, c1, c2, c3⟩ := K.out.cells; obtain ⟨r0, r1, r2, _⟩ := box_three R1.out; clear hO hG hlt)
    | (go_at_call 14; refine (cW.out _ _ _ HY.out).mono ?_; clear cW; rintro e w7 ⟨rfl, hB7⟩; have HY := hid (yb' HY.out hB7); have K := hid (K.out.below hB7); have R1 := hid (bx R1.out hB7); obtain ⟨c0, c1, c2, c3⟩ := K.out.cells; obtain ⟨r0, r1, r2, _⟩ := box_three R1.out; have KD := hid K.out.drew; have RD := hid (show BoxC w7.drew _ _ _ from R1.out); have HYD := hid (show YRow w7.drew _ _ from HY.out); clear hB7))
  go_region_held3 (fun w' => w'.cell? ⟨w.heap.size, 0, none⟩ = some (.int .i64 (P : Int)) ∧ w'.cell? ⟨w.heap.size, 1, none⟩ = some (.int .i64 (Q : Int)) ∧ w'.cell? ⟨w.heap.size, 2, none⟩ = some (.int .i64 (G : Int)) ∧ w'.cell? ⟨w.heap.size, 3, none⟩ = some (.int .i64 (H : Int)) ∧ w'.cell? ⟨w1.heap.size, 0, none⟩ = some (.int .i64 (y : Int)) ∧ w'.cell? ⟨w1.heap.size, 1, none⟩ = some (.int .i64 (a : Int))) (first | exact ⟨c0, c1, c2, c3, r0, r1⟩ | exact ⟨f0, f1, f2, f3, s0, s1⟩)
    (first
      | (go_at_call 15; refine (cT.out _ _ _ HYD.out).mono ?_; rintro e w8 ⟨rfl, hB8⟩; have K8 := hid (KD.out.below hB8); have R8 := hid (bx RD.out hB8); obtain ⟨f0, f1, f2, f3⟩ := K8.out.cells; obtain ⟨s0, s1, s2, _⟩ := box_three R8.out; clear hB8))
  all_goals
    go_wp2
    go_ret
    exact ⟨by simp, K8.out.2⟩

theorem walk (P Q G H : Int) (wP : (Lit.int .i64 P).wf = true) (wQ : (Lit.int .i64 Q).wf = true) (wG : (Lit.int .i64 G).wf = true) (wH : (Lit.int .i64 H).wf = true) (s k : Int) (o : Option Addr) (c : Nat) (l : List Nat) (hb : ∀ b ∈ l, b < 256) (hc : l.length ≤ c) (hm : l.length ≤ 9223372036854775807) (t : Int) (wt : (Lit.int .u16 t).wf = true) (u : Int) (wu : (Lit.int .u8 u).wf = true) (w : World) (r : YRow w o l) :
    Calls Try.prog 6 #[.agg #[.int .i64 P, .int .i64 Q, .int .i64 G, .int .i64 H], .int .i64 s, .int .i64 k, .slice o l.length c, .int .u16 t, .int .u8 u] w fun e w' => e = .returned (.bool true) ∧ Below w.heap.size w w' := by
  by_cases h : aC P Q G H [s, k] [] = 0
  · obtain ⟨p, q, g, h', rfl, rfl, rfl, rfl, hG, h1, _⟩ := aC_zero h
    obtain ⟨s, rfl, hs⟩ := h1 s (by simp)
    obtain ⟨k, rfl, hk⟩ := h1 k (by simp)
    obtain ⟨t, ht, rfl⟩ := wf16 wt
    obtain ⟨u, hu, rfl⟩ := wf8 wu
    by_cases hl : l.length ≤ 4088
    · have p3 := hG.p3
      have pb := hG.big
      have ql := hG.qlt
      have q2 := hG.q2
      have mx : Mem p q (g ^ s % p) := hG.g.mem.pow hG.g.pr hG.g.prq s
      have my : Mem p q (g ^ k % p) := hG.g.mem.pow hG.g.pr hG.g.prq k
      have xl := mx.2.1
      have yl := my.2.1
      have ha : askd q (g ^ k % p) (g ^ s % p) l < q := askd_lt q2
      have hzl : (k + askd q (g ^ k % p) (g ^ s % p) l * s) % q < q := Nat.mod_lt _ (by omega)
      have hft := said_fits (k := k) (s := s) hG.g ha
      have cS := hid (fun w (r : YRow w o l) => Sign_yes p q g h' s k o c l hG hs hk hl hb w r)
      have cV := hid (fun w (r : YRow w o l) => Verify_yes p q g h' (g ^ s % p) (g ^ k % p) (askd q (g ^ k % p) (g ^ s % p) l) ((k + askd q (g ^ k % p) (g ^ s % p) l * s) % q) o c l hG mx my ha hzl hl hb true true (by simp [← hft]) (by simp) w r)
      by_cases h0 : l.length = 0
      · rw [h0] at cS cV ⊢
        exact walkE p q g h' s k _ _ _ _ o c l _ _ cS (hid fun w1 => pw2 _ _ _ _ _ _ true (by simp [h]) _ w1) (fun w => Public_yes p q g h' s hG hs w) cV w (hid r)
      · obtain ⟨i, hi⟩ : ∃ i, i = t % l.length := ⟨_, rfl⟩
        have hin : i < l.length := by rw [hi]; exact Nat.mod_lt _ (by omega)
        have hit : ((t : Int)).tmod (l.length : Int) = (i : Int) := by
          rw [Int.tmod_eq_emod_of_nonneg (by omega), hi]; simp
        have hml : (l.set i u).length = l.length := by simp
        have hmb : Byt (l.set i u) := fun b hh => by
          rcases List.mem_or_eq_of_mem_set hh with hh | hh
          · exact hb b hh
          · rw [hh]; exact hu
        have cW := hid (fun (o' : Option Addr) (c' : Nat) (w : World) (r' : YRow w o' (l.set i u)) => Verify_yes p q g h' (g ^ s % p) (g ^ k % p) (askd q (g ^ k % p) (g ^ s % p) l) ((k + askd q (g ^ k % p) (g ^ s % p) l * s) % q) o' c' (l.set i u) hG mx my ha hzl (by omega) hmb true (decide (askd q (g ^ k % p) (g ^ s % p) l = askd q (g ^ k % p) (g ^ s % p) (l.set i u))) (by simp [← hft]) (by rw [decide_eq_true_iff]) w r')
        have cT := hid (fun (o' : Option Addr) (c' : Nat) (w : World) (r' : YRow w o' (l.set i u)) => textAsks_any p q g h' (g ^ k % p) (g ^ s % p) (by omega) (by omega) (by omega) (by omega) o' c' (l.set i u) (by omega) hmb w r')
        rw [hml] at cW cT
        refine walkY p q g h' s k _ _ _ _ (askd q (g ^ k % p) (g ^ s % p) (l.set i u)) o c l.length i l (l.set i u) t u ht (hid (yv_length l).symm) (by omega) hl (hid rfl) hin hit (decide (askd q (g ^ k % p) (g ^ s % p) l = askd q (g ^ k % p) (g ^ s % p) (l.set i u))) ?_ (yb l i) (hid (yv_get hin)) (hid (yv_one l)) cS (hid fun w1 => pw2 _ _ _ _ _ _ true (by simp [h]) _ w1) (fun w => Public_yes p q g h' s hG hs w) cV ?_ cT w (hid r)
        · by_cases e : askd q (g ^ k % p) (g ^ s % p) l = askd q (g ^ k % p) (g ^ s % p) (l.set i u)
          · rw [decide_eq_true e]; exact i64_eq e.symm
          · rw [decide_eq_false e]; exact i64_ne (fun e2 => e e2.symm)
        · exact hid fun o' c' w r' => by have := cW.out o' c' w r'; rwa [Bool.true_and] at this
    · exact walkN p q g h' s k 1 o l.length c _ _ true (by decide) (.inr ⟨rfl, by omega⟩) hm (fun w => Sign_large p q g h' s k o l.length c hG hs hk (by omega) hm w) (hid fun w1 => pw2 _ _ _ _ _ _ true (by simp [h]) _ w1) w
  · exact walkN P Q G H s k _ o l.length c t u false h (.inl rfl) hm (fun w => Sign_bad P Q G H s k o l.length c h w) (hid fun w1 => pw2 _ _ _ _ _ _ false (by simp [h]) _ w1) w

theorem trodAll_six {H : Type} {enc : TypeId × Value → H} {P : Program} {w : World} {base : Nat} {spare : Nat → Bool} {held : Bool} {t0 t1 t2 t3 t4 t5 : TypeId} {args : Array Value} {ds : List (DataW H)} {ps : List MemPlace} (h : DataW.TrodAll enc P w base spare held [t0, t1, t2, t3, t4, t5] args.toList ds ps) :
    ∃ v0 v1 v2 v3 v4 v5 d0 d1 d2 d3 d4 d5 p0 p1 p2 p3 p4 p5, args = #[v0, v1, v2, v3, v4, v5] ∧ ds = [d0, d1, d2, d3, d4, d5] ∧ ps = p0 ++ p1 ++ p2 ++ p3 ++ p4 ++ p5 ∧ DataW.Trod enc P w base spare held t0 v0 d0 p0 ∧ DataW.Trod enc P w base spare held t1 v1 d1 p1 ∧ DataW.Trod enc P w base spare held t2 v2 d2 p2 ∧ DataW.Trod enc P w base spare held t3 v3 d3 p3 ∧ DataW.Trod enc P w base spare held t4 v4 d4 p4 ∧ DataW.Trod enc P w base spare held t5 v5 d5 p5 := by
  obtain ⟨v0, vs0, d0, ds0, p0, q0, hargs, rfl, rfl, hd0, hrest0⟩ := trodAll_cons h
  obtain ⟨v1, vs1, d1, ds1, p1, q1, rfl, rfl, rfl, hd1, hrest1⟩ := trodAll_cons hrest0
  obtain ⟨v2, vs2, d2, ds2, p2, q2, rfl, rfl, rfl, hd2, hrest2⟩ := trodAll_cons hrest1
  obtain ⟨v3, vs3, d3, ds3, p3, q3, rfl, rfl, rfl, hd3, hrest3⟩ := trodAll_cons hrest2
  obtain ⟨v4, vs4, d4, ds4, p4, q4, rfl, rfl, rfl, hd4, hrest4⟩ := trodAll_cons hrest3
  obtain ⟨v5, vs5, d5, ds5, p5, q5, rfl, rfl, rfl, hd5, hrest5⟩ := trodAll_cons hrest4
  obtain ⟨rfl, rfl, rfl⟩ := trodAll_nil hrest5
  exact ⟨v0, v1, v2, v3, v4, v5, d0, d1, d2, d3, d4, d5, p0, p1, p2, p3, p4, p5, by cases args; simp_all, rfl, by simp, hd0, hd1, hd2, hd3, hd4, hd5⟩

theorem trodAll_mk5 {H : Type} {enc : TypeId × Value → H} {P : Program} {w : World} {base : Nat} {spare : Nat → Bool} {held : Bool} {t0 t1 t2 t3 t4 : TypeId} {v0 v1 v2 v3 v4 : Value} {d0 d1 d2 d3 d4 : DataW H} {p0 p1 p2 p3 p4 : List MemPlace} (h0 : DataW.Trod enc P w base spare held t0 v0 d0 p0) (h1 : DataW.Trod enc P w base spare held t1 v1 d1 p1) (h2 : DataW.Trod enc P w base spare held t2 v2 d2 p2) (h3 : DataW.Trod enc P w base spare held t3 v3 d3 p3) (h4 : DataW.Trod enc P w base spare held t4 v4 d4 p4) : DataW.TrodAll enc P w base spare held [t0, t1, t2, t3, t4] [v0, v1, v2, v3, v4] [d0, d1, d2, d3, d4] (p0 ++ (p1 ++ (p2 ++ (p3 ++ (p4))))) := ⟨p0, p1 ++ (p2 ++ (p3 ++ (p4))), h0, trodAll_mk4 h1 h2 h3 h4, rfl⟩

theorem trodAll_mk6 {H : Type} {enc : TypeId × Value → H} {P : Program} {w : World} {base : Nat} {spare : Nat → Bool} {held : Bool} {t0 t1 t2 t3 t4 t5 : TypeId} {v0 v1 v2 v3 v4 v5 : Value} {d0 d1 d2 d3 d4 d5 : DataW H} {p0 p1 p2 p3 p4 p5 : List MemPlace} (h0 : DataW.Trod enc P w base spare held t0 v0 d0 p0) (h1 : DataW.Trod enc P w base spare held t1 v1 d1 p1) (h2 : DataW.Trod enc P w base spare held t2 v2 d2 p2) (h3 : DataW.Trod enc P w base spare held t3 v3 d3 p3) (h4 : DataW.Trod enc P w base spare held t4 v4 d4 p4) (h5 : DataW.Trod enc P w base spare held t5 v5 d5 p5) : DataW.TrodAll enc P w base spare held [t0, t1, t2, t3, t4, t5] [v0, v1, v2, v3, v4, v5] [d0, d1, d2, d3, d4, d5] (p0 ++ (p1 ++ (p2 ++ (p3 ++ (p4 ++ (p5)))))) := ⟨p0, p1 ++ (p2 ++ (p3 ++ (p4 ++ (p5)))), h0, trodAll_mk5 h1 h2 h3 h4 h5, rfl⟩

set_option maxRecDepth 100000 in
theorem lifted (os : Os) (started : os.Started) (H : Type) (enc : TypeId × Value → H) :
    ReturnsInHanded {} Try.checked os 6 .any (Rows.talkSignsSpec.pre6 enc Try.prog Try.f6 Rows.talkSignsRow.domain false) (Rows.talkSignsSpec.post enc Try.prog Try.f6 false true false false) := by
  refine returnsInHanded_of_change (C := Try.checked) own started (by kernel_rfl) Try.func6
    (ChangeSpec.witness6 (enc := enc) (C := Try.checked) false ⟨#[], #[.agg #[.int .i64 0, .int .i64 0, .int .i64 0, .int .i64 0], .int .i64 0, .int .i64 0, .slice none 0 0, .int .u16 0, .int .u8 0], []⟩ 8 (by kernel_rfl) (by kernel_rfl) (by kernel_rfl) (by kernel_rfl)) ?_
  intro W base args ds gs before hval0 hW hcnd _
  have hval : ∀ (j : Nat) t v, Try.f6.params[j]? = some t → args[j]? = some v → Value.okWide Try.prog W .any base t v := hval0
  have hW' := hW
  obtain ⟨p, q, hA0, hV, rfl, _, _⟩ := hW
  have hA : DataW.TrodAll enc Try.prog W 0 (fun _ => true) true Try.f6.params.toList args.toList ds p := hA0
  rw [Try.params6] at hA hval
  obtain ⟨v0, v1, v2, v3, v4, v5, d0, d1, d2, d3, d4, d5, p0, p1, p2, p3, p4, p5, rfl, rfl, rfl, h0, h1, h2, h3, h4, h5⟩ := trodAll_six hA
  obtain ⟨rfl, rfl⟩ := trodVars_none hV
  have hsv0 := hval 0 23 v0 rfl rfl
  obtain ⟨a1, rfl, rfl, rfl, w1⟩ := open_int Try.underlying2 (hval 1 2 v1 rfl rfl) h1
  obtain ⟨a2, rfl, rfl, rfl, w2⟩ := open_int Try.underlying2 (hval 2 2 v2 rfl rfl) h2
  have hsl3 := okWide_slice Try.underlying37 (hval 3 37 v3 rfl rfl)
  obtain ⟨a4, rfl, rfl, rfl, w4⟩ := open_int Try.underlying38 (hval 4 38 v4 rfl rfl) h4
  obtain ⟨a5, rfl, rfl, rfl, w5⟩ := open_int Try.underlying5 (hval 5 5 v5 rfl rfl) h5
  clear hA0 hval0
  simp only [List.append_nil] at hW'
  have hlt0 : ∀ x ∈ p0, x.block < W.heap.size := fun x hx => by simpa using hW'.lt x (by simp [hx])
  have harg0 : ∀ (W' : World), Below W.heap.size W W' → DataW.Trod enc Try.prog W' 0 (fun b => decide (b < W.heap.size)) true 23 v0 d0 p0 :=
    fun W' hn => Below.trod laidOut (by kernel_rfl) (of_decide_eq_true (by kernel_rfl)) h0 hn hlt0
  obtain ⟨x0a, x0b, x0c, x0d, rfl, w0a, w0b, w0c, w0d⟩ := struct4_view Try.underlying23 cells_G rfl rfl rfl rfl ⟨cells2, Try.underlying2⟩ ⟨cells2, Try.underlying2⟩ ⟨cells2, Try.underlying2⟩ ⟨cells2, Try.underlying2⟩ h0 hsv0
  have hlt3 : ∀ x ∈ p3, x.block < W.heap.size := fun x hx => by simpa using hW'.lt x (by simp [hx])
  have harg3 : ∀ (W' : World), Below W.heap.size W W' → DataW.Trod enc Try.prog W' 0 (fun b => decide (b < W.heap.size)) true 37 v3 d3 p3 :=
    fun W' hn => Below.trod laidOut (by kernel_rfl) (of_decide_eq_true (by kernel_rfl)) h3 hn hlt3
  obtain ⟨o3, c3, l3, rfl, r3, b3, k3, m3⟩ := bytes_view Try.underlying37 cells8 Try.underlying5 h3 hsl3
  refine (walk x0a x0b x0c x0d w0a w0b w0c w0d a1 a2 o3 c3 l3 b3 k3 m3 a4 w4 a5 w5 W r3).mono fun e W' ⟨he, hg⟩ => ?_
  subst he
  refine ⟨_, rfl, _, _, _, [], p0 ++ (([] : List MemPlace) ++ (([] : List MemPlace) ++ (p3 ++ (([] : List MemPlace) ++ (([] : List MemPlace)))))), [], hW', ?_, ?_, rfl, hg.frame _, fun h => by cases h⟩
  · exact trodAll_mk1 (shut_bool Try.underlying4 true)
  · exact trodAll_mk6 (harg0 _ hg) (shut_int Try.underlying2 w1) (shut_int Try.underlying2 w2) (harg3 _ hg) (shut_int Try.underlying38 w4) (shut_int Try.underlying5 w5)

theorem over : Rows.talkSignsRow.holds Try.pinned (OpenSpec.ofChange Rows.talkSignsSpec) :=
  OpenClaim.holds_of_wide 6 Try.f6 rfl rfl rfl rfl rfl rfl rfl ⟨rfl, rfl, rfl, rfl, rfl⟩ rfl rfl rfl rfl rfl (by kernel_rfl) Try.func6 (by kernel_rfl)
    (of_decide_eq_true (by kernel_rfl)) (by unfold Func.isWrapper; first | (rw [if_pos (by decide +kernel)]; kernel_rfl) | (rw [if_neg (by decide +kernel)]; exact ⟨rfl, rfl⟩))
    (fun os started H enc _ => lifted os started H enc)

/-- ████ THE STATEMENT ████ -/
theorem proved : Rows.TalkSignsSaid :=
  over

end Go.Proofs.Ytpflkihagebmlab.talkSigns
