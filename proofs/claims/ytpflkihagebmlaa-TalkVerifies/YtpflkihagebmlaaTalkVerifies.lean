/-
  For any group, any member, any text and any talk the program tells whether it signs the text.
-/
import Derived.Test.YtpflkihagebmlaaRows
import Derived.Test.YtpflkihagebmlaaCalls174
import Derived.Test.YtpflkihagebmlaaBase10
import Derived.WalkKit
import Derived.ProofKit
import Derived.OpenShut
import Derived.Carry
namespace Go.Proofs.Ytpflkihagebmlaa.talkVerifies
open Go.ChangeShapes Go.WideShapes Go.ChangeAt Go.RowKit Go.Deep Go.Proofs.Ytpflkihagebmlaa.Base Go.Proofs.Ytpflkihagebmlaa.Base2 Go.Proofs.Ytpflkihagebmlaa.Base4 Go.Proofs.Ytpflkihagebmlaa.Base10 Go.Proofs.Ytpflkihagebmlaa.Num Go.Proofs.Ytpflkihagebmlaa.Num56 Go.Proofs.Ytpflkihagebmlaa.Calls157 Go.Proofs.Ytpflkihagebmlaa.Calls158 Go.Proofs.Ytpflkihagebmlaa.Calls160 Go.Proofs.Ytpflkihagebmlaa.Base8 Go.Proofs.Ytpflkihagebmlaa.Num55 Go.Proofs.Ytpflkihagebmlaa.Calls126 Go.Proofs.Ytpflkihagebmlaa.Calls159 Go.Proofs.Ytpflkihagebmlaa.Calls161 Go.Proofs.Ytpflkihagebmlaa.Calls167 Go.Proofs.Ytpflkihagebmlaa.Calls168 Go.Proofs.Ytpflkihagebmlaa.Calls169 Go.Proofs.Ytpflkihagebmlaa.Calls170 Go.Proofs.Ytpflkihagebmlaa.Calls171 Go.Proofs.Ytpflkihagebmlaa.Calls172 Go.Proofs.Ytpflkihagebmlaa.Calls173 Go.Proofs.Ytpflkihagebmlaa.Calls174
set_option linter.unusedVariables false

theorem own : ownKnob Try.prog.godebug = none := by kernel_rfl

theorem laidOut : laidOutB Try.prog = true := by kernel_rfl

theorem cells2 : Try.prog.cellsOf 2 = 1 := by kernel_rfl

theorem cells8 : Try.prog.cellsOf 5 = 1 := by kernel_rfl

theorem cells_G : Try.prog.cellsOf 23 = 4 := by kernel_rfl

theorem cells_T : Try.prog.cellsOf 25 = 3 := by kernel_rfl

set_option maxRecDepth 100000 in
set_option maxHeartbeats 1000000 in
theorem walkF (P Q G H x f a z : Int) (o : Option Addr) (n c : Nat) (h : aC P Q G H [a, z] [x, f] ≠ 0) (w : World) :
    Calls Try.prog 8 #[.agg #[.int .i64 P, .int .i64 Q, .int .i64 G, .int .i64 H], .int .i64 x, .slice o n c, .agg #[.int .i64 f, .int .i64 a, .int .i64 z]] w fun e w' => e = .returned (.bool true) ∧ Below w.heap.size w w' := by
  have cL := fun w => Verify_bad P Q G H x f a z o n c h w
  have cK := fun w => sd1 P Q G H x f a z w w.heap.size rfl
  have K := hid (Gs.new w P Q G H #[.int .i64 f, .int .i64 a, .int .i64 z])
  obtain ⟨c0, c1, c2, c3⟩ := K.out.1.cells
  obtain ⟨t0, t1, t2, _⟩ := box_three K.out.2
  generalize aC P Q G H [a, z] [x, f] = d at *
  have h1 : (d != 0) = true := by simpa using h
  have h2 : (d == 0) = false := by simpa using h
  clear h
  go_enter Try.func8, Try.ntmps8
  go_wp2_with (first
    | (go_at_call 20; refine (cL _).mono ?_; clear cL; rintro e w1 ⟨rfl, hB1⟩; have K1 := hid (K.out.below hB1); obtain ⟨d0, d1, d2, d3⟩ := K1.out.1.cells; obtain ⟨u0, u1, u2, _⟩ := box_three K1.out.2; clear hB1)
    | (go_at_call 13; refine (cK _).mono ?_; clear cK; rintro e w1 ⟨rfl, hB1⟩; have K2 := hid (K1.out.below hB1); obtain ⟨e0, e1, e2, e3⟩ := K2.out.1.cells; obtain ⟨v0, v1, v2, _⟩ := box_three K2.out.2; clear hB1))
  go_ret
  exact ⟨by simp, K2.out.1.2⟩

set_option maxRecDepth 100000 in
set_option maxHeartbeats 1000000 in
theorem walkL (P Q G H x f a z : Nat) (o : Option Addr) (n c : Nat) (hG : Grp P Q G H) (hx : Mem P Q x) (hf : Mem P Q f) (ha : a < Q) (hz : z < Q) (hn : 4088 < n) (hn2 : n ≤ 9223372036854775807) (w : World) :
    Calls Try.prog 8 #[.agg #[.int .i64 (P : Int), .int .i64 (Q : Int), .int .i64 (G : Int), .int .i64 (H : Int)], .int .i64 (x : Int), .slice o n c, .agg #[.int .i64 (f : Int), .int .i64 (a : Int), .int .i64 (z : Int)]] w fun e w' => e = .returned (.bool true) ∧ Below w.heap.size w w' := by
  have cL := fun w => Verify_large P Q G H x f a z o n c hG hx hf ha hz hn hn2 w
  have cK := fun w => sd1 (P : Int) (Q : Int) (G : Int) (H : Int) (x : Int) (f : Int) (a : Int) (z : Int) w w.heap.size rfl
  rw [aC_of hG (ex2 ha hz) (me2 hx hf)] at cK
  have K := hid (Gs.new w (P : Int) (Q : Int) (G : Int) (H : Int) #[.int .i64 (f : Int), .int .i64 (a : Int), .int .i64 (z : Int)])
  obtain ⟨c0, c1, c2, c3⟩ := K.out.1.cells
  obtain ⟨t0, t1, t2, _⟩ := box_three K.out.2
  have hn' : (4088 : Int) < (n : Int) := by omega
  clear hG hx hf ha hz
  go_enter Try.func8, Try.ntmps8
  go_wp2_with (first
    | (go_at_call 20; refine (cL _).mono ?_; clear cL; rintro e w1 ⟨rfl, hB1⟩; have K1 := hid (K.out.below hB1); obtain ⟨d0, d1, d2, d3⟩ := K1.out.1.cells; obtain ⟨u0, u1, u2, _⟩ := box_three K1.out.2; clear hB1)
    | (go_at_call 13; refine (cK _).mono ?_; clear cK; rintro e w1 ⟨rfl, hB1⟩; have K2 := hid (K1.out.below hB1); obtain ⟨e0, e1, e2, e3⟩ := K2.out.1.cells; obtain ⟨v0, v1, v2, _⟩ := box_three K2.out.2; clear hB1))
  go_ret
  exact ⟨by simp, K2.out.1.2⟩

set_option maxRecDepth 100000 in
set_option maxHeartbeats 4000000 in
theorem walkN (P Q G H x f a z : Nat) (o : Option Addr) (n c : Nat) (l : List Nat) (hl : n ≤ 4088)
    (cL : Hid (∀ w, YRow w o l → Calls Try.prog 20 #[.agg #[.int .i64 (P : Int), .int .i64 (Q : Int), .int .i64 (G : Int), .int .i64 (H : Int)], .int .i64 (x : Int), .slice o n c, .agg #[.int .i64 (f : Int), .int .i64 (a : Int), .int .i64 (z : Int)]] w fun e w' => e = .returned (.tuple #[.bool false, .int .i64 0]) ∧ Below w.heap.size w w'))
    (cK : ∀ w, Calls Try.prog 13 #[.agg #[.int .i64 (P : Int), .int .i64 (Q : Int), .int .i64 (G : Int), .int .i64 (H : Int)], .int .i64 (x : Int), .slice (some ⟨w.heap.size, 0, none⟩) 1 1] (w.alloc (.cells #[.int .i64 (f : Int), .int .i64 (a : Int), .int .i64 (z : Int)] 25)) fun e w' => e = .returned (.int .i64 0) ∧ Below w.heap.size w w')
    (cR : ∀ w, Calls Try.prog 14 #[.agg #[.int .i64 (P : Int), .int .i64 (Q : Int), .int .i64 (G : Int), .int .i64 (H : Int)], .int .i64 (x : Int), .agg #[.int .i64 (f : Int), .int .i64 (a : Int), .int .i64 (z : Int)]] w fun e w' => e = .returned (.bool false) ∧ Below w.heap.size w w') (w : World) (R0 : Hid (YRow w o l)) :
    Calls Try.prog 8 #[.agg #[.int .i64 (P : Int), .int .i64 (Q : Int), .int .i64 (G : Int), .int .i64 (H : Int)], .int .i64 (x : Int), .slice o n c, .agg #[.int .i64 (f : Int), .int .i64 (a : Int), .int .i64 (z : Int)]] w fun e w' => e = .returned (.bool true) ∧ Below w.heap.size w w' := by
  have K := hid (Gs.new w (P : Int) (Q : Int) (G : Int) (H : Int) #[.int .i64 (f : Int), .int .i64 (a : Int), .int .i64 (z : Int)])
  obtain ⟨c0, c1, c2, c3⟩ := K.out.1.cells
  obtain ⟨t0, t1, t2, _⟩ := box_three K.out.2
  have hn' : ¬ (4088 : Int) < (n : Int) := by omega
  go_enter Try.func8, Try.ntmps8
  go_wp2_with (first
    | (go_at_call 20; refine (cL.out _ (yb' R0.out K.out.1.2)).mono ?_; clear cL; rintro e w1 ⟨rfl, hB1⟩; have K1 := hid (K.out.below hB1); obtain ⟨d0, d1, d2, d3⟩ := K1.out.1.cells; obtain ⟨u0, u1, u2, _⟩ := box_three K1.out.2; clear hB1)
    | (go_at_call 13; refine (cK _).mono ?_; clear cK; rintro e w1 ⟨rfl, hB1⟩; have K2 := hid (K1.out.below hB1); obtain ⟨e0, e1, e2, e3⟩ := K2.out.1.cells; obtain ⟨v0, v1, v2, _⟩ := box_three K2.out.2; clear hB1; have KD := hid K2.out.drew))
  refine wp_region_noPanic ?_
  refine wp_region_held_drew (S := (fun w' => w'.cell? ⟨w.heap.size, 0, none⟩ = some (.int .i64 (P : Int)) ∧ w'.cell? ⟨w.heap.size, 1, none⟩ = some (.int .i64 (Q : Int)) ∧ w'.cell? ⟨w.heap.size, 2, none⟩ = some (.int .i64 (G : Int)) ∧ w'.cell? ⟨w.heap.size, 3, none⟩ = some (.int .i64 (H : Int)) ∧ w'.cell? ⟨w.heap.size + 1, 0, none⟩ = some (.int .i64 (f : Int)) ∧ w'.cell? ⟨w.heap.size + 1, 1, none⟩ = some (.int .i64 (a : Int)) ∧ w'.cell? ⟨w.heap.size + 1, 2, none⟩ = some (.int .i64 (z : Int)))) (by kernel_rfl) ⟨e0, e1, e2, e3, v0, v1, v2⟩ (fun hHeld => ?_)
  refine wpAnyH_take (i := 0) (v := ?hv0) rfl (by kernel_rfl) (by kernel_rfl) (by kernel_rfl) (fun _ _ _ h => h) (Or.inl ⟨by kernel_rfl, ?hy0⟩) (by assumption) ?_
  case hy0 => (intro w hSw; (try dsimp only at hSw); go_simp; try with_reducible rfl)
  try simp only [Act.put, List.getElem_toArray, List.getElem_cons_zero, List.setIfInBounds_toArray, List.set_cons_succ, List.set_cons_zero]
  refine wpAnyH_take (i := 1) (v := ?hv1) rfl (by kernel_rfl) (by kernel_rfl) (by kernel_rfl) (fun _ _ _ h => h) (Or.inl ⟨by kernel_rfl, ?hy1⟩) (by assumption) ?_
  case hy1 => (intro w hSw; (try dsimp only at hSw); go_simp; try with_reducible rfl)
  try simp only [Act.put, List.getElem_toArray, List.getElem_cons_succ, List.getElem_cons_zero, List.setIfInBounds_toArray, List.set_cons_succ, List.set_cons_zero]
  refine wpAnyH_take (i := 2) (v := ?hv2) rfl (by kernel_rfl) (by kernel_rfl) (by kernel_rfl) (fun _ _ _ h => h) (Or.inl ⟨by kernel_rfl, ?hy2⟩) (by assumption) ?_
  case hy2 => (intro w hSw; (try dsimp only at hSw); go_simp; try with_reducible rfl)
  try simp only [Act.put, List.getElem_toArray, List.getElem_cons_succ, List.getElem_cons_zero, List.setIfInBounds_toArray, List.set_cons_succ, List.set_cons_zero]
  refine wpAnyH_take (i := 3) (v := ?hv3) rfl (by kernel_rfl) (by kernel_rfl) (by kernel_rfl) (fun _ _ _ h => h) (Or.inl ⟨by kernel_rfl, ?hy3⟩) (by assumption) ?_
  case hy3 => (intro w hSw; (try dsimp only at hSw); go_simp; try with_reducible rfl)
  try simp only [Act.put, List.getElem_toArray, List.getElem_cons_succ, List.getElem_cons_zero, List.setIfInBounds_toArray, List.set_cons_succ, List.set_cons_zero]
  refine wpAnyH_take (i := 4) (v := ?hv4) rfl (by kernel_rfl) (by kernel_rfl) (by kernel_rfl) (fun _ _ _ h => h) (Or.inl ⟨by kernel_rfl, ?hy4⟩) (by assumption) ?_
  case hy4 => (intro w hSw; (try dsimp only at hSw); go_simp; try with_reducible rfl)
  try simp only [Act.put, List.getElem_toArray, List.getElem_cons_succ, List.getElem_cons_zero, List.setIfInBounds_toArray, List.set_cons_succ, List.set_cons_zero]
  refine wpAnyH_take (i := 5) (v := ?hv5) rfl (by kernel_rfl) (by kernel_rfl) (by kernel_rfl) (fun _ _ _ h => h) (Or.inl ⟨by kernel_rfl, ?hy5⟩) (by assumption) ?_
  case hy5 => (intro w hSw; (try dsimp only at hSw); go_simp; try with_reducible rfl)
  try simp only [Act.put, List.getElem_toArray, List.getElem_cons_succ, List.getElem_cons_zero, List.setIfInBounds_toArray, List.set_cons_succ, List.set_cons_zero]
  refine wpAnyH_take (i := 6) (v := ?hv6) rfl (by kernel_rfl) (by kernel_rfl) (by kernel_rfl) (fun _ _ _ h => h) (Or.inl ⟨by kernel_rfl, ?hy6⟩) (by assumption) ?_
  case hy6 => (intro w hSw; (try dsimp only at hSw); go_simp; try with_reducible rfl)
  try simp only [Act.put, List.getElem_toArray, List.getElem_cons_succ, List.getElem_cons_zero, List.setIfInBounds_toArray, List.set_cons_succ, List.set_cons_zero]
  refine wpAnyH_ready (rs := [7]) (by kernel_rfl) (by simp) ?_
  refine AllReadyH.cons rfl (fun KK hKK => ?_) AllReadyH.nil
  go_simp
  go_wp2_with (go_at_call 14; refine (cR _).mono ?_; rintro e w3 ⟨rfl, hB3⟩; have K3 := hid (KD.out.below hB3); obtain ⟨f0, f1, f2, f3⟩ := K3.out.1.cells; obtain ⟨s0, s1, s2, _⟩ := box_three K3.out.2; clear hB3)
  refine hKK.out _ _ ⟨f0, f1, f2, f3, s0, s1, s2⟩ (fun hHeld => ?_)
  clear hKK KK
  try simp only [Act.put, List.getElem_toArray, List.getElem_cons_succ, List.getElem_cons_zero, List.setIfInBounds_toArray, List.set_cons_succ, List.set_cons_zero]
  refine wpAnyH_take (i := 8) (v := ?hv8) rfl (by kernel_rfl) (by kernel_rfl) (by kernel_rfl) (fun _ _ _ h => h) (Or.inl ⟨by kernel_rfl, ?hy8⟩) (by assumption) ?_
  case hy8 => (intro w hSw; (try dsimp only at hSw); go_simp; try with_reducible rfl)
  try simp only [Act.put, List.getElem_toArray, List.getElem_cons_succ, List.getElem_cons_zero, List.setIfInBounds_toArray, List.set_cons_succ, List.set_cons_zero]
  refine wpAnyH_take (i := 9) (v := undef) rfl (by kernel_rfl) (by kernel_rfl) (by kernel_rfl) (fun _ _ _ h => h) (Or.inr ⟨by kernel_rfl, rfl⟩) (by assumption) ?_
  try simp only [Act.put, List.getElem_toArray, List.getElem_cons_succ, List.getElem_cons_zero, List.setIfInBounds_toArray, List.set_cons_succ, List.set_cons_zero]
  refine wpAnyH_take (i := 10) (v := undef) rfl (by kernel_rfl) (by kernel_rfl) (by kernel_rfl) (fun _ _ _ h => h) (Or.inr ⟨by kernel_rfl, rfl⟩) (by assumption) ?_
  try simp only [Act.put, List.getElem_toArray, List.getElem_cons_succ, List.getElem_cons_zero, List.setIfInBounds_toArray, List.set_cons_succ, List.set_cons_zero]
  refine wpAnyH_take (i := 11) (v := undef) rfl (by kernel_rfl) (by kernel_rfl) (by kernel_rfl) (fun _ _ _ h => h) (Or.inr ⟨by kernel_rfl, rfl⟩) (by assumption) ?_
  try simp only [Act.put, List.getElem_toArray, List.getElem_cons_succ, List.getElem_cons_zero, List.setIfInBounds_toArray, List.set_cons_succ, List.set_cons_zero]
  refine wpAnyH_take (i := 12) (v := undef) rfl (by kernel_rfl) (by kernel_rfl) (by kernel_rfl) (fun _ _ _ h => h) (Or.inr ⟨by kernel_rfl, rfl⟩) (by assumption) ?_
  try simp only [Act.put, List.getElem_toArray, List.getElem_cons_succ, List.getElem_cons_zero, List.setIfInBounds_toArray, List.set_cons_succ, List.set_cons_zero]
  refine wpAnyH_take (i := 13) (v := undef) rfl (by kernel_rfl) (by kernel_rfl) (by kernel_rfl) (fun _ _ _ h => h) (Or.inr ⟨by kernel_rfl, rfl⟩) (by assumption) ?_
  try simp only [Act.put, List.getElem_toArray, List.getElem_cons_succ, List.getElem_cons_zero, List.setIfInBounds_toArray, List.set_cons_succ, List.set_cons_zero]
  refine wpAnyH_take (i := 14) (v := undef) rfl (by kernel_rfl) (by kernel_rfl) (by kernel_rfl) (fun _ _ _ h => h) (Or.inr ⟨by kernel_rfl, rfl⟩) (by assumption) ?_
  try simp only [Act.put, List.getElem_toArray, List.getElem_cons_succ, List.getElem_cons_zero, List.setIfInBounds_toArray, List.set_cons_succ, List.set_cons_zero]
  refine wpAnyH_take (i := 15) (v := undef) rfl (by kernel_rfl) (by kernel_rfl) (by kernel_rfl) (fun _ _ _ h => h) (Or.inr ⟨by kernel_rfl, rfl⟩) (by assumption) ?_
  try simp only [Act.put, List.getElem_toArray, List.getElem_cons_succ, List.getElem_cons_zero, List.setIfInBounds_toArray, List.set_cons_succ, List.set_cons_zero]
  refine wpAnyH_take (i := 16) (v := undef) rfl (by kernel_rfl) (by kernel_rfl) (by kernel_rfl) (fun _ _ _ h => h) (Or.inr ⟨by kernel_rfl, rfl⟩) (by assumption) ?_
  try simp only [Act.put, List.getElem_toArray, List.getElem_cons_succ, List.getElem_cons_zero, List.setIfInBounds_toArray, List.set_cons_succ, List.set_cons_zero]
  refine wpAnyH_take (i := 17) (v := undef) rfl (by kernel_rfl) (by kernel_rfl) (by kernel_rfl) (fun _ _ _ h => h) (Or.inr ⟨by kernel_rfl, rfl⟩) (by assumption) ?_
  try simp only [Act.put, List.getElem_toArray, List.getElem_cons_succ, List.getElem_cons_zero, List.setIfInBounds_toArray, List.set_cons_succ, List.set_cons_zero]
  refine wpAnyH_take (i := 18) (v := ?hv18) rfl (by kernel_rfl) (by kernel_rfl) (by kernel_rfl) (fun _ _ _ h => h) (Or.inl ⟨by kernel_rfl, ?hy18⟩) (by assumption) ?_
  case hy18 => (intro w hSw; (try dsimp only at hSw); go_simp; try with_reducible rfl)
  try simp only [Act.put, List.getElem_toArray, List.getElem_cons_succ, List.getElem_cons_zero, List.setIfInBounds_toArray, List.set_cons_succ, List.set_cons_zero]
  refine wpAnyH_take (i := 19) (v := ?hv19) rfl (by kernel_rfl) (by kernel_rfl) (by kernel_rfl) (fun _ _ _ h => h) (Or.inl ⟨by kernel_rfl, ?hy19⟩) (by assumption) ?_
  case hy19 => (intro w hSw; (try dsimp only at hSw); go_simp; try with_reducible rfl)
  try simp only [Act.put, List.getElem_toArray, List.getElem_cons_succ, List.getElem_cons_zero, List.setIfInBounds_toArray, List.set_cons_succ, List.set_cons_zero]
  refine wpAnyH_take (i := 20) (v := ?hv20) rfl (by kernel_rfl) (by kernel_rfl) (by kernel_rfl) (fun _ _ _ h => h) (Or.inl ⟨by kernel_rfl, ?hy20⟩) (by assumption) ?_
  case hy20 => (intro w hSw; (try dsimp only at hSw); go_simp; try with_reducible rfl)
  try simp only [Act.put, List.getElem_toArray, List.getElem_cons_succ, List.getElem_cons_zero, List.setIfInBounds_toArray, List.set_cons_succ, List.set_cons_zero]
  refine wpAnyH_take (i := 21) (v := ?hv21) rfl (by kernel_rfl) (by kernel_rfl) (by kernel_rfl) (fun _ _ _ h => h) (Or.inl ⟨by kernel_rfl, ?hy21⟩) (by assumption) ?_
  case hy21 => (intro w hSw; (try dsimp only at hSw); go_simp; try with_reducible rfl)
  try simp only [Act.put, List.getElem_toArray, List.getElem_cons_succ, List.getElem_cons_zero, List.setIfInBounds_toArray, List.set_cons_succ, List.set_cons_zero]
  refine wpAnyH_done (by kernel_rfl) ?_ _
  refine NoPanic.normal ?_
  go_wp2
  go_ret
  exact ⟨by simp, K3.out.1.2⟩

set_option maxRecDepth 100000 in
set_option maxHeartbeats 4000000 in
theorem walkY (P Q G H x f a z d : Nat) (v : Bool) (hv : ((a : Int) == (d : Int)) = v) (o : Option Addr) (n c : Nat) (l : List Nat) (hl : n ≤ 4088)
    (cL : Hid (∀ w, YRow w o l → Calls Try.prog 20 #[.agg #[.int .i64 (P : Int), .int .i64 (Q : Int), .int .i64 (G : Int), .int .i64 (H : Int)], .int .i64 (x : Int), .slice o n c, .agg #[.int .i64 (f : Int), .int .i64 (a : Int), .int .i64 (z : Int)]] w fun e w' => e = .returned (.tuple #[.bool v, .int .i64 0]) ∧ Below w.heap.size w w'))
    (cK : ∀ w, Calls Try.prog 13 #[.agg #[.int .i64 (P : Int), .int .i64 (Q : Int), .int .i64 (G : Int), .int .i64 (H : Int)], .int .i64 (x : Int), .slice (some ⟨w.heap.size, 0, none⟩) 1 1] (w.alloc (.cells #[.int .i64 (f : Int), .int .i64 (a : Int), .int .i64 (z : Int)] 25)) fun e w' => e = .returned (.int .i64 0) ∧ Below w.heap.size w w')
    (cR : ∀ w, Calls Try.prog 14 #[.agg #[.int .i64 (P : Int), .int .i64 (Q : Int), .int .i64 (G : Int), .int .i64 (H : Int)], .int .i64 (x : Int), .agg #[.int .i64 (f : Int), .int .i64 (a : Int), .int .i64 (z : Int)]] w fun e w' => e = .returned (.bool true) ∧ Below w.heap.size w w')
    (cT : Hid (∀ w, YRow w o l → Calls Try.prog 19 #[.agg #[.int .i64 (P : Int), .int .i64 (Q : Int), .int .i64 (G : Int), .int .i64 (H : Int)], .int .i64 (x : Int), .int .i64 (f : Int), .slice o n c] w fun e w' => e = .returned (.int .i64 (d : Int)) ∧ Below w.heap.size w w')) (w : World) (R0 : Hid (YRow w o l)) :
    Calls Try.prog 8 #[.agg #[.int .i64 (P : Int), .int .i64 (Q : Int), .int .i64 (G : Int), .int .i64 (H : Int)], .int .i64 (x : Int), .slice o n c, .agg #[.int .i64 (f : Int), .int .i64 (a : Int), .int .i64 (z : Int)]] w fun e w' => e = .returned (.bool true) ∧ Below w.heap.size w w' := by
  have K := hid (Gs.new w (P : Int) (Q : Int) (G : Int) (H : Int) #[.int .i64 (f : Int), .int .i64 (a : Int), .int .i64 (z : Int)])
  obtain ⟨c0, c1, c2, c3⟩ := K.out.1.cells
  obtain ⟨t0, t1, t2, _⟩ := box_three K.out.2
  have hn' : ¬ (4088 : Int) < (n : Int) := by omega
  go_enter Try.func8, Try.ntmps8
  go_wp2_with (first
    | (go_at_call 20; refine (cL.out _ (yb' R0.out K.out.1.2)).mono ?_; clear cL; rintro e w1 ⟨rfl, hB1⟩; have K1 := hid (K.out.below hB1); obtain ⟨d0, d1, d2, d3⟩ := K1.out.1.cells; obtain ⟨u0, u1, u2, _⟩ := box_three K1.out.2; clear hB1)
    | (go_at_call 13; refine (cK _).mono ?_; clear cK; rintro e w1 ⟨rfl, hB1⟩; have K2 := hid (K1.out.below hB1); obtain ⟨e0, e1, e2, e3⟩ := K2.out.1.cells; obtain ⟨v0, v1, v2, _⟩ := box_three K2.out.2; clear hB1; have KD := hid K2.out.drew))
  go_region_held3 (fun w' => w'.cell? ⟨w.heap.size, 0, none⟩ = some (.int .i64 (P : Int)) ∧ w'.cell? ⟨w.heap.size, 1, none⟩ = some (.int .i64 (Q : Int)) ∧ w'.cell? ⟨w.heap.size, 2, none⟩ = some (.int .i64 (G : Int)) ∧ w'.cell? ⟨w.heap.size, 3, none⟩ = some (.int .i64 (H : Int)) ∧ w'.cell? ⟨w.heap.size + 1, 0, none⟩ = some (.int .i64 (f : Int)) ∧ w'.cell? ⟨w.heap.size + 1, 1, none⟩ = some (.int .i64 (a : Int)) ∧ w'.cell? ⟨w.heap.size + 1, 2, none⟩ = some (.int .i64 (z : Int))) (first | exact ⟨e0, e1, e2, e3, v0, v1, v2⟩ | exact ⟨f0, f1, f2, f3, s0, s1, s2⟩ | exact ⟨g0, g1, g2, g3, q0, q1, q2⟩)
    (first
      | (go_at_call 14; refine (cR _).mono ?_; rintro e w3 ⟨rfl, hB3⟩; have K3 := hid (KD.out.below hB3); obtain ⟨f0, f1, f2, f3⟩ := K3.out.1.cells; obtain ⟨s0, s1, s2, _⟩ := box_three K3.out.2; clear hB3)
      | (go_at_call 19; refine (cT.out _ (yb' R0.out K3.out.1.2)).mono ?_; rintro e w4 ⟨rfl, hB4⟩; have K4 := hid (K3.out.below hB4); obtain ⟨g0, g1, g2, g3⟩ := K4.out.1.cells; obtain ⟨q0, q1, q2, _⟩ := box_three K4.out.2; clear hB4))
  all_goals
    go_wp2
    go_ret
    exact ⟨by simp, K4.out.1.2⟩

theorem walk (P Q G H : Int) (wP : (Lit.int .i64 P).wf = true) (wQ : (Lit.int .i64 Q).wf = true) (wG : (Lit.int .i64 G).wf = true) (wH : (Lit.int .i64 H).wf = true) (x : Int) (o : Option Addr) (c : Nat) (l : List Nat) (hb : ∀ b ∈ l, b < 256) (hc : l.length ≤ c) (hm : l.length ≤ 9223372036854775807) (f a z : Int) (wf : (Lit.int .i64 f).wf = true) (wa : (Lit.int .i64 a).wf = true) (wz : (Lit.int .i64 z).wf = true) (w : World) (r : YRow w o l) :
    Calls Try.prog 8 #[.agg #[.int .i64 P, .int .i64 Q, .int .i64 G, .int .i64 H], .int .i64 x, .slice o l.length c, .agg #[.int .i64 f, .int .i64 a, .int .i64 z]] w fun e w' => e = .returned (.bool true) ∧ Below w.heap.size w w' := by
  by_cases h : aC P Q G H [a, z] [x, f] = 0
  · obtain ⟨p, q, g, k, rfl, rfl, rfl, rfl, hG, h1, h2⟩ := aC_zero h
    obtain ⟨a, rfl, ha⟩ := h1 a (by simp)
    obtain ⟨z, rfl, hz⟩ := h1 z (by simp)
    obtain ⟨x, rfl, hx⟩ := h2 x (by simp)
    obtain ⟨f, rfl, hf⟩ := h2 f (by simp)
    by_cases hl : l.length ≤ 4088
    · have p3 := hG.p3
      have pb := hG.big
      have ql := hG.qlt
      have q2 := hG.q2
      have xl := hx.2.1
      have fl := hf.2.1
      have cK := fun w => sd1 (p : Int) (q : Int) (g : Int) (k : Int) (x : Int) (f : Int) (a : Int) (z : Int) w w.heap.size rfl
      rw [h] at cK
      by_cases hfit : f = fst p q g x a z
      · refine walkY p q g k x f a z (askd q f x l) (decide (a = askd q f x l)) ?_ o l.length c l hl (hid fun w r => ?_) cK (fun w => right_any p (q : Int) g (k : Int) x f a z (by omega) pb fl (by omega) (by omega) true (by rw [fst_iff hG.g hx ha fl]; simp [← hfit]) w) (hid fun w r => textAsks_any p q g k f x (by omega) (by omega) (by omega) (by omega) o c l hl hb w r) w (hid r)
        · by_cases e : a = askd q f x l
          · rw [decide_eq_true e]; exact i64_eq e
          · rw [decide_eq_false e]; exact i64_ne e
        · have := Verify_yes p q g k x f a z o c l hG hx hf ha hz hl hb true (decide (a = askd q f x l)) (by simp [← hfit]) (by rw [decide_eq_true_iff]) w r
          rwa [Bool.true_and] at this
      · refine walkN p q g k x f a z o l.length c l hl (hid fun w r => ?_) cK (fun w => right_any p (q : Int) g (k : Int) x f a z (by omega) pb fl (by omega) (by omega) false (by rw [fst_iff hG.g hx ha fl]; simp [hfit]) w) w (hid r)
        have := Verify_yes p q g k x f a z o c l hG hx hf ha hz hl hb false (decide (a = askd q f x l)) (by simp [hfit]) (by rw [decide_eq_true_iff]) w r
        rwa [Bool.false_and] at this
    · exact walkL p q g k x f a z o l.length c hG hx hf ha hz (by omega) hm w
  · exact walkF P Q G H x f a z o l.length c h w

set_option maxRecDepth 100000 in
theorem lifted (os : Os) (started : os.Started) (H : Type) (enc : TypeId × Value → H) :
    ReturnsInHanded {} Try.checked os 8 .any (Rows.talkVerifiesSpec.pre6 enc Try.prog Try.f8 Rows.talkVerifiesRow.domain false) (Rows.talkVerifiesSpec.post enc Try.prog Try.f8 false true false false) := by
  refine returnsInHanded_of_change (C := Try.checked) own started (by kernel_rfl) Try.func8
    (ChangeSpec.witness6 (enc := enc) (C := Try.checked) false ⟨#[], #[.agg #[.int .i64 0, .int .i64 0, .int .i64 0, .int .i64 0], .int .i64 0, .slice none 0 0, .agg #[.int .i64 0, .int .i64 0, .int .i64 0]], []⟩ 8 (by kernel_rfl) (by kernel_rfl) (by kernel_rfl) (by kernel_rfl)) ?_
  intro W base args ds gs before hval0 hW hcnd _
  have hval : ∀ (j : Nat) t v, Try.f8.params[j]? = some t → args[j]? = some v → Value.okWide Try.prog W .any base t v := hval0
  have hW' := hW
  obtain ⟨p, q, hA0, hV, rfl, _, _⟩ := hW
  have hA : DataW.TrodAll enc Try.prog W 0 (fun _ => true) true Try.f8.params.toList args.toList ds p := hA0
  rw [Try.params8] at hA hval
  obtain ⟨v0, v1, v2, v3, d0, d1, d2, d3, p0, p1, p2, p3, rfl, rfl, rfl, h0, h1, h2, h3⟩ := trodAll_four hA
  obtain ⟨rfl, rfl⟩ := trodVars_none hV
  have hsv0 := hval 0 23 v0 rfl rfl
  obtain ⟨a1, rfl, rfl, rfl, w1⟩ := open_int Try.underlying2 (hval 1 2 v1 rfl rfl) h1
  have hsl2 := okWide_slice Try.underlying42 (hval 2 42 v2 rfl rfl)
  have hsv3 := hval 3 25 v3 rfl rfl
  clear hA0 hval0
  simp only [List.append_nil] at hW'
  have hlt0 : ∀ x ∈ p0, x.block < W.heap.size := fun x hx => by simpa using hW'.lt x (by simp [hx])
  have harg0 : ∀ (W' : World), Below W.heap.size W W' → DataW.Trod enc Try.prog W' 0 (fun b => decide (b < W.heap.size)) true 23 v0 d0 p0 :=
    fun W' hn => Below.trod laidOut (by kernel_rfl) (of_decide_eq_true (by kernel_rfl)) h0 hn hlt0
  obtain ⟨x0a, x0b, x0c, x0d, rfl, w0a, w0b, w0c, w0d⟩ := struct4_view Try.underlying23 cells_G rfl rfl rfl rfl ⟨cells2, Try.underlying2⟩ ⟨cells2, Try.underlying2⟩ ⟨cells2, Try.underlying2⟩ ⟨cells2, Try.underlying2⟩ h0 hsv0
  have hlt2 : ∀ x ∈ p2, x.block < W.heap.size := fun x hx => by simpa using hW'.lt x (by simp [hx])
  have harg2 : ∀ (W' : World), Below W.heap.size W W' → DataW.Trod enc Try.prog W' 0 (fun b => decide (b < W.heap.size)) true 42 v2 d2 p2 :=
    fun W' hn => Below.trod laidOut (by kernel_rfl) (of_decide_eq_true (by kernel_rfl)) h2 hn hlt2
  obtain ⟨o2, c2, l2, rfl, r2, b2, k2, m2⟩ := bytes_view Try.underlying42 cells8 Try.underlying5 h2 hsl2
  have hlt3 : ∀ x ∈ p3, x.block < W.heap.size := fun x hx => by simpa using hW'.lt x (by simp [hx])
  have harg3 : ∀ (W' : World), Below W.heap.size W W' → DataW.Trod enc Try.prog W' 0 (fun b => decide (b < W.heap.size)) true 25 v3 d3 p3 :=
    fun W' hn => Below.trod laidOut (by kernel_rfl) (of_decide_eq_true (by kernel_rfl)) h3 hn hlt3
  obtain ⟨x3a, x3b, x3c, rfl, w3a, w3b, w3c⟩ := struct3_view Try.underlying25 cells_T rfl rfl rfl ⟨cells2, Try.underlying2⟩ ⟨cells2, Try.underlying2⟩ ⟨cells2, Try.underlying2⟩ h3 hsv3
  refine (walk x0a x0b x0c x0d w0a w0b w0c w0d a1 o2 c2 l2 b2 k2 m2 x3a x3b x3c w3a w3b w3c W r2).mono fun e W' ⟨he, hg⟩ => ?_
  subst he
  refine ⟨_, rfl, _, _, _, [], p0 ++ (([] : List MemPlace) ++ (p2 ++ (p3))), [], hW', ?_, ?_, rfl, hg.frame _, fun h => by cases h⟩
  · exact trodAll_mk1 (shut_bool Try.underlying4 true)
  · exact trodAll_mk4 (harg0 _ hg) (shut_int Try.underlying2 w1) (harg2 _ hg) (harg3 _ hg)

theorem over : Rows.talkVerifiesRow.holds Try.pinned (OpenSpec.ofChange Rows.talkVerifiesSpec) :=
  OpenClaim.holds_of_wide 8 Try.f8 rfl rfl rfl rfl rfl rfl rfl ⟨rfl, rfl, rfl, rfl, rfl⟩ rfl rfl rfl rfl rfl (by kernel_rfl) Try.func8 (by kernel_rfl)
    (of_decide_eq_true (by kernel_rfl)) (by unfold Func.isWrapper; first | (rw [if_pos (by decide +kernel)]; kernel_rfl) | (rw [if_neg (by decide +kernel)]; exact ⟨rfl, rfl⟩))
    (fun os started H enc _ => lifted os started H enc)

/-- ████ THE STATEMENT ████ -/
theorem proved : Rows.TalkVerifiesSaid :=
  over

end Go.Proofs.Ytpflkihagebmlaa.talkVerifies
