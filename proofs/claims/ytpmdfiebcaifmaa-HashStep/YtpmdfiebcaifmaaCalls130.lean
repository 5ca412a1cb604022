/-
  Where two texts clash: package hash's Clash.
-/
import Derived.Test.YtpmdfiebcaifmaaCalls129
namespace Go.Proofs.Ytpmdfiebcaifmaa.Calls130
set_option linter.unusedVariables false
open Go.ChangeShapes Go.WideShapes Go.ChangeAt Go.RowKit Go.Deep Go.Proofs.Ytpmdfiebcaifmaa.Base Go.Proofs.Ytpmdfiebcaifmaa.Base2 Go.Proofs.Ytpmdfiebcaifmaa.Base7 Go.Proofs.Ytpmdfiebcaifmaa.Base8 Go.Proofs.Ytpmdfiebcaifmaa.Num55 Go.Proofs.Ytpmdfiebcaifmaa.Calls125 Go.Proofs.Ytpmdfiebcaifmaa.Calls126 Go.Proofs.Ytpmdfiebcaifmaa.Calls127 Go.Proofs.Ytpmdfiebcaifmaa.Calls128 Go.Proofs.Ytpmdfiebcaifmaa.Calls129

theorem ms_mx (P : List Nat) (k : Nat) (h : k < P.length) : mg (ms P P.length) ((ms P P.length).length - 1 - k) = mx P k := by
  rw [ms_length, ms_get P P.length _ (by omega)]; rfl

/-- The two zero boxes that the call begins with. -/
def zb (w : World) : World := (w.alloc (.cells #[.int .u32 0, .int .u8 0] 33)).alloc (.cells #[.int .u32 0, .int .u8 0] 33)

theorem zb_below (w : World) : Below w.heap.size w (zb w) := (((Below.refl _ w).alloc (Nat.le_refl _) (.cells #[.int .u32 0, .int .u8 0] 33)).alloc (by simp) (.cells #[.int .u32 0, .int .u8 0] 33))

theorem zb_box0 (w : World) : BoxC (zb w) w.heap.size 33 #[.int .u32 0, .int .u8 0] := (BoxC.new w 33 #[.int .u32 0, .int .u8 0]).alloc _

theorem zb_box1 (w : World) : BoxC (zb w) (w.heap.size + 1) 33 #[.int .u32 0, .int .u8 0] := by
  have := BoxC.new (w.alloc (.cells #[.int .u32 0, .int .u8 0] 33)) 33 #[.int .u32 0, .int .u8 0]
  rw [World.size_alloc] at this
  exact this

/-- Sum, whatever the length: the code is 1 where it is too long. -/
theorem Sum_code (o : Option Addr) (c : Nat) (l : List Nat) (hl : Byt l) (w : World) (r : YRow w o l) :
    ∃ s k : Int, (k = 0 ∨ k = 1) ∧ (k = 1 ↔ 4096 < l.length) ∧ ∀ w', Below w.heap.size w w' → Calls Try.prog 11 #[.slice o l.length c] w' fun e w2 => e = .returned (.tuple #[.int .u32 s, .int .i64 k]) ∧ Below w'.heap.size w' w2 := by
  by_cases h : 4096 < l.length
  · exact ⟨0, 1, .inr rfl, ⟨fun _ => h, fun _ => rfl⟩, fun w' _ => (Sum_large o l.length c h w').mono fun e w2 ⟨h1, h2⟩ => ⟨h1, by rw [h2]; exact Below.refl _ _⟩⟩
  · exact ⟨_, 0, .inl rfl, ⟨fun e => (by cases e), fun e => absurd e h⟩, fun w' hB => Sum_any o c l (by omega) hl w' (yb' r hB)⟩

set_option maxRecDepth 100000 in
set_option maxHeartbeats 1000000 in
theorem clash_far (ao bo : Option Addr) (ca cb n m : Nat) (s t k q : Int) (hkq : ¬ (k = 0 ∧ q = 0)) (w : World)
    (cA : Hid (∀ w', Below w.heap.size w w' → Calls Try.prog 11 #[.slice ao n ca] w' fun e w2 => e = .returned (.tuple #[.int .u32 s, .int .i64 k]) ∧ Below w'.heap.size w' w2))
    (cB : Hid (∀ w', Below w.heap.size w w' → Calls Try.prog 11 #[.slice bo m cb] w' fun e w2 => e = .returned (.tuple #[.int .u32 t, .int .i64 q]) ∧ Below w'.heap.size w' w2)) :
    Calls Try.prog 13 #[.slice ao n ca, .slice bo m cb] w fun e w' =>
      e = .returned (.tuple #[.agg #[.int .u32 0, .int .u8 0], .agg #[.int .u32 0, .int .u8 0], .int .i64 1]) ∧ Below w.heap.size w w' := by
  have hB : Hid (Below w.heap.size w ((w.alloc (.cells #[.int .u32 0, .int .u8 0] 33)).alloc (.cells #[.int .u32 0, .int .u8 0] 33))) := zb_below w
  have hX0 : Hid (BoxC ((w.alloc (.cells #[.int .u32 0, .int .u8 0] 33)).alloc (.cells #[.int .u32 0, .int .u8 0] 33)) w.heap.size 33 #[.int .u32 0, .int .u8 0]) := zb_box0 w
  have hX1 : Hid (BoxC ((w.alloc (.cells #[.int .u32 0, .int .u8 0] 33)).alloc (.cells #[.int .u32 0, .int .u8 0] 33)) (w.heap.size + 1) 33 #[.int .u32 0, .int .u8 0]) := zb_box1 w
  by_cases hk : k = 0
  · have hq : ¬ q = 0 := fun e => hkq ⟨hk, e⟩
    have hq2 : (q == 0) = false := by simpa using hq
    have hq3 : (q != 0) = true := by simpa using hq
    subst hk
    clear hkq
    go_enter Try.func13, Try.ntmps13
    go_wp2_with (first
    | (go_at_call 11; refine (cA.out _ hB.out).mono ?_; rintro e W1 ⟨rfl, hB1⟩; have HB1 := hid (below_trans hB.out hB1); have HX0 := hid (hX0.out.below hB1 hX0.out.lt); have HX1 := hid (hX1.out.below hB1 hX1.out.lt); clear hB1 cA)
    | (go_at_call 11; refine (cB.out _ HB1.out).mono ?_; rintro e W2 ⟨rfl, hB1⟩; have HB2 := hid (below_trans HB1.out hB1); have HY0 := hid (HX0.out.below hB1 HX0.out.lt); have HY1 := hid (HX1.out.below hB1 HX1.out.lt); have c00 := HY0.out.cell 0; have c01 := HY0.out.cell 1; have c10 := HY1.out.cell 0; have c11 := HY1.out.cell 1; have f00 := HY0.out.frozen 0; have f01 := HY0.out.frozen 1; have f10 := HY1.out.frozen 0; have f11 := HY1.out.frozen 1; clear hB1 cB))
    have r00 := HY0.out.set2 (.int .u32 0) (.int .u8 0)
    have HZ0 := hid ((r00.other (B' := w.heap.size + 1) (by omega) 0 (.int .u32 0)).other (B' := w.heap.size + 1) (by omega) 1 (.int .u8 0))
    have HZ1 := hid (((HY1.out.other (B' := w.heap.size) (by omega) 0 (.int .u32 0)).other (B' := w.heap.size) (by omega) 1 (.int .u8 0)).set2 (.int .u32 0) (.int .u8 0))
    have z00 := HZ0.out.cell 0
    have z01 := HZ0.out.cell 1
    have z10 := HZ1.out.cell 0
    have z11 := HZ1.out.cell 1
    simp at z00 z01 z10 z11
    have hF := (((HB2.out.setCell (p := ⟨w.heap.size, 0, none⟩) (by simp) (.int .u32 0)).setCell (p := ⟨w.heap.size, 1, none⟩) (by simp) (.int .u8 0)).setCell (p := ⟨w.heap.size + 1, 0, none⟩) (by simp) (.int .u32 0)).setCell (p := ⟨w.heap.size + 1, 1, none⟩) (by simp) (.int .u8 0)
    exact bodyPost_ret (v := .tuple #[.agg #[.int .u32 0, .int .u8 0], .agg #[.int .u32 0, .int .u8 0], .int .i64 1]) (by simp [results, Try.results13, go_sem, z00, z01, z10, z11]) rfl ⟨rfl, hF⟩
  · have hq2 : (k == 0) = false := by simpa using hk
    have hq3 : (k != 0) = true := by simpa using hk
    clear hkq
    go_enter Try.func13, Try.ntmps13
    go_wp2_with (first
    | (go_at_call 11; refine (cA.out _ hB.out).mono ?_; rintro e W1 ⟨rfl, hB1⟩; have HB1 := hid (below_trans hB.out hB1); have HX0 := hid (hX0.out.below hB1 hX0.out.lt); have HX1 := hid (hX1.out.below hB1 hX1.out.lt); clear hB1 cA)
    | (go_at_call 11; refine (cB.out _ HB1.out).mono ?_; rintro e W2 ⟨rfl, hB1⟩; have HB2 := hid (below_trans HB1.out hB1); have HY0 := hid (HX0.out.below hB1 HX0.out.lt); have HY1 := hid (HX1.out.below hB1 HX1.out.lt); have c00 := HY0.out.cell 0; have c01 := HY0.out.cell 1; have c10 := HY1.out.cell 0; have c11 := HY1.out.cell 1; have f00 := HY0.out.frozen 0; have f01 := HY0.out.frozen 1; have f10 := HY1.out.frozen 0; have f11 := HY1.out.frozen 1; clear hB1 cB))
    have r00 := HY0.out.set2 (.int .u32 0) (.int .u8 0)
    have HZ0 := hid ((r00.other (B' := w.heap.size + 1) (by omega) 0 (.int .u32 0)).other (B' := w.heap.size + 1) (by omega) 1 (.int .u8 0))
    have HZ1 := hid (((HY1.out.other (B' := w.heap.size) (by omega) 0 (.int .u32 0)).other (B' := w.heap.size) (by omega) 1 (.int .u8 0)).set2 (.int .u32 0) (.int .u8 0))
    have z00 := HZ0.out.cell 0
    have z01 := HZ0.out.cell 1
    have z10 := HZ1.out.cell 0
    have z11 := HZ1.out.cell 1
    simp at z00 z01 z10 z11
    have hF := (((HB2.out.setCell (p := ⟨w.heap.size, 0, none⟩) (by simp) (.int .u32 0)).setCell (p := ⟨w.heap.size, 1, none⟩) (by simp) (.int .u8 0)).setCell (p := ⟨w.heap.size + 1, 0, none⟩) (by simp) (.int .u32 0)).setCell (p := ⟨w.heap.size + 1, 1, none⟩) (by simp) (.int .u8 0)
    exact bodyPost_ret (v := .tuple #[.agg #[.int .u32 0, .int .u8 0], .agg #[.int .u32 0, .int .u8 0], .int .i64 1]) (by simp [results, Try.results13, go_sem, z00, z01, z10, z11]) rfl ⟨rfl, hF⟩

theorem Clash_large (ao bo : Option Addr) (ca cb : Nat) (a b : List Nat) (h : 4096 < a.length ∨ 4096 < b.length) (ha : Byt a) (hb : Byt b) (w : World) (ra : YRow w ao a) (rb : YRow w bo b) :
    Calls Try.prog 13 #[.slice ao a.length ca, .slice bo b.length cb] w fun e w' =>
      e = .returned (.tuple #[.agg #[.int .u32 0, .int .u8 0], .agg #[.int .u32 0, .int .u8 0], .int .i64 1]) ∧ Below w.heap.size w w' := by
  obtain ⟨s, k, hk, hk1, cA⟩ := Sum_code ao ca a ha w ra
  obtain ⟨t, q, hq, hq1, cB⟩ := Sum_code bo cb b hb w rb
  refine clash_far ao bo ca cb a.length b.length s t k q (fun ⟨e1, e2⟩ => ?_) w (hid cA) (hid cB)
  rcases h with h | h
  · have := hk1.2 h; omega
  · have := hq1.2 h; omega

set_option maxRecDepth 100000 in
set_option maxHeartbeats 1000000 in
theorem Clash_same (ao bo : Option Addr) (ca cb : Nat) (a b : List Nat) (la : a.length ≤ 4096) (lb : b.length ≤ 4096) (ha : Byt a) (hb : Byt b) (he : a = b) (w : World) (ra : YRow w ao a) (rb : YRow w bo b) :
    Calls Try.prog 13 #[.slice ao a.length ca, .slice bo b.length cb] w fun e w' =>
      e = .returned (.tuple #[.agg #[.int .u32 0, .int .u8 0], .agg #[.int .u32 0, .int .u8 0], .int .i64 3]) ∧ Below w.heap.size w w' := by
  have hB : Hid (Below w.heap.size w ((w.alloc (.cells #[.int .u32 0, .int .u8 0] 33)).alloc (.cells #[.int .u32 0, .int .u8 0] 33))) := zb_below w
  have hX0 : Hid (BoxC ((w.alloc (.cells #[.int .u32 0, .int .u8 0] 33)).alloc (.cells #[.int .u32 0, .int .u8 0] 33)) w.heap.size 33 #[.int .u32 0, .int .u8 0]) := zb_box0 w
  have hX1 : Hid (BoxC ((w.alloc (.cells #[.int .u32 0, .int .u8 0] 33)).alloc (.cells #[.int .u32 0, .int .u8 0] 33)) (w.heap.size + 1) 33 #[.int .u32 0, .int .u8 0]) := zb_box1 w
  have cA := hid (fun (w' : World) (h : Below w.heap.size w w') => Sum_any ao ca a la ha w' (yb' ra h))
  have cB := hid (fun (w' : World) (h : Below w.heap.size w w') => Sum_any bo cb b lb hb w' (yb' rb h))
  have cE := hid (fun (w' : World) (h : Below w.heap.size w w') => Equal_any ao bo ca cb a b ha hb w' (yb' ra h) (yb' rb h))
  rw [decide_eq_true he] at cE
  clear ra rb he la lb ha hb
  generalize a.length = n at *
  generalize b.length = m at *
  go_enter Try.func13, Try.ntmps13
  go_wp2_with (first
    | (go_at_call 11; refine (cA.out _ hB.out).mono ?_; rintro e W1 ⟨rfl, hB1⟩; have HB1 := hid (below_trans hB.out hB1); have HX0 := hid (hX0.out.below hB1 hX0.out.lt); have HX1 := hid (hX1.out.below hB1 hX1.out.lt); clear hB1 cA)
    | (go_at_call 11; refine (cB.out _ HB1.out).mono ?_; rintro e W2 ⟨rfl, hB1⟩; have HB2 := hid (below_trans HB1.out hB1); have HY0 := hid (HX0.out.below hB1 HX0.out.lt); have HY1 := hid (HX1.out.below hB1 HX1.out.lt); have c00 := HY0.out.cell 0; have c01 := HY0.out.cell 1; have c10 := HY1.out.cell 0; have c11 := HY1.out.cell 1; have f00 := HY0.out.frozen 0; have f01 := HY0.out.frozen 1; have f10 := HY1.out.frozen 0; have f11 := HY1.out.frozen 1; clear hB1 cB)
    | (go_at_call 19; refine (cE.out _ HB2.out).mono ?_; rintro e w' ⟨rfl, hw⟩; subst w'; clear cE))
  have r00 := HY0.out.set2 (.int .u32 0) (.int .u8 0)
  have HZ0 := hid ((r00.other (B' := w.heap.size + 1) (by omega) 0 (.int .u32 0)).other (B' := w.heap.size + 1) (by omega) 1 (.int .u8 0))
  have HZ1 := hid (((HY1.out.other (B' := w.heap.size) (by omega) 0 (.int .u32 0)).other (B' := w.heap.size) (by omega) 1 (.int .u8 0)).set2 (.int .u32 0) (.int .u8 0))
  have z00 := HZ0.out.cell 0
  have z01 := HZ0.out.cell 1
  have z10 := HZ1.out.cell 0
  have z11 := HZ1.out.cell 1
  simp at z00 z01 z10 z11
  have hF := (((HB2.out.setCell (p := ⟨w.heap.size, 0, none⟩) (by simp) (.int .u32 0)).setCell (p := ⟨w.heap.size, 1, none⟩) (by simp) (.int .u8 0)).setCell (p := ⟨w.heap.size + 1, 0, none⟩) (by simp) (.int .u32 0)).setCell (p := ⟨w.heap.size + 1, 1, none⟩) (by simp) (.int .u8 0)
  exact bodyPost_ret (v := .tuple #[.agg #[.int .u32 0, .int .u8 0], .agg #[.int .u32 0, .int .u8 0], .int .i64 3]) (by simp [results, Try.results13, go_sem, z00, z01, z10, z11]) rfl ⟨rfl, hF⟩

set_option maxRecDepth 100000 in
set_option maxHeartbeats 1000000 in
theorem Clash_none (ao bo : Option Addr) (ca cb : Nat) (a b : List Nat) (la : a.length ≤ 4096) (lb : b.length ≤ 4096) (ha : Byt a) (hb : Byt b) (he : a ≠ b) (hs : sum a ≠ sum b) (w : World) (ra : YRow w ao a) (rb : YRow w bo b) :
    Calls Try.prog 13 #[.slice ao a.length ca, .slice bo b.length cb] w fun e w' =>
      e = .returned (.tuple #[.agg #[.int .u32 0, .int .u8 0], .agg #[.int .u32 0, .int .u8 0], .int .i64 5]) ∧ Below w.heap.size w w' := by
  have hB : Hid (Below w.heap.size w ((w.alloc (.cells #[.int .u32 0, .int .u8 0] 33)).alloc (.cells #[.int .u32 0, .int .u8 0] 33))) := zb_below w
  have hX0 : Hid (BoxC ((w.alloc (.cells #[.int .u32 0, .int .u8 0] 33)).alloc (.cells #[.int .u32 0, .int .u8 0] 33)) w.heap.size 33 #[.int .u32 0, .int .u8 0]) := zb_box0 w
  have hX1 : Hid (BoxC ((w.alloc (.cells #[.int .u32 0, .int .u8 0] 33)).alloc (.cells #[.int .u32 0, .int .u8 0] 33)) (w.heap.size + 1) 33 #[.int .u32 0, .int .u8 0]) := zb_box1 w
  have cA := hid (fun (w' : World) (h : Below w.heap.size w w') => Sum_any ao ca a la ha w' (yb' ra h))
  have cB := hid (fun (w' : World) (h : Below w.heap.size w w') => Sum_any bo cb b lb hb w' (yb' rb h))
  have cE := hid (fun (w' : World) (h : Below w.heap.size w w') => Equal_any ao bo ca cb a b ha hb w' (yb' ra h) (yb' rb h))
  rw [decide_eq_false he] at cE
  have h1 : ((sum a : Nat) : Int) ≠ ((sum b : Nat) : Int) := by omega
  have h2 : ¬ ((sum a : Nat) : Int) = ((sum b : Nat) : Int) := h1
  have h3 : (((sum a : Nat) : Int) != ((sum b : Nat) : Int)) = true := by simpa using h1
  clear ra rb he la lb ha hb h1
  generalize sum a = x at *
  generalize sum b = y at *
  generalize a.length = n at *
  generalize b.length = m at *
  go_enter Try.func13, Try.ntmps13
  go_wp2_with (first
    | (go_at_call 11; refine (cA.out _ hB.out).mono ?_; rintro e W1 ⟨rfl, hB1⟩; have HB1 := hid (below_trans hB.out hB1); have HX0 := hid (hX0.out.below hB1 hX0.out.lt); have HX1 := hid (hX1.out.below hB1 hX1.out.lt); clear hB1 cA)
    | (go_at_call 11; refine (cB.out _ HB1.out).mono ?_; rintro e W2 ⟨rfl, hB1⟩; have HB2 := hid (below_trans HB1.out hB1); have HY0 := hid (HX0.out.below hB1 HX0.out.lt); have HY1 := hid (HX1.out.below hB1 HX1.out.lt); have c00 := HY0.out.cell 0; have c01 := HY0.out.cell 1; have c10 := HY1.out.cell 0; have c11 := HY1.out.cell 1; have f00 := HY0.out.frozen 0; have f01 := HY0.out.frozen 1; have f10 := HY1.out.frozen 0; have f11 := HY1.out.frozen 1; clear hB1 cB)
    | (go_at_call 19; refine (cE.out _ HB2.out).mono ?_; rintro e w' ⟨rfl, hw⟩; subst w'; clear cE))
  have r00 := HY0.out.set2 (.int .u32 0) (.int .u8 0)
  have HZ0 := hid ((r00.other (B' := w.heap.size + 1) (by omega) 0 (.int .u32 0)).other (B' := w.heap.size + 1) (by omega) 1 (.int .u8 0))
  have HZ1 := hid (((HY1.out.other (B' := w.heap.size) (by omega) 0 (.int .u32 0)).other (B' := w.heap.size) (by omega) 1 (.int .u8 0)).set2 (.int .u32 0) (.int .u8 0))
  have z00 := HZ0.out.cell 0
  have z01 := HZ0.out.cell 1
  have z10 := HZ1.out.cell 0
  have z11 := HZ1.out.cell 1
  simp at z00 z01 z10 z11
  have hF := (((HB2.out.setCell (p := ⟨w.heap.size, 0, none⟩) (by simp) (.int .u32 0)).setCell (p := ⟨w.heap.size, 1, none⟩) (by simp) (.int .u8 0)).setCell (p := ⟨w.heap.size + 1, 0, none⟩) (by simp) (.int .u32 0)).setCell (p := ⟨w.heap.size + 1, 1, none⟩) (by simp) (.int .u8 0)
  exact bodyPost_ret (v := .tuple #[.agg #[.int .u32 0, .int .u8 0], .agg #[.int .u32 0, .int .u8 0], .int .i64 5]) (by simp [results, Try.results13, go_sem, z00, z01, z10, z11]) rfl ⟨rfl, hF⟩

set_option maxRecDepth 100000 in
set_option maxHeartbeats 1000000 in
theorem Clash_yes (ao bo : Option Addr) (ca cb : Nat) (a b : List Nat) (la : a.length ≤ 4096) (lb : b.length ≤ 4096) (ha : Byt a) (hb : Byt b) (he : a ≠ b) (hs : sum a = sum b) (k x y x' y' : Nat) (hk : Clash (pad a) (pad b) k) (hxa : mx (pad a) k = (x, y)) (hxb : mx (pad b) k = (x', y')) (w : World) (ra : YRow w ao a) (rb : YRow w bo b) :
    Calls Try.prog 13 #[.slice ao a.length ca, .slice bo b.length cb] w fun e w' =>
      e = .returned (.tuple #[.agg #[.int .u32 (x : Int), .int .u8 (y : Int)], .agg #[.int .u32 (x' : Int), .int .u8 (y' : Int)], .int .i64 0]) ∧ Below w.heap.size w w' := by
  have hB : Hid (Below w.heap.size w ((w.alloc (.cells #[.int .u32 0, .int .u8 0] 33)).alloc (.cells #[.int .u32 0, .int .u8 0] 33))) := zb_below w
  have hX0 : Hid (BoxC ((w.alloc (.cells #[.int .u32 0, .int .u8 0] 33)).alloc (.cells #[.int .u32 0, .int .u8 0] 33)) w.heap.size 33 #[.int .u32 0, .int .u8 0]) := zb_box0 w
  have hX1 : Hid (BoxC ((w.alloc (.cells #[.int .u32 0, .int .u8 0] 33)).alloc (.cells #[.int .u32 0, .int .u8 0] 33)) (w.heap.size + 1) 33 #[.int .u32 0, .int .u8 0]) := zb_box1 w
  have cA := hid (fun (w' : World) (h : Below w.heap.size w w') => Sum_any ao ca a la ha w' (yb' ra h))
  have cB := hid (fun (w' : World) (h : Below w.heap.size w w') => Sum_any bo cb b lb hb w' (yb' rb h))
  have cE := hid (fun (w' : World) (h : Below w.heap.size w w') => Equal_any ao bo ca cb a b ha hb w' (yb' ra h) (yb' rb h))
  rw [decide_eq_false he] at cE
  rw [← hs] at cB
  have cM := hid (fun (w' : World) (h : Below w.heap.size w w') => mixes_any ao ca a la ha w' (yb' ra h))
  have cN := hid (fun (w' : World) (h : Below w.heap.size w w') => mixes_any bo cb b lb hb w' (yb' rb h))
  have lA := pad_length a
  have lB := pad_length b
  have cL := hid (fun (c d : Option Addr) (e f : Nat) (w' : World) (rc : MRow w' c (ms (pad a) (pad a).length)) (rd : MRow w' d (ms (pad b) (pad b).length)) =>
    lastApart_any c d e f (ms (pad a) (pad a).length) (ms (pad b) (pad b).length) k x y x' y' (by rw [ms_length]; omega) (by rw [ms_length]; omega) (by rw [ms_length]; exact hk.1) (by rw [ms_length]; exact hk.2.1)
      (by rw [ms_mx _ _ hk.1]; exact hxa) (by rw [ms_mx _ _ hk.2.1]; exact hxb) (by rw [← hxa, ← hxb]; exact hk.2.2.1) (fun j hj => by have h1 := hk.1; have h2 := hk.2.1; rw [ms_mx _ _ (by omega), ms_mx _ _ (by omega)]; exact hk.2.2.2 j hj) w' rc rd)
  unfold RetM at cM cN
  clear ra rb he la lb ha hb hk hxa hxb hs lA lB
  generalize ms (pad a) (pad a).length = M at *
  generalize ms (pad b) (pad b).length = N at *
  generalize sum a = s at *
  generalize a.length = n at *
  generalize b.length = m at *
  generalize M.length = p at *
  generalize N.length = q at *
  go_enter Try.func13, Try.ntmps13
  go_wp2_with (first
    | (go_at_call 11; refine (cA.out _ hB.out).mono ?_; rintro e W1 ⟨rfl, hB1⟩; have HB1 := hid (below_trans hB.out hB1); have HX0 := hid (hX0.out.below hB1 hX0.out.lt); have HX1 := hid (hX1.out.below hB1 hX1.out.lt); clear hB1 cA)
    | (go_at_call 11; refine (cB.out _ HB1.out).mono ?_; rintro e W2 ⟨rfl, hB1⟩; have HB2 := hid (below_trans HB1.out hB1); have HY0 := hid (HX0.out.below hB1 HX0.out.lt); have HY1 := hid (HX1.out.below hB1 HX1.out.lt); have c00 := HY0.out.cell 0; have c01 := HY0.out.cell 1; have c10 := HY1.out.cell 0; have c11 := HY1.out.cell 1; have f00 := HY0.out.frozen 0; have f01 := HY0.out.frozen 1; have f10 := HY1.out.frozen 0; have f11 := HY1.out.frozen 1; clear hB1 cB)
    | (go_at_call 19; refine (cE.out _ HB2.out).mono ?_; rintro e w' ⟨rfl, hw⟩; subst w'; clear cE)
    | (go_at_call 21; refine (cM.out _ HB2.out).mono ?_; rintro e W3 ⟨⟨mo, cm, rfl, hcm, hr⟩, hB1⟩; have HR3 := hid hr; have HB3 := hid (below_trans HB2.out hB1); have HZ0 := hid (HY0.out.below hB1 HY0.out.lt); have HZ1 := hid (HY1.out.below hB1 HY1.out.lt); clear hB1 hr cM c00 c01 c10 c11 f00 f01 f10 f11)
    | (go_at_call 21; refine (cN.out _ HB3.out).mono ?_; rintro e W4 ⟨⟨no, cn, rfl, hcn, hr⟩, hB1⟩; have HR4 := hid hr; have HR3' := hid (mrow_below HR3.out hB1); have HB4 := hid (below_trans HB3.out hB1); have HV0 := hid (HZ0.out.below hB1 HZ0.out.lt); have HV1 := hid (HZ1.out.below hB1 HZ1.out.lt); clear hB1 hr cN)
    | (go_at_call 20; refine (cL.out _ _ _ _ _ HR3'.out HR4.out).mono ?_; rintro e W5 ⟨rfl, hB1⟩; have HB5 := hid (below_trans HB4.out hB1); have HU0 := hid (HV0.out.below hB1 HV0.out.lt); have HU1 := hid (HV1.out.below hB1 HV1.out.lt); clear hB1 cL))
  obtain ⟨W6, hW6⟩ : ∃ W6, (W5.alloc (.cells #[.int .u32 (x : Int), .int .u8 (y : Int)] 33)).alloc (.cells #[.int .u32 (x' : Int), .int .u8 (y' : Int)] 33) = W6 := ⟨_, rfl⟩
  have HB6 : Hid (Below w.heap.size w W6) := by
    rw [← hW6]; exact (HB5.out.alloc HB5.out.size _).alloc (by have := HB5.out.size; simp; omega) _
  have g0 : BoxC W6 W5.heap.size 33 #[.int .u32 (x : Int), .int .u8 (y : Int)] := by
    rw [← hW6]; exact (BoxC.new W5 33 #[.int .u32 (x : Int), .int .u8 (y : Int)]).alloc _
  have g1 : BoxC W6 (W5.heap.size + 1) 33 #[.int .u32 (x' : Int), .int .u8 (y' : Int)] := by
    rw [← hW6]
    have := BoxC.new (W5.alloc (.cells #[.int .u32 (x : Int), .int .u8 (y : Int)] 33)) 33 #[.int .u32 (x' : Int), .int .u8 (y' : Int)]
    rw [World.size_alloc] at this
    exact this
  have p0 : BoxC W6 w.heap.size 33 #[.int .u32 0, .int .u8 0] := by
    rw [← hW6]; exact (HU0.out.alloc _).alloc _
  have p1 : BoxC W6 (w.heap.size + 1) 33 #[.int .u32 0, .int .u8 0] := by
    rw [← hW6]; exact (HU1.out.alloc _).alloc _
  have hG0 : w.heap.size + 1 < W5.heap.size := HU1.out.lt
  rw [hW6]
  clear hW6
  obtain ⟨G, hG⟩ : ∃ G, G = W5.heap.size := ⟨_, rfl⟩
  rw [← hG] at g0 g1 hG0 ⊢
  obtain ⟨B, hBB⟩ : ∃ B, B = w.heap.size := ⟨_, rfl⟩
  have HBB := hid hBB
  rw [← hBB] at p0 p1 hG0 ⊢
  clear hG hBB
  have n1 : G ≠ B := by omega
  have n2 : G + 1 ≠ B := by omega
  have n3 : G ≠ B + 1 := by omega
  have n4 : G + 1 ≠ B + 1 := by omega
  have c00 := p0.cell 0
  have c01 := p0.cell 1
  have c10 := p1.cell 0
  have c11 := p1.cell 1
  have f00 := p0.frozen 0
  have f01 := p0.frozen 1
  have f10 := p1.frozen 0
  have f11 := p1.frozen 1
  have k00 := g0.cell 0
  have k01 := g0.cell 1
  have k10 := g1.cell 0
  have k11 := g1.cell 1
  have s1 := (g1.other (B' := B) n2 0 (.int .u32 (x : Int))).other (B' := B) n2 1 (.int .u8 (y : Int))
  have s2 := (p1.other (B' := B) (by omega) 0 (.int .u32 (x : Int))).other (B' := B) (by omega) 1 (.int .u8 (y : Int))
  have s3 := p0.set2 (.int .u32 (x : Int)) (.int .u8 (y : Int))
  have k20 := s1.cell 0
  have k21 := s1.cell 1
  have c20 := s2.cell 0
  have c21 := s2.cell 1
  have f20 := s2.frozen 0
  have f21 := s2.frozen 1
  have HZ0 := (s3.other (B' := B + 1) (by omega) 0 (.int .u32 (x' : Int))).other (B' := B + 1) (by omega) 1 (.int .u8 (y' : Int))
  have HZ1 := s2.set2 (.int .u32 (x' : Int)) (.int .u8 (y' : Int))
  have z00 := HZ0.cell 0
  have z01 := HZ0.cell 1
  have z10 := HZ1.cell 0
  have z11 := HZ1.cell 1
  simp at c00 c01 c10 c11 k00 k01 k10 k11 k20 k21 c20 c21 z00 z01 z10 z11
  have Z00 := hid z00
  have Z01 := hid z01
  have Z10 := hid z10
  have Z11 := hid z11
  have hF := hid (((((HB6.out.setCell (p := ⟨B, 0, none⟩) (by rw [HBB.out]; simp) (.int .u32 (x : Int))).setCell (p := ⟨B, 1, none⟩) (by rw [HBB.out]; simp) (.int .u8 (y : Int))).setCell (p := ⟨B + 1, 0, none⟩) (by rw [HBB.out]; simp) (.int .u32 (x' : Int))).setCell (p := ⟨B + 1, 1, none⟩) (by rw [HBB.out]; simp) (.int .u8 (y' : Int))).drew)
  clear z00 z01 z10 z11 s1 s2 s3 HZ0 HZ1 g0 g1 p0 p1
  go_region
  all_goals
    go_wp2
    have z00 := Z00.out
    have z01 := Z01.out
    have z10 := Z10.out
    have z11 := Z11.out
    exact bodyPost_ret (v := .tuple #[.agg #[.int .u32 (x : Int), .int .u8 (y : Int)], .agg #[.int .u32 (x' : Int), .int .u8 (y' : Int)], .int .i64 0]) (by simp [results, Try.results13, go_sem, z00, z01, z10, z11]) rfl ⟨rfl, hF.out⟩

end Go.Proofs.Ytpmdfiebcaifmaa.Calls130
