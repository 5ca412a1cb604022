/-
  For any field and any three elements: sums and products don't hang on order and brackets; and a product with a sum is the sum of products.
-/
import Derived.Test.YtjpmkcijkcnfiaaRows
import Derived.Test.YtjpmkcijkcnfiaaCalls86
import Derived.WalkKit
import Derived.ProofKit
import Derived.OpenShut
import Derived.Carry
namespace Go.Proofs.Ytjpmkcijkcnfiaa.fieldAlgebra
open Go.ChangeShapes Go.WideShapes Go.ChangeAt Go.RowKit Go.Deep Go.Proofs.Ytjpmkcijkcnfiaa.Base Go.Proofs.Ytjpmkcijkcnfiaa.Base2 Go.Proofs.Ytjpmkcijkcnfiaa.Num Go.Proofs.Ytjpmkcijkcnfiaa.Num16 Go.Proofs.Ytjpmkcijkcnfiaa.Num17 Go.Proofs.Ytjpmkcijkcnfiaa.Num21 Go.Proofs.Ytjpmkcijkcnfiaa.Num23 Go.Proofs.Ytjpmkcijkcnfiaa.Num34 Go.Proofs.Ytjpmkcijkcnfiaa.Num35 Go.Proofs.Ytjpmkcijkcnfiaa.Num36 Go.Proofs.Ytjpmkcijkcnfiaa.Num37 Go.Proofs.Ytjpmkcijkcnfiaa.Num38 Go.Proofs.Ytjpmkcijkcnfiaa.Base4 Go.Proofs.Ytjpmkcijkcnfiaa.Calls56 Go.Proofs.Ytjpmkcijkcnfiaa.Calls57 Go.Proofs.Ytjpmkcijkcnfiaa.Calls20 Go.Proofs.Ytjpmkcijkcnfiaa.Calls62 Go.Proofs.Ytjpmkcijkcnfiaa.Calls75 Go.Proofs.Ytjpmkcijkcnfiaa.Calls76 Go.Proofs.Ytjpmkcijkcnfiaa.Calls77 Go.Proofs.Ytjpmkcijkcnfiaa.Calls81 Go.Proofs.Ytjpmkcijkcnfiaa.Calls82 Go.Proofs.Ytjpmkcijkcnfiaa.Calls83 Go.Proofs.Ytjpmkcijkcnfiaa.Calls84 Go.Proofs.Ytjpmkcijkcnfiaa.Calls85 Go.Proofs.Ytjpmkcijkcnfiaa.Calls86
set_option linter.unusedVariables false

theorem own : ownKnob Try.prog.godebug = none := by kernel_rfl

theorem laidOut : laidOutB Try.prog = true := by kernel_rfl

theorem cells2 : Try.prog.cellsOf 2 = 1 := by kernel_rfl

set_option maxRecDepth 100000 in
set_option maxHeartbeats 4000000 in
theorem half (p : Int) (fo : Option Addr) (cf : Nat) (f : List Int) (mf : f.length ≤ 9223372036854775807) (a b c : Int) (w : World) (rf : IRow w fo f) (hc : EC p f [a, b] 0) (cW : ∀ w' (hB : Below w.heap.size w w') (ce : Nat), Calls Try.prog 20 #[.int .i64 p, .slice fo f.length cf, .slice (some ⟨w'.heap.size, 0, none⟩) 2 ce] (w'.alloc (.cells #[.int .i64 a, .int .i64 b] 2)) fun e w'' => e = .returned (.bool true) ∧ Below w.heap.size w w'') (cW2 : ∀ w' (hB : Below w.heap.size w w') (ce : Nat), Calls Try.prog 20 #[.int .i64 p, .slice fo f.length cf, .slice (some ⟨w'.heap.size, 0, none⟩) 1 ce] (w'.alloc (.cells #[.int .i64 c] 2)) fun e w'' => e = .returned (.bool false) ∧ Below w.heap.size w w'') :
    Calls Try.prog 8 #[.int .i64 p, .slice fo f.length cf, .int .i64 a, .int .i64 b, .int .i64 c] w fun e w' => e = .returned (.bool true) ∧ Below w.heap.size w w' := by
  obtain ⟨P, rfl, hF, hin⟩ := hc.ok
  have ha := hin a (by simp)
  have hb := hin b (by simp)
  obtain ⟨A, rfl⟩ : ∃ A : Nat, a = (A : Int) := ⟨a.toNat, by omega⟩
  obtain ⟨B, rfl⟩ : ∃ B : Nat, b = (B : Int) := ⟨b.toNat, by omega⟩
  obtain ⟨F, hFi⟩ := hF.ex
  obtain ⟨x, hx⟩ := hF.el (a := A) (by omega)
  obtain ⟨y, hy⟩ := hF.el (a := B) (by omega)
  have hone := hFi.one
  have hB0 : Hid (Below w.heap.size w w) := Below.refl _ _
  have c1 := fun w' (hB : Below w.heap.size w w') => fAdd_el P f hF F hFi x y fo cf w' (irow_below rf hB (Nat.le_refl _))
  have c2 := fun w' (hB : Below w.heap.size w w') => fMul_el P f hF F hFi x y fo cf w' (irow_below rf hB (Nat.le_refl _))
  have c3 := fun w' (hB : Below w.heap.size w w') => fAdd_el P f hF F hFi y x fo cf w' (irow_below rf hB (Nat.le_refl _))
  have c4 := fun w' (hB : Below w.heap.size w w') => fMul_el P f hF F hFi y x fo cf w' (irow_below rf hB (Nat.le_refl _))
  have c5 := fun w' (hB : Below w.heap.size w w') => fMul_el P f hF F hFi F.one x fo cf w' (irow_below rf hB (Nat.le_refl _))
  simp only [F.add_comm y x, hx, hy] at c3
  simp only [F.mul_comm y x, hx, hy] at c4
  simp only [F.one_mul, hone, hx, show ((1 : Nat) : Int) = 1 from rfl] at c5
  simp only [hx, hy] at c1 c2
  clear rf hc hin ha hb hone hx hy hFi hF
  generalize num (F.add x y) = sN at *
  generalize num (F.mul x y) = mN at *
  generalize f.length = n at *
  go_enter Try.func8, Try.ntmps8
  go_wp2_with (first
      | (go_at_call 11; refine (c1 _ hB0.out).mono ?_; rintro e w1 ⟨rfl, hB1⟩; have HB1 := hid hB1; clear hB1 c1)
      | (go_at_call 15; refine (c2 _ HB1.out).mono ?_; rintro e w2 ⟨rfl, hB2⟩; have HB2 := hid (below_trans HB1.out hB2); clear hB2 c2)
      | (go_at_call 20; refine (cW _ HB2.out _).mono ?_; rintro e w3 ⟨rfl, hB3⟩; have HB3 := hid hB3; clear hB3 cW)
      | (go_at_call 11; refine (c3 _ HB3.out).mono ?_; rintro e w4 ⟨rfl, hB4⟩; have HB4 := hid (below_trans HB3.out hB4); clear hB4 c3)
      | (go_at_call 15; refine (c4 _ HB4.out).mono ?_; rintro e w5 ⟨rfl, hB5⟩; have HB5 := hid (below_trans HB4.out hB5); clear hB5 c4)
      | (go_at_call 15; refine (c5 _ HB5.out).mono ?_; rintro e w6 ⟨rfl, hB6⟩; have HB6 := hid (below_trans HB5.out hB6); clear hB6 c5)
      | (go_at_call 20; refine (cW2 _ HB6.out _).mono ?_; rintro e w7 ⟨rfl, hB7⟩; have HB7 := hid hB7; clear hB7))
  go_ret
  exact ⟨rfl, HB7.out⟩

set_option maxRecDepth 100000 in
set_option maxHeartbeats 4000000 in
theorem good (p : Int) (fo : Option Addr) (cf : Nat) (f : List Int) (mf : f.length ≤ 9223372036854775807) (a b c : Int) (w : World) (rf : IRow w fo f) (hc : EC p f [a, b] 0) (hc2 : EC p f [c] 0) (cW : ∀ w' (hB : Below w.heap.size w w') (ce : Nat), Calls Try.prog 20 #[.int .i64 p, .slice fo f.length cf, .slice (some ⟨w'.heap.size, 0, none⟩) 2 ce] (w'.alloc (.cells #[.int .i64 a, .int .i64 b] 2)) fun e w'' => e = .returned (.bool true) ∧ Below w.heap.size w w'') (cW2 : ∀ w' (hB : Below w.heap.size w w') (ce : Nat), Calls Try.prog 20 #[.int .i64 p, .slice fo f.length cf, .slice (some ⟨w'.heap.size, 0, none⟩) 1 ce] (w'.alloc (.cells #[.int .i64 c] 2)) fun e w'' => e = .returned (.bool true) ∧ Below w.heap.size w w'') :
    Calls Try.prog 8 #[.int .i64 p, .slice fo f.length cf, .int .i64 a, .int .i64 b, .int .i64 c] w fun e w' => e = .returned (.bool true) ∧ Below w.heap.size w w' := by
  obtain ⟨P, rfl, hF, hin⟩ := hc.ok
  have ha := hin a (by simp)
  have hb := hin b (by simp)
  obtain ⟨A, rfl⟩ : ∃ A : Nat, a = (A : Int) := ⟨a.toNat, by omega⟩
  obtain ⟨B, rfl⟩ : ∃ B : Nat, b = (B : Int) := ⟨b.toNat, by omega⟩
  obtain ⟨F, hFi⟩ := hF.ex
  obtain ⟨x, hx⟩ := hF.el (a := A) (by omega)
  obtain ⟨y, hy⟩ := hF.el (a := B) (by omega)
  have hone := hFi.one
  have hB0 : Hid (Below w.heap.size w w) := Below.refl _ _
  have c1 := fun w' (hB : Below w.heap.size w w') => fAdd_el P f hF F hFi x y fo cf w' (irow_below rf hB (Nat.le_refl _))
  have c2 := fun w' (hB : Below w.heap.size w w') => fMul_el P f hF F hFi x y fo cf w' (irow_below rf hB (Nat.le_refl _))
  have c3 := fun w' (hB : Below w.heap.size w w') => fAdd_el P f hF F hFi y x fo cf w' (irow_below rf hB (Nat.le_refl _))
  have c4 := fun w' (hB : Below w.heap.size w w') => fMul_el P f hF F hFi y x fo cf w' (irow_below rf hB (Nat.le_refl _))
  have c5 := fun w' (hB : Below w.heap.size w w') => fMul_el P f hF F hFi F.one x fo cf w' (irow_below rf hB (Nat.le_refl _))
  simp only [F.add_comm y x, hx, hy] at c3
  simp only [F.mul_comm y x, hx, hy] at c4
  simp only [F.one_mul, hone, hx, show ((1 : Nat) : Int) = 1 from rfl] at c5
  simp only [hx, hy] at c1 c2
  obtain ⟨P', eP, hF3, hin3⟩ := hc2.ok
  have eP2 : P' = P := by omega
  subst eP2
  have hc3 := hin3 c (by simp)
  obtain ⟨C, rfl⟩ : ∃ C : Nat, c = (C : Int) := ⟨c.toNat, by omega⟩
  obtain ⟨z, hz⟩ := hF.el (a := C) (by omega)
  have c6 := fun w' (hB : Below w.heap.size w w') => fMul_el P' f hF F hFi y z fo cf w' (irow_below rf hB (Nat.le_refl _))
  have c7 := fun w' (hB : Below w.heap.size w w') => fMul_el P' f hF F hFi x z fo cf w' (irow_below rf hB (Nat.le_refl _))
  have c8 := fun w' (hB : Below w.heap.size w w') => fMul_el P' f hF F hFi (F.mul x y) z fo cf w' (irow_below rf hB (Nat.le_refl _))
  have c9 := fun w' (hB : Below w.heap.size w w') => fMul_el P' f hF F hFi x (F.mul y z) fo cf w' (irow_below rf hB (Nat.le_refl _))
  have c10 := fun w' (hB : Below w.heap.size w w') => fMul_el P' f hF F hFi (F.add x y) z fo cf w' (irow_below rf hB (Nat.le_refl _))
  have c11 := fun w' (hB : Below w.heap.size w w') => fAdd_el P' f hF F hFi (F.mul x z) (F.mul y z) fo cf w' (irow_below rf hB (Nat.le_refl _))
  simp only [hy, hz] at c6
  simp only [hx, hz] at c7
  simp only [F.mul_assoc, hz] at c8
  simp only [hx] at c9
  simp only [Go.Proofs.Ytjpmkcijkcnfiaa.Num20.add_mul, hz] at c10
  clear rf hc hc2 hin hin3 ha hb hc3 hF3 hone hx hy hz hFi hF eP
  generalize num (F.add (F.mul x z) (F.mul y z)) = uN at *
  generalize num (F.mul x (F.mul y z)) = xN at *
  generalize num (F.add x y) = sN at *
  generalize num (F.mul x y) = mN at *
  generalize num (F.mul y z) = bcN at *
  generalize num (F.mul x z) = acN at *
  generalize f.length = n at *
  go_enter Try.func8, Try.ntmps8
  go_wp2_with (first
      | (go_at_call 11; refine (c1 _ hB0.out).mono ?_; rintro e w1 ⟨rfl, hB1⟩; have HB1 := hid hB1; clear hB1 c1)
      | (go_at_call 15; refine (c2 _ HB1.out).mono ?_; rintro e w2 ⟨rfl, hB2⟩; have HB2 := hid (below_trans HB1.out hB2); clear hB2 c2)
      | (go_at_call 20; refine (cW _ HB2.out _).mono ?_; rintro e w3 ⟨rfl, hB3⟩; have HB3 := hid hB3; clear hB3 cW)
      | (go_at_call 11; refine (c3 _ HB3.out).mono ?_; rintro e w4 ⟨rfl, hB4⟩; have HB4 := hid (below_trans HB3.out hB4); clear hB4 c3)
      | (go_at_call 15; refine (c4 _ HB4.out).mono ?_; rintro e w5 ⟨rfl, hB5⟩; have HB5 := hid (below_trans HB4.out hB5); clear hB5 c4)
      | (go_at_call 15; refine (c5 _ HB5.out).mono ?_; rintro e w6 ⟨rfl, hB6⟩; have HB6 := hid (below_trans HB5.out hB6); clear hB6 c5)
      | (go_at_call 20; refine (cW2 _ HB6.out _).mono ?_; rintro e w7 ⟨rfl, hB7⟩; have HB7 := hid hB7; clear hB7 cW2)
      | (go_at_call 15; refine (c6 _ HB7.out).mono ?_; rintro e w8 ⟨rfl, hB8⟩; have HB8 := hid (below_trans HB7.out hB8); clear hB8 c6)
      | (go_at_call 15; refine (c7 _ HB8.out).mono ?_; rintro e w9 ⟨rfl, hB9⟩; have HB9 := hid (below_trans HB8.out hB9); clear hB9 c7)
      | (go_at_call 15; refine (c8 _ HB9.out).mono ?_; rintro e w10 ⟨rfl, hB10⟩; have HB10 := hid (below_trans HB9.out hB10); clear hB10 c8)
      | (go_at_call 15; refine (c9 _ HB10.out).mono ?_; rintro e w11 ⟨rfl, hB11⟩; have HB11 := hid (below_trans HB10.out hB11); clear hB11 c9)
      | (go_at_call 15; refine (c10 _ HB11.out).mono ?_; rintro e w12 ⟨rfl, hB12⟩; have HB12 := hid (below_trans HB11.out hB12); clear hB12 c10)
      | (go_at_call 11; refine (c11 _ HB12.out).mono ?_; rintro e w13 ⟨rfl, hB13⟩; have HB13 := hid (below_trans HB12.out hB13); clear hB13))
  go_ret
  exact ⟨by simp, HB13.out⟩

set_option maxRecDepth 100000 in
set_option maxHeartbeats 2000000 in
theorem walk (p : Int) (fo : Option Addr) (cf : Nat) (f : List Int) (kf : f.length ≤ cf) (mf : f.length ≤ 9223372036854775807) (a b c : Int) (w : World) (rf : IRow w fo f) :
    Calls Try.prog 8 #[.int .i64 p, .slice fo f.length cf, .int .i64 a, .int .i64 b, .int .i64 c] w fun e w' => e = .returned (.bool true) ∧ Below w.heap.size w w' := by
  obtain ⟨d, hc⟩ := ec_ex p f [a, b]
  obtain ⟨d2, hc2⟩ := ec_ex p f [c]
  by_cases h0 : d = 0
  · subst h0
    have cW := fun w' (hB : Below w.heap.size w w') (ce : Nat) => within_two p fo cf f a b mf true ⟨fun _ => hc, fun _ => rfl⟩ w w' rf hB ce
    by_cases h02 : d2 = 0
    · subst h02
      have cW2 := fun w' (hB : Below w.heap.size w w') (ce : Nat) => within_one p fo cf f c mf true ⟨fun _ => hc2, fun _ => rfl⟩ w w' rf hB ce
      exact good p fo cf f mf a b c w rf hc hc2 cW cW2
    · have cW2 := fun w' (hB : Below w.heap.size w w') (ce : Nat) => within_one p fo cf f c mf false ⟨fun e => (by cases e), fun e => absurd e (ec_no hc2 h02)⟩ w w' rf hB ce
      exact half p fo cf f mf a b c w rf hc cW cW2
  · have cW := fun w' (hB : Below w.heap.size w w') (ce : Nat) => within_two p fo cf f a b mf false ⟨fun e => (by cases e), fun e => absurd e (ec_no hc h0)⟩ w w' rf hB ce
    have c1 := fAdd_bad p fo cf f a b mf d hc h0 w rf
    have c2 := fun w' (hB : Below w.heap.size w w') => fMul_bad p fo cf f a b mf d hc h0 w' (irow_below rf hB (Nat.le_refl _))
    have g1 : (d != 0) = true := by simpa using h0
    have g2 : (d == 0) = false := by simpa using h0
    generalize f.length = n at *
    clear rf hc hc2
    go_enter Try.func8, Try.ntmps8
    go_wp2_with (first
      | (go_at_call 11; refine (c1).mono ?_; rintro e w1 ⟨rfl, hB1⟩; have HB1 := hid hB1; clear hB1)
      | (go_at_call 15; refine (c2 _ HB1.out).mono ?_; rintro e w2 ⟨rfl, hB2⟩; have HB2 := hid (below_trans HB1.out hB2); clear hB2)
      | (go_at_call 20; refine (cW _ HB2.out _).mono ?_; rintro e w3 ⟨rfl, hB3⟩; have HB3 := hid hB3; clear hB3))
    go_ret
    exact ⟨by simp, HB3.out⟩

theorem trodAll_five {H : Type} {enc : TypeId × Value → H} {P : Program} {w : World} {base : Nat} {spare : Nat → Bool} {held : Bool} {t0 t1 t2 t3 t4 : TypeId} {args : Array Value} {ds : List (DataW H)} {ps : List MemPlace} (h : DataW.TrodAll enc P w base spare held [t0, t1, t2, t3, t4] args.toList ds ps) :
    ∃ v0 v1 v2 v3 v4 d0 d1 d2 d3 d4 p0 p1 p2 p3 p4, args = #[v0, v1, v2, v3, v4] ∧ ds = [d0, d1, d2, d3, d4] ∧ ps = p0 ++ p1 ++ p2 ++ p3 ++ p4 ∧ DataW.Trod enc P w base spare held t0 v0 d0 p0 ∧ DataW.Trod enc P w base spare held t1 v1 d1 p1 ∧ DataW.Trod enc P w base spare held t2 v2 d2 p2 ∧ DataW.Trod enc P w base spare held t3 v3 d3 p3 ∧ DataW.Trod enc P w base spare held t4 v4 d4 p4 := by
  obtain ⟨v0, vs0, d0, ds0, p0, q0, hargs, rfl, rfl, hd0, hrest0⟩ := trodAll_cons h
  obtain ⟨v1, vs1, d1, ds1, p1, q1, rfl, rfl, rfl, hd1, hrest1⟩ := trodAll_cons hrest0
  obtain ⟨v2, vs2, d2, ds2, p2, q2, rfl, rfl, rfl, hd2, hrest2⟩ := trodAll_cons hrest1
  obtain ⟨v3, vs3, d3, ds3, p3, q3, rfl, rfl, rfl, hd3, hrest3⟩ := trodAll_cons hrest2
  obtain ⟨v4, vs4, d4, ds4, p4, q4, rfl, rfl, rfl, hd4, hrest4⟩ := trodAll_cons hrest3
  obtain ⟨rfl, rfl, rfl⟩ := trodAll_nil hrest4
  exact ⟨v0, v1, v2, v3, v4, d0, d1, d2, d3, d4, p0, p1, p2, p3, p4, by cases args; simp_all, rfl, by simp, hd0, hd1, hd2, hd3, hd4⟩

theorem trodAll_mk5 {H : Type} {enc : TypeId × Value → H} {P : Program} {w : World} {base : Nat} {spare : Nat → Bool} {held : Bool} {t0 t1 t2 t3 t4 : TypeId} {v0 v1 v2 v3 v4 : Value} {d0 d1 d2 d3 d4 : DataW H} {p0 p1 p2 p3 p4 : List MemPlace} (h0 : DataW.Trod enc P w base spare held t0 v0 d0 p0) (h1 : DataW.Trod enc P w base spare held t1 v1 d1 p1)
    (h2 : DataW.Trod enc P w base spare held t2 v2 d2 p2) (h3 : DataW.Trod enc P w base spare held t3 v3 d3 p3) (h4 : DataW.Trod enc P w base spare held t4 v4 d4 p4) : DataW.TrodAll enc P w base spare held [t0, t1, t2, t3, t4] [v0, v1, v2, v3, v4] [d0, d1, d2, d3, d4] (p0 ++ (p1 ++ (p2 ++ (p3 ++ p4)))) := ⟨p0, p1 ++ (p2 ++ (p3 ++ p4)), h0, trodAll_mk4 h1 h2 h3 h4, rfl⟩

set_option maxRecDepth 100000 in
theorem lifted (os : Os) (started : os.Started) (H : Type) (enc : TypeId × Value → H) :
    ReturnsInHanded {} Try.checked os 8 .any (Rows.fieldAlgebraSpec.pre6 enc Try.prog Try.f8 Rows.fieldAlgebraRow.domain false) (Rows.fieldAlgebraSpec.post enc Try.prog Try.f8 false true false false) := by
  refine returnsInHanded_of_change (C := Try.checked) own started (by kernel_rfl) Try.func8
    (ChangeSpec.witness6 (enc := enc) (C := Try.checked) false ⟨#[], #[.int .i64 0, .slice none 0 0, .int .i64 0, .int .i64 0, .int .i64 0], []⟩ 8 (by kernel_rfl) (by kernel_rfl) (by kernel_rfl) (by kernel_rfl)) ?_
  intro W base args ds gs before hval0 hW hcnd _
  have hval : ∀ (j : Nat) t v, Try.f8.params[j]? = some t → args[j]? = some v → Value.okWide Try.prog W .any base t v := hval0
  have hW' := hW
  obtain ⟨p, q, hA0, hV, rfl, _, _⟩ := hW
  have hA : DataW.TrodAll enc Try.prog W 0 (fun _ => true) true Try.f8.params.toList args.toList ds p := hA0
  rw [Try.params8] at hA hval
  obtain ⟨v0, v1, v2, v3, v4, d0, d1, d2, d3, d4, p0, p1, p2, p3, p4, rfl, rfl, rfl, h0, h1, h2, h3, h4⟩ := trodAll_five hA
  obtain ⟨rfl, rfl⟩ := trodVars_none hV
  obtain ⟨a0, rfl, rfl, rfl, w0⟩ := open_int Try.underlying2 (hval 0 2 v0 rfl rfl) h0
  have hsl1 := okWide_slice Try.underlying22 (hval 1 22 v1 rfl rfl)
  obtain ⟨a2, rfl, rfl, rfl, w2⟩ := open_int Try.underlying2 (hval 2 2 v2 rfl rfl) h2
  obtain ⟨a3, rfl, rfl, rfl, w3⟩ := open_int Try.underlying2 (hval 3 2 v3 rfl rfl) h3
  obtain ⟨a4, rfl, rfl, rfl, w4⟩ := open_int Try.underlying2 (hval 4 2 v4 rfl rfl) h4
  clear hA0 hval0
  simp only [List.append_nil, List.nil_append] at hW'
  have hlt1 : ∀ x ∈ p1, x.block < W.heap.size := fun x hx => by simpa using hW'.lt x (by simp [hx])
  have harg1 : ∀ (W' : World), Below W.heap.size W W' → DataW.Trod enc Try.prog W' 0 (fun b => decide (b < W.heap.size)) true 22 v1 d1 p1 :=
    fun W' hn => Below.trod laidOut (by kernel_rfl) (of_decide_eq_true (by kernel_rfl)) h1 hn hlt1
  obtain ⟨o1, c1, l1, rfl, r1, k1, m1⟩ := longs_view Try.underlying22 cells2 Try.underlying2 h1 hsl1
  refine (walk a0 o1 c1 l1 k1 m1 a2 a3 a4 W r1).mono fun e W' ⟨he, hg⟩ => ?_
  subst he
  refine ⟨_, rfl, _, _, _, [], ([] : List MemPlace) ++ (p1 ++ (([] : List MemPlace) ++ (([] : List MemPlace) ++ (([] : List MemPlace))))), [], hW', ?_, ?_, rfl, hg.frame _, fun h => by cases h⟩
  · exact trodAll_mk1 (shut_bool Try.underlying4 true)
  · exact trodAll_mk5 (shut_int Try.underlying2 w0) (harg1 _ hg) (shut_int Try.underlying2 w2) (shut_int Try.underlying2 w3) (shut_int Try.underlying2 w4)

theorem over : Rows.fieldAlgebraRow.holds Try.pinned (OpenSpec.ofChange Rows.fieldAlgebraSpec) :=
  OpenClaim.holds_of_wide 8 Try.f8 rfl rfl rfl rfl rfl rfl rfl ⟨rfl, rfl, rfl, rfl, rfl⟩ rfl rfl rfl rfl rfl (by kernel_rfl) Try.func8 (by kernel_rfl)
    (of_decide_eq_true (by kernel_rfl)) (by unfold Func.isWrapper; first | (rw [if_pos (by decide +kernel)]; kernel_rfl) | (rw [if_neg (by decide +kernel)]; exact ⟨rfl, rfl⟩))
    (fun os started H enc _ => lifted os started H enc)

/-- ████ THE STATEMENT ████ -/
theorem proved : Rows.FieldAlgebraSaid :=
  over

end Go.Proofs.Ytjpmkcijkcnfiaa.fieldAlgebra
