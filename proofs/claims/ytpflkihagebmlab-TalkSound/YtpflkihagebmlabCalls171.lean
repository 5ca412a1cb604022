/-
  Package talk: Extract.
-/
import Derived.Test.YtpflkihagebmlabCalls169
import Derived.Test.YtpflkihagebmlabCalls6
namespace Go.Proofs.Ytpflkihagebmlab.Calls171
set_option linter.unusedVariables false
open Go.ChangeShapes Go.WideShapes Go.ChangeAt Go.RowKit Go.Deep Go.Proofs.Ytpflkihagebmlab.Base Go.Proofs.Ytpflkihagebmlab.Base2 Go.Proofs.Ytpflkihagebmlab.Num Go.Proofs.Ytpflkihagebmlab.Num7 Go.Proofs.Ytpflkihagebmlab.Num8 Go.Proofs.Ytpflkihagebmlab.Num13 Go.Proofs.Ytpflkihagebmlab.Num16 Go.Proofs.Ytpflkihagebmlab.Num56 Go.Proofs.Ytpflkihagebmlab.Calls157 Go.Proofs.Ytpflkihagebmlab.Calls158 Go.Proofs.Ytpflkihagebmlab.Calls160 Go.Proofs.Ytpflkihagebmlab.Calls167 Go.Proofs.Ytpflkihagebmlab.Calls169
open Go.Proofs.Ytpflkihagebmlab.Num3 (gcd_prime)
open Go.Proofs.Ytpflkihagebmlab.Math (gg)
open Go.Proofs.Ytpflkihagebmlab.Calls6 (leastFactor_any one_yes)

theorem inv_b (a m : Int) (w : World) (ha1 : -2147483648 ≤ a) (ha2 : a ≤ 2147483648) (h1 : 1 ≤ m) (h2 : m ≤ 1048576) (hg : gg a m = 1) :
    Calls Try.prog 21 #[.int .i64 a, .int .i64 m] w fun e w' =>
      ∃ x : Int, e = .returned (.tuple #[.int .i64 x, .int .i64 0]) ∧ 0 ≤ x ∧ x < m ∧ m ∣ x * a - 1 ∧ Below w.heap.size w w' := by
  have d1 : decide (m < 1) = false := by simp; omega
  have d2 : decide (1048576 < m) = false := by simp; omega
  have hm : (m.natAbs : Int) / 1 = m := by omega
  have HG := hid hg
  have HM := hid hm
  clear hg hm
  go_enter Try.func21, Try.ntmps21
  go_wp2_with (first
    | (go_at_call 33; refine (one_yes a _ ha1 ha2).mono ?_; rintro e w' ⟨rfl, rfl⟩)
    | (go_at_call 34; refine (leastFactor_any _ _ _ (by omega) ha1 ha2 (by omega) (by omega)).mono ?_; rw [HG.out, HM.out]; rintro e w' ⟨x, rfl, hx1, hx2, hx3, rfl⟩; have HX := hid hx3; clear hx3))
  go_ret2
  exact ⟨x, rfl, hx1, hx2, HX.out, (Below.refl _ _).alloc (Nat.le_refl _) _⟩

theorem cop_diff {Q r s : Nat} (hQ : Pr Q) (hr : r < Q) (hs : s < Q) (hne : r ≠ s) : gg ((s : Int) - (r : Int)) (Q : Int) = 1 := by
  have h : Nat.gcd ((s : Int) - (r : Int)).natAbs Q = 1 := (gcd_prime hQ).2 (fun h => by
    have := Nat.le_of_dvd (by omega) h
    omega)
  show ((Nat.gcd ((s : Int) - (r : Int)).natAbs (Q : Int).natAbs : Nat) : Int) = 1
  rw [Int.natAbs_natCast, h]; rfl

/-- Two answers tell the secret. -/
theorem ext_log {Q k s a a2 z z2 : Nat} {u : Int} (hs : s < Q) (h1 : z % Q = (k + a * s) % Q) (h2 : z2 % Q = (k + a2 * s) % Q) (hu : (Q : Int) ∣ u * ((a : Int) - (a2 : Int)) - 1) : ((z : Int) - (z2 : Int) + (Q : Int)) * u % (Q : Int) = (s : Int) := by
  have g1 := (mod_eq_iff (m := Q)).1 h1
  have g2 := (mod_eq_iff (m := Q)).1 h2
  have g3 : (Q : Int) ∣ ((z : Int) - (z2 : Int) + (Q : Int)) * u - (s : Int) := by
    have t : ((z : Int) - (z2 : Int) + (Q : Int)) * u - (s : Int) = (((z : Nat) : Int) - ((k + a * s : Nat) : Int)) * u - (((z2 : Nat) : Int) - ((k + a2 * s : Nat) : Int)) * u + (u * ((a : Int) - (a2 : Int)) - 1) * (s : Int) + (Q : Int) * u := by
      push_cast; grind
    rw [t]
    exact Int.dvd_add (Int.dvd_add (Int.dvd_sub (Int.dvd_trans g1 (Int.dvd_mul_right _ _)) (Int.dvd_trans g2 (Int.dvd_mul_right _ _))) (Int.dvd_trans hu (Int.dvd_mul_right _ _))) (Int.dvd_mul_right _ _)
  have h4 : ((z : Int) - (z2 : Int) + (Q : Int)) * u % (Q : Int) = (s : Int) % (Q : Int) := Int.emod_eq_emod_iff_emod_sub_eq_zero.2 (Int.emod_eq_zero_of_dvd g3)
  rw [h4, Int.emod_eq_of_lt (by omega) (by omega)]

/-- What fits is what who knows the secret says. -/
theorem fst_log {P Q G k s a z : Nat} (hG : Gp P Q G) (ha : a < Q) (hz : z < Q) (h : G ^ k % P = fst P Q G (G ^ s % P) a z) : z % Q = (k + a * s) % Q := by
  have hP := hG.pr.1
  have h1 := (fst_iff (z := z) hG (hG.mem.pow hG.pr hG.prq s) ha (Nat.mod_lt (G ^ k) (show P > 0 by omega))).2 h
  rw [Nat.mod_eq_of_lt hz]
  exact (talk_iff hG hz).1 h1

/-! ### the group's box, two talks' boxes -/

def Ge (w wr : World) (P Q G H : Int) (x y : Array Value) : Prop := Gs w wr P Q G H x ∧ BoxC wr (w.heap.size + 1 + 1) 25 y

theorem Ge.new (w : World) (P Q G H : Int) (x y : Array Value) : Ge w (((w.alloc (.cells #[.int .i64 P, .int .i64 Q, .int .i64 G, .int .i64 H] 23)).alloc (.cells x 25)).alloc (.cells y 25)) P Q G H x y := by
  have h := BoxC.new ((w.alloc (.cells #[.int .i64 P, .int .i64 Q, .int .i64 G, .int .i64 H] 23)).alloc (.cells x 25)) 25 y
  rw [World.size_alloc, World.size_alloc] at h
  exact ⟨(Gs.new w P Q G H x).alloc _, h⟩

theorem Ge.below {w wr w' : World} {P Q G H : Int} {x y : Array Value} (h : Ge w wr P Q G H x y) (hb : Below wr.heap.size wr w') : Ge w w' P Q G H x y := ⟨h.1.below hb, (hb.block _ h.2.lt).trans h.2⟩

theorem Ge.alloc {w wr : World} {P Q G H : Int} {x y : Array Value} (h : Ge w wr P Q G H x y) (o : Obj) : Ge w (wr.alloc o) P Q G H x y := ⟨h.1.alloc o, h.2.alloc o⟩

theorem talk_new (W : World) (a b c : Value) : (W.alloc (.cells #[a, b, c] 25)).cell? ⟨W.heap.size, 0, none⟩ = some a ∧ (W.alloc (.cells #[a, b, c] 25)).cell? ⟨W.heap.size, 1, none⟩ = some b ∧ (W.alloc (.cells #[a, b, c] 25)).cell? ⟨W.heap.size, 2, none⟩ = some c := by
  have h := BoxC.new W 25 #[a, b, c]
  exact ⟨by rw [h.cell 0]; rfl, by rw [h.cell 1]; rfl, by rw [h.cell 2]; rfl⟩

theorem size3 (w : World) (o o' o'' : Obj) : w.heap.size + 1 + 1 + 1 = (((w.alloc o).alloc o').alloc o'').heap.size := by rw [World.size_alloc, World.size_alloc, World.size_alloc]

set_option maxRecDepth 100000 in
set_option maxHeartbeats 4000000 in
theorem Extract_one (P Q G H x f a z f2 a2 z2 : Int) (h : aC P Q G H [a, z, a2, z2] [] ≠ 0) (w : World) :
    Calls Try.prog 11 #[.agg #[.int .i64 P, .int .i64 Q, .int .i64 G, .int .i64 H], .int .i64 x, .agg #[.int .i64 f, .int .i64 a, .int .i64 z], .agg #[.int .i64 f2, .int .i64 a2, .int .i64 z2]] w fun e w' => e = .returned (.tuple #[.int .i64 0, .int .i64 (aC P Q G H [a, z, a2, z2] [])]) ∧ Below w.heap.size w w' := by
  have K := hid (Ge.new w P Q G H #[.int .i64 f, .int .i64 a, .int .i64 z] #[.int .i64 f2, .int .i64 a2, .int .i64 z2])
  obtain ⟨c0, c1, c2, c3⟩ := K.out.1.1.cells
  obtain ⟨t0, t1, t2, _⟩ := box_three K.out.1.2
  obtain ⟨u0, u1, u2, _⟩ := box_three K.out.2
  have cC := tk4 P Q G H a z a2 z2 _ (w.heap.size + 1 + 1 + 1) (size3 w (.cells #[.int .i64 P, .int .i64 Q, .int .i64 G, .int .i64 H] 23) (.cells #[.int .i64 f, .int .i64 a, .int .i64 z] 25) (.cells #[.int .i64 f2, .int .i64 a2, .int .i64 z2] 25))
  generalize aC P Q G H [a, z, a2, z2] [] = c at *
  have h1 : (c != 0) = true := by simpa using h
  clear h
  go_enter Try.func11, Try.ntmps11
  go_wp2_with (go_at_call 16; refine cC.mono ?_; clear cC; rintro e w1 ⟨rfl, hB1⟩; have K1 := hid (K.out.below hB1); clear hB1)
  go_ret2
  exact ⟨rfl, K1.out.1.1.2⟩

set_option maxRecDepth 100000 in
set_option maxHeartbeats 4000000 in
theorem Extract_two (P Q G H x f a z f2 a2 z2 : Int) (h0 : aC P Q G H [a, z, a2, z2] [] = 0) (h : aC P Q G H [a, z] [x, f] ≠ 0) (w : World) :
    Calls Try.prog 11 #[.agg #[.int .i64 P, .int .i64 Q, .int .i64 G, .int .i64 H], .int .i64 x, .agg #[.int .i64 f, .int .i64 a, .int .i64 z], .agg #[.int .i64 f2, .int .i64 a2, .int .i64 z2]] w fun e w' => e = .returned (.tuple #[.int .i64 0, .int .i64 (aC P Q G H [a, z] [x, f])]) ∧ Below w.heap.size w w' := by
  have j0 : ∀ w, (Instr.index 49 (.agg #[.int .i64 f, .int .i64 a, .int .i64 z, .int .i64 f2, .int .i64 a2, .int .i64 z2]) (.int .i64 0)).run Try.prog w = .ok (.agg #[.int .i64 f, .int .i64 a, .int .i64 z]) w := fun _ => by kernel_rfl
  have K := hid (Ge.new w P Q G H #[.int .i64 f, .int .i64 a, .int .i64 z] #[.int .i64 f2, .int .i64 a2, .int .i64 z2])
  obtain ⟨c0, c1, c2, c3⟩ := K.out.1.1.cells
  obtain ⟨t0, t1, t2, _⟩ := box_three K.out.1.2
  obtain ⟨u0, u1, u2, _⟩ := box_three K.out.2
  have cC := tk4 P Q G H a z a2 z2 _ (w.heap.size + 1 + 1 + 1) (size3 w (.cells #[.int .i64 P, .int .i64 Q, .int .i64 G, .int .i64 H] 23) (.cells #[.int .i64 f, .int .i64 a, .int .i64 z] 25) (.cells #[.int .i64 f2, .int .i64 a2, .int .i64 z2] 25))
  have cA := fun w => Check_bad P Q G H x f a z h w
  rw [h0] at cC
  generalize aC P Q G H [a, z] [x, f] = c at *
  have h1 : (c != 0) = true := by simpa using h
  clear h h0
  go_enter Try.func11, Try.ntmps11
  go_wp2_with (go_at_call 16; refine cC.mono ?_; clear cC; rintro e w1 ⟨rfl, hB1⟩; have K := hid (K.out.below hB1); obtain ⟨c0, c1, c2, c3⟩ := K.out.1.1.cells; obtain ⟨t0, t1, t2, _⟩ := box_three K.out.1.2; obtain ⟨u0, u1, u2, _⟩ := box_three K.out.2; clear hB1)
  clear t0 t1 t2 u0 u1 u2 c0 c1 c2 c3
  go_loopw [11, 35] (fun v i wr => v = .bool true ∧ i = .int .i64 0 ∧ Hid (Ge w wr P Q G H #[.int .i64 f, .int .i64 a, .int .i64 z] #[.int .i64 f2, .int .i64 a2, .int .i64 z2])) (fun v i wr => ((2 : Int) - intOf i).toNat)
  case atStart => exact ⟨rfl, rfl, K⟩
  case round =>
    obtain ⟨rfl, rfl, KR⟩ := hrel
    · have KA := hid (KR.out.alloc (.cells #[.int .i64 f, .int .i64 a, .int .i64 z] 25))
      obtain ⟨d0, d1, d2, d3⟩ := KA.out.1.1.cells
      obtain ⟨x0, x1, x2⟩ := talk_new wr (.int .i64 f) (.int .i64 a) (.int .i64 z)
      go_wp2_with (go_at_call 10; refine (cA _).mono ?_; clear cA; rintro e w1 ⟨rfl, hB1⟩; have K1 := hid (KA.out.below hB1); clear hB1)
      go_ret2
      exact ⟨rfl, K1.out.1.1.2⟩

set_option maxRecDepth 100000 in
set_option maxHeartbeats 4000000 in
theorem Extract_three (P Q G H x f a z : Nat) (f2 a2 z2 : Int) (b : Bool) (h0 : aC (P : Int) (Q : Int) (G : Int) (H : Int) [(a : Int), (z : Int), a2, z2] [] = 0)
    (cA : ∀ w, Calls Try.prog 10 #[.agg #[.int .i64 (P : Int), .int .i64 (Q : Int), .int .i64 (G : Int), .int .i64 (H : Int)], .int .i64 (x : Int), .agg #[.int .i64 (f : Int), .int .i64 (a : Int), .int .i64 (z : Int)]] w fun e w' => e = .returned (.tuple #[.bool b, .int .i64 0]) ∧ Below w.heap.size w w') (h : aC (P : Int) (Q : Int) (G : Int) (H : Int) [a2, z2] [(x : Int), f2] ≠ 0) (w : World) :
    Calls Try.prog 11 #[.agg #[.int .i64 (P : Int), .int .i64 (Q : Int), .int .i64 (G : Int), .int .i64 (H : Int)], .int .i64 (x : Int), .agg #[.int .i64 (f : Int), .int .i64 (a : Int), .int .i64 (z : Int)], .agg #[.int .i64 f2, .int .i64 a2, .int .i64 z2]] w fun e w' => e = .returned (.tuple #[.int .i64 0, .int .i64 (aC (P : Int) (Q : Int) (G : Int) (H : Int) [a2, z2] [(x : Int), f2])]) ∧ Below w.heap.size w w' := by
  have j0 : ∀ w, (Instr.index 49 (.agg #[.int .i64 (f : Int), .int .i64 (a : Int), .int .i64 (z : Int), .int .i64 f2, .int .i64 a2, .int .i64 z2]) (.int .i64 0)).run Try.prog w = .ok (.agg #[.int .i64 (f : Int), .int .i64 (a : Int), .int .i64 (z : Int)]) w := fun _ => by kernel_rfl
  have j1 : ∀ w, (Instr.index 49 (.agg #[.int .i64 (f : Int), .int .i64 (a : Int), .int .i64 (z : Int), .int .i64 f2, .int .i64 a2, .int .i64 z2]) (.int .i64 1)).run Try.prog w = .ok (.agg #[.int .i64 f2, .int .i64 a2, .int .i64 z2]) w := fun _ => by kernel_rfl
  have K := hid (Ge.new w (P : Int) (Q : Int) (G : Int) (H : Int) #[.int .i64 (f : Int), .int .i64 (a : Int), .int .i64 (z : Int)] #[.int .i64 f2, .int .i64 a2, .int .i64 z2])
  obtain ⟨c0, c1, c2, c3⟩ := K.out.1.1.cells
  obtain ⟨t0, t1, t2, _⟩ := box_three K.out.1.2
  obtain ⟨u0, u1, u2, _⟩ := box_three K.out.2
  have cC := tk4 (P : Int) (Q : Int) (G : Int) (H : Int) (a : Int) (z : Int) a2 z2 _ (w.heap.size + 1 + 1 + 1) (size3 w (.cells #[.int .i64 (P : Int), .int .i64 (Q : Int), .int .i64 (G : Int), .int .i64 (H : Int)] 23) (.cells #[.int .i64 (f : Int), .int .i64 (a : Int), .int .i64 (z : Int)] 25) (.cells #[.int .i64 f2, .int .i64 a2, .int .i64 z2] 25))
  have cB := fun w => Check_bad (P : Int) (Q : Int) (G : Int) (H : Int) (x : Int) f2 a2 z2 h w
  rw [h0] at cC
  generalize aC (P : Int) (Q : Int) (G : Int) (H : Int) [a2, z2] [(x : Int), f2] = c at *
  have h1 : (c != 0) = true := by simpa using h
  clear h h0
  go_enter Try.func11, Try.ntmps11
  go_wp2_with (go_at_call 16; refine cC.mono ?_; clear cC; rintro e w1 ⟨rfl, hB1⟩; have K := hid (K.out.below hB1); obtain ⟨c0, c1, c2, c3⟩ := K.out.1.1.cells; obtain ⟨t0, t1, t2, _⟩ := box_three K.out.1.2; obtain ⟨u0, u1, u2, _⟩ := box_three K.out.2; clear hB1)
  clear t0 t1 t2 u0 u1 u2 c0 c1 c2 c3
  go_loopw [11, 35] (fun v i wr => Hid (Ge w wr (P : Int) (Q : Int) (G : Int) (H : Int) #[.int .i64 (f : Int), .int .i64 (a : Int), .int .i64 (z : Int)] #[.int .i64 f2, .int .i64 a2, .int .i64 z2]) ∧ ((v = .bool true ∧ i = .int .i64 0) ∨ (v = .bool b ∧ i = .int .i64 1))) (fun v i wr => ((2 : Int) - intOf i).toNat)
  case atStart => exact ⟨K, .inl ⟨rfl, rfl⟩⟩
  case round =>
    obtain ⟨KR, ⟨rfl, rfl⟩ | ⟨rfl, rfl⟩⟩ := hrel
    · have KA := hid (KR.out.alloc (.cells #[.int .i64 (f : Int), .int .i64 (a : Int), .int .i64 (z : Int)] 25))
      obtain ⟨d0, d1, d2, d3⟩ := KA.out.1.1.cells
      obtain ⟨x0, x1, x2⟩ := talk_new wr (.int .i64 (f : Int)) (.int .i64 (a : Int)) (.int .i64 (z : Int))
      clear cB
      go_wp2_with (go_at_call 10; refine (cA _).mono ?_; clear cA; rintro e w1 ⟨rfl, hB1⟩; have K1 := hid (KA.out.below hB1); clear hB1)
      go_roundw
      case rel => exact ⟨K1, .inr ⟨rfl, rfl⟩⟩
      case measure => simp [intOf]
    · have KA := hid (KR.out.alloc (.cells #[.int .i64 f2, .int .i64 a2, .int .i64 z2] 25))
      obtain ⟨d0, d1, d2, d3⟩ := KA.out.1.1.cells
      obtain ⟨x0, x1, x2⟩ := talk_new wr (.int .i64 f2) (.int .i64 a2) (.int .i64 z2)
      clear cA
      go_wp2_with (go_at_call 10; refine (cB _).mono ?_; clear cB; rintro e w1 ⟨rfl, hB1⟩; have K1 := hid (KA.out.below hB1); clear hB1)
      go_ret2
      exact ⟨rfl, K1.out.1.1.2⟩

set_option maxRecDepth 100000 in
set_option maxHeartbeats 4000000 in
theorem Extract_arg (P Q G H x f a z f2 a2 z2 : Nat) (b b2 : Bool) (h0 : aC (P : Int) (Q : Int) (G : Int) (H : Int) [(a : Int), (z : Int), (a2 : Int), (z2 : Int)] [] = 0)
    (cA : ∀ w, Calls Try.prog 10 #[.agg #[.int .i64 (P : Int), .int .i64 (Q : Int), .int .i64 (G : Int), .int .i64 (H : Int)], .int .i64 (x : Int), .agg #[.int .i64 (f : Int), .int .i64 (a : Int), .int .i64 (z : Int)]] w fun e w' => e = .returned (.tuple #[.bool b, .int .i64 0]) ∧ Below w.heap.size w w')
    (cB : ∀ w, Calls Try.prog 10 #[.agg #[.int .i64 (P : Int), .int .i64 (Q : Int), .int .i64 (G : Int), .int .i64 (H : Int)], .int .i64 (x : Int), .agg #[.int .i64 (f2 : Int), .int .i64 (a2 : Int), .int .i64 (z2 : Int)]] w fun e w' => e = .returned (.tuple #[.bool b2, .int .i64 0]) ∧ Below w.heap.size w w') (hh : ¬ ((b && b2) = true ∧ f = f2 ∧ a ≠ a2)) (w : World) :
    Calls Try.prog 11 #[.agg #[.int .i64 (P : Int), .int .i64 (Q : Int), .int .i64 (G : Int), .int .i64 (H : Int)], .int .i64 (x : Int), .agg #[.int .i64 (f : Int), .int .i64 (a : Int), .int .i64 (z : Int)], .agg #[.int .i64 (f2 : Int), .int .i64 (a2 : Int), .int .i64 (z2 : Int)]] w fun e w' => e = .returned (.tuple #[.int .i64 0, .int .i64 3]) ∧ Below w.heap.size w w' := by
  have j0 : ∀ w, (Instr.index 49 (.agg #[.int .i64 (f : Int), .int .i64 (a : Int), .int .i64 (z : Int), .int .i64 (f2 : Int), .int .i64 (a2 : Int), .int .i64 (z2 : Int)]) (.int .i64 0)).run Try.prog w = .ok (.agg #[.int .i64 (f : Int), .int .i64 (a : Int), .int .i64 (z : Int)]) w := fun _ => by kernel_rfl
  have j1 : ∀ w, (Instr.index 49 (.agg #[.int .i64 (f : Int), .int .i64 (a : Int), .int .i64 (z : Int), .int .i64 (f2 : Int), .int .i64 (a2 : Int), .int .i64 (z2 : Int)]) (.int .i64 1)).run Try.prog w = .ok (.agg #[.int .i64 (f2 : Int), .int .i64 (a2 : Int), .int .i64 (z2 : Int)]) w := fun _ => by kernel_rfl
  have K := hid (Ge.new w (P : Int) (Q : Int) (G : Int) (H : Int) #[.int .i64 (f : Int), .int .i64 (a : Int), .int .i64 (z : Int)] #[.int .i64 (f2 : Int), .int .i64 (a2 : Int), .int .i64 (z2 : Int)])
  obtain ⟨c0, c1, c2, c3⟩ := K.out.1.1.cells
  obtain ⟨t0, t1, t2, _⟩ := box_three K.out.1.2
  obtain ⟨u0, u1, u2, _⟩ := box_three K.out.2
  have cC := tk4 (P : Int) (Q : Int) (G : Int) (H : Int) (a : Int) (z : Int) (a2 : Int) (z2 : Int) _ (w.heap.size + 1 + 1 + 1) (size3 w (.cells #[.int .i64 (P : Int), .int .i64 (Q : Int), .int .i64 (G : Int), .int .i64 (H : Int)] 23) (.cells #[.int .i64 (f : Int), .int .i64 (a : Int), .int .i64 (z : Int)] 25) (.cells #[.int .i64 (f2 : Int), .int .i64 (a2 : Int), .int .i64 (z2 : Int)] 25))
  rw [h0] at cC
  clear h0
  have hh' : (b && b2) = false ∨ ((b && b2) = true ∧ ((f : Int) != (f2 : Int)) = true) ∨ ((b && b2) = true ∧ ((f : Int) != (f2 : Int)) = false ∧ ((a : Int) == (a2 : Int)) = true) := by
    cases hb : (b && b2) with
    | false => exact .inl rfl
    | true =>
      by_cases e : f = f2
      · by_cases e2 : a = a2
        · exact .inr (.inr ⟨rfl, by subst e; exact bne_self_eq_false _, i64_eq e2⟩)
        · exact absurd ⟨hb, e, e2⟩ hh
      · exact .inr (.inl ⟨rfl, i64_bne e⟩)
  clear hh
  go_enter Try.func11, Try.ntmps11
  go_wp2_with (go_at_call 16; refine cC.mono ?_; clear cC; rintro e w1 ⟨rfl, hB1⟩; have K := hid (K.out.below hB1); obtain ⟨c0, c1, c2, c3⟩ := K.out.1.1.cells; obtain ⟨t0, t1, t2, _⟩ := box_three K.out.1.2; obtain ⟨u0, u1, u2, _⟩ := box_three K.out.2; clear hB1)
  clear t0 t1 t2 u0 u1 u2 c0 c1 c2 c3
  go_loopw [11, 35] (fun v i wr => Hid (Ge w wr (P : Int) (Q : Int) (G : Int) (H : Int) #[.int .i64 (f : Int), .int .i64 (a : Int), .int .i64 (z : Int)] #[.int .i64 (f2 : Int), .int .i64 (a2 : Int), .int .i64 (z2 : Int)]) ∧ ((v = .bool true ∧ i = .int .i64 0) ∨ (v = .bool b ∧ i = .int .i64 1) ∨ (v = .bool (b && b2) ∧ i = .int .i64 2))) (fun v i wr => ((2 : Int) - intOf i).toNat)
  case atStart => exact ⟨K, .inl ⟨rfl, rfl⟩⟩
  case round =>
    obtain ⟨KR, ⟨rfl, rfl⟩ | ⟨rfl, rfl⟩ | ⟨rfl, rfl⟩⟩ := hrel
    · have KA := hid (KR.out.alloc (.cells #[.int .i64 (f : Int), .int .i64 (a : Int), .int .i64 (z : Int)] 25))
      obtain ⟨d0, d1, d2, d3⟩ := KA.out.1.1.cells
      obtain ⟨x0, x1, x2⟩ := talk_new wr (.int .i64 (f : Int)) (.int .i64 (a : Int)) (.int .i64 (z : Int))
      clear cB hh'
      go_wp2_with (go_at_call 10; refine (cA _).mono ?_; clear cA; rintro e w1 ⟨rfl, hB1⟩; have K1 := hid (KA.out.below hB1); clear hB1)
      go_roundw
      case rel => exact ⟨K1, .inr (.inl ⟨rfl, rfl⟩)⟩
      case measure => simp [intOf]
    · have KA := hid (KR.out.alloc (.cells #[.int .i64 (f2 : Int), .int .i64 (a2 : Int), .int .i64 (z2 : Int)] 25))
      obtain ⟨d0, d1, d2, d3⟩ := KA.out.1.1.cells
      obtain ⟨x0, x1, x2⟩ := talk_new wr (.int .i64 (f2 : Int)) (.int .i64 (a2 : Int)) (.int .i64 (z2 : Int))
      clear cA hh'
      cases b
      all_goals
        go_wp2_with (go_at_call 10; refine (cB _).mono ?_; clear cB; rintro e w1 ⟨rfl, hB1⟩; have K1 := hid (KA.out.below hB1); clear hB1)
        go_roundw
        case rel => exact ⟨K1, .inr (.inr ⟨rfl, rfl⟩)⟩
        case measure => simp [intOf]
    · obtain ⟨c0, c1, c2, c3⟩ := KR.out.1.1.cells
      obtain ⟨t0, t1, t2, _⟩ := box_three KR.out.1.2
      obtain ⟨u0, u1, u2, _⟩ := box_three KR.out.2
      clear cA cB j0 j1
      generalize (b && b2) = bb at *
      rcases hh' with rfl | ⟨rfl, g1⟩ | ⟨rfl, g1, g2⟩
      all_goals
        go_wp2
        go_ret2
        exact ⟨rfl, KR.out.1.1.2⟩

set_option maxRecDepth 100000 in
set_option maxHeartbeats 4000000 in
theorem Extract_log (P Q G H x f a z a2 z2 s : Nat) (h0 : aC (P : Int) (Q : Int) (G : Int) (H : Int) [(a : Int), (z : Int), (a2 : Int), (z2 : Int)] [] = 0)
    (cA : ∀ w, Calls Try.prog 10 #[.agg #[.int .i64 (P : Int), .int .i64 (Q : Int), .int .i64 (G : Int), .int .i64 (H : Int)], .int .i64 (x : Int), .agg #[.int .i64 (f : Int), .int .i64 (a : Int), .int .i64 (z : Int)]] w fun e w' => e = .returned (.tuple #[.bool true, .int .i64 0]) ∧ Below w.heap.size w w')
    (cB : ∀ w, Calls Try.prog 10 #[.agg #[.int .i64 (P : Int), .int .i64 (Q : Int), .int .i64 (G : Int), .int .i64 (H : Int)], .int .i64 (x : Int), .agg #[.int .i64 (f : Int), .int .i64 (a2 : Int), .int .i64 (z2 : Int)]] w fun e w' => e = .returned (.tuple #[.bool true, .int .i64 0]) ∧ Below w.heap.size w w') (hp : Pr Q) (hQ : Q ≤ 1048576) (ha : a < Q) (ha2 : a2 < Q) (hz : z < Q) (hz2 : z2 < Q) (hne : a ≠ a2)
    (HL : Hid (∀ u : Int, (Q : Int) ∣ u * ((a : Int) - (a2 : Int)) - 1 → ((z : Int) - (z2 : Int) + (Q : Int)) * u % (Q : Int) = (s : Int))) (w : World) :
    Calls Try.prog 11 #[.agg #[.int .i64 (P : Int), .int .i64 (Q : Int), .int .i64 (G : Int), .int .i64 (H : Int)], .int .i64 (x : Int), .agg #[.int .i64 (f : Int), .int .i64 (a : Int), .int .i64 (z : Int)], .agg #[.int .i64 (f : Int), .int .i64 (a2 : Int), .int .i64 (z2 : Int)]] w fun e w' => e = .returned (.tuple #[.int .i64 (s : Int), .int .i64 0]) ∧ Below w.heap.size w w' := by
  have j0 : ∀ w, (Instr.index 49 (.agg #[.int .i64 (f : Int), .int .i64 (a : Int), .int .i64 (z : Int), .int .i64 (f : Int), .int .i64 (a2 : Int), .int .i64 (z2 : Int)]) (.int .i64 0)).run Try.prog w = .ok (.agg #[.int .i64 (f : Int), .int .i64 (a : Int), .int .i64 (z : Int)]) w := fun _ => by kernel_rfl
  have j1 : ∀ w, (Instr.index 49 (.agg #[.int .i64 (f : Int), .int .i64 (a : Int), .int .i64 (z : Int), .int .i64 (f : Int), .int .i64 (a2 : Int), .int .i64 (z2 : Int)]) (.int .i64 1)).run Try.prog w = .ok (.agg #[.int .i64 (f : Int), .int .i64 (a2 : Int), .int .i64 (z2 : Int)]) w := fun _ => by kernel_rfl
  have K := hid (Ge.new w (P : Int) (Q : Int) (G : Int) (H : Int) #[.int .i64 (f : Int), .int .i64 (a : Int), .int .i64 (z : Int)] #[.int .i64 (f : Int), .int .i64 (a2 : Int), .int .i64 (z2 : Int)])
  obtain ⟨c0, c1, c2, c3⟩ := K.out.1.1.cells
  obtain ⟨t0, t1, t2, _⟩ := box_three K.out.1.2
  obtain ⟨u0, u1, u2, _⟩ := box_three K.out.2
  have cC := tk4 (P : Int) (Q : Int) (G : Int) (H : Int) (a : Int) (z : Int) (a2 : Int) (z2 : Int) _ (w.heap.size + 1 + 1 + 1) (size3 w (.cells #[.int .i64 (P : Int), .int .i64 (Q : Int), .int .i64 (G : Int), .int .i64 (H : Int)] 23) (.cells #[.int .i64 (f : Int), .int .i64 (a : Int), .int .i64 (z : Int)] 25) (.cells #[.int .i64 (f : Int), .int .i64 (a2 : Int), .int .i64 (z2 : Int)] 25))
  rw [h0] at cC
  clear h0
  have q2 := hp.1
  have cI := fun w => inv_b ((a : Int) - (a2 : Int)) (Q : Int) w (by omega) (by omega) (by omega) (by omega) (cop_diff hp ha2 ha (fun e => hne e.symm))
  have hw1 : IntKind.i64.wrap ((a : Int) - (a2 : Int)) = (a : Int) - (a2 : Int) := wrap_in _ (by omega) (by omega)
  have hw2 : IntKind.i64.wrap ((z : Int) - (z2 : Int)) = (z : Int) - (z2 : Int) := wrap_in _ (by omega) (by omega)
  have hw3 : IntKind.i64.wrap ((z : Int) - (z2 : Int) + (Q : Int)) = (z : Int) - (z2 : Int) + (Q : Int) := wrap_in _ (by omega) (by omega)
  have n0 : ¬ (Q : Int) = 0 := by omega
  have n1 : ¬ Q = 0 := by omega
  have e1 := i64_ne hne
  have e3 : ((f : Int) != (f : Int)) = false := bne_self_eq_false _
  have b1 : 0 ≤ (z : Int) - (z2 : Int) + (Q : Int) := by omega
  have b2 : (z : Int) - (z2 : Int) + (Q : Int) ≤ 2097152 := by omega
  have q3 : (Q : Int) ≤ 1048576 := by omega
  clear hp hQ ha ha2 hz hz2 hne q2
  go_enter Try.func11, Try.ntmps11
  go_wp2_with (go_at_call 16; refine cC.mono ?_; clear cC; rintro e w1 ⟨rfl, hB1⟩; have K := hid (K.out.below hB1); obtain ⟨c0, c1, c2, c3⟩ := K.out.1.1.cells; obtain ⟨t0, t1, t2, _⟩ := box_three K.out.1.2; obtain ⟨u0, u1, u2, _⟩ := box_three K.out.2; clear hB1)
  clear t0 t1 t2 u0 u1 u2 c0 c1 c2 c3
  go_loopw [11, 35] (fun v i wr => Hid (Ge w wr (P : Int) (Q : Int) (G : Int) (H : Int) #[.int .i64 (f : Int), .int .i64 (a : Int), .int .i64 (z : Int)] #[.int .i64 (f : Int), .int .i64 (a2 : Int), .int .i64 (z2 : Int)]) ∧ ((v = .bool true ∧ i = .int .i64 0) ∨ (v = .bool true ∧ i = .int .i64 1) ∨ (v = .bool true ∧ i = .int .i64 2))) (fun v i wr => ((2 : Int) - intOf i).toNat)
  case atStart => exact ⟨K, .inl ⟨rfl, rfl⟩⟩
  case round =>
    obtain ⟨KR, ⟨rfl, rfl⟩ | ⟨rfl, rfl⟩ | ⟨rfl, rfl⟩⟩ := hrel
    · have KA := hid (KR.out.alloc (.cells #[.int .i64 (f : Int), .int .i64 (a : Int), .int .i64 (z : Int)] 25))
      obtain ⟨d0, d1, d2, d3⟩ := KA.out.1.1.cells
      obtain ⟨x0, x1, x2⟩ := talk_new wr (.int .i64 (f : Int)) (.int .i64 (a : Int)) (.int .i64 (z : Int))
      clear cB cI
      go_wp2_with (go_at_call 10; refine (cA _).mono ?_; clear cA; rintro e w1 ⟨rfl, hB1⟩; have K1 := hid (KA.out.below hB1); clear hB1)
      go_roundw
      case rel => exact ⟨K1, .inr (.inl ⟨rfl, rfl⟩)⟩
      case measure => simp [intOf]
    · have KA := hid (KR.out.alloc (.cells #[.int .i64 (f : Int), .int .i64 (a2 : Int), .int .i64 (z2 : Int)] 25))
      obtain ⟨d0, d1, d2, d3⟩ := KA.out.1.1.cells
      obtain ⟨x0, x1, x2⟩ := talk_new wr (.int .i64 (f : Int)) (.int .i64 (a2 : Int)) (.int .i64 (z2 : Int))
      clear cA cI
      · go_wp2_with (go_at_call 10; refine (cB _).mono ?_; clear cB; rintro e w1 ⟨rfl, hB1⟩; have K1 := hid (KA.out.below hB1); clear hB1)
        go_roundw
        case rel => exact ⟨K1, .inr (.inr ⟨rfl, rfl⟩)⟩
        case measure => simp [intOf]
    · obtain ⟨c0, c1, c2, c3⟩ := KR.out.1.1.cells
      obtain ⟨t0, t1, t2, _⟩ := box_three KR.out.1.2
      obtain ⟨u0, u1, u2, _⟩ := box_three KR.out.2
      clear cA cB j0 j1
      go_wp2_with (go_at_call 21; refine (cI _).mono ?_; clear cI; rintro e w1 ⟨u, rfl, hu1, hu2, hu3, hB1⟩; have HU := hid (HL.out u hu3); clear hu3; have K1 := hid (KR.out.below hB1); obtain ⟨c0, c1, c2, c3⟩ := K1.out.1.1.cells; obtain ⟨t0, t1, t2, _⟩ := box_three K1.out.1.2; obtain ⟨u0, u1, u2, _⟩ := box_three K1.out.2; clear hB1; have ht0 : 0 ≤ ((z : Int) - (z2 : Int) + (Q : Int)) * u := Int.mul_nonneg b1 hu1; have ht1 : ((z : Int) - (z2 : Int) + (Q : Int)) * u ≤ 2097152 * 1048576 := Int.mul_le_mul b2 (by omega) hu1 (by omega); have hw4 : IntKind.i64.wrap (((z : Int) - (z2 : Int) + (Q : Int)) * u) = ((z : Int) - (z2 : Int) + (Q : Int)) * u := wrap_in _ (by omega) (by omega); have HU2 := hid (show (((z : Int) - (z2 : Int) + (Q : Int)) * u).tmod (Q : Int) = (s : Int) by rw [Int.tmod_eq_emod_of_nonneg ht0]; exact HU.out))
      go_ret2
      exact ⟨by first | (rw [HU2.out]; rfl) | (rw [HU.out]; rfl), K1.out.1.1.2⟩

/-! ### together -/

theorem Extract_bad (P Q G H x f a z f2 a2 z2 : Int) (h : aC P Q G H [a, z, a2, z2] [x, f, f2] ≠ 0) (w : World) :
    Calls Try.prog 11 #[.agg #[.int .i64 P, .int .i64 Q, .int .i64 G, .int .i64 H], .int .i64 x, .agg #[.int .i64 f, .int .i64 a, .int .i64 z], .agg #[.int .i64 f2, .int .i64 a2, .int .i64 z2]] w fun e w' => e = .returned (.tuple #[.int .i64 0, .int .i64 (aC P Q G H [a, z, a2, z2] [x, f, f2])]) ∧ Below w.heap.size w w' := by
  by_cases h0 : aC P Q G H [a, z, a2, z2] [] = 0
  · have h01 : aC P Q G H [a, z] [] = 0 := aC_sub' h0 (fun y hy => by simp at hy; rcases hy with rfl | rfl <;> simp) (fun y hy => hy)
    have h02 : aC P Q G H [a2, z2] [] = 0 := aC_sub' h0 (fun y hy => by simp at hy; rcases hy with rfl | rfl <;> simp) (fun y hy => hy)
    by_cases h1 : aC P Q G H [a, z] [x, f] = 0
    · have e : aC P Q G H [a, z, a2, z2] [x, f, f2] = aC P Q G H [a2, z2] [x, f2] := by
        have e1 : aC P Q G H [a, z, a2, z2] [x, f] = 0 := by rw [aC_same [x, f] h01 h0]; exact h1
        have e2 : aC P Q G H [a, z, a2, z2] [x, f, f2] = aC P Q G H [a, z, a2, z2] [x, f2] := aC_mem e1 (fun y => by simp; grind)
        rw [e2, aC_same [x, f2] h02 h0]
      rw [e] at h ⊢
      obtain ⟨p, q, g, k, rfl, rfl, rfl, rfl, hG, hx, hm⟩ := aC_zero h1
      obtain ⟨a', rfl, ha⟩ := hx a (by simp)
      obtain ⟨z', rfl, hz⟩ := hx z (by simp)
      obtain ⟨x', rfl, hx'⟩ := hm x (by simp)
      obtain ⟨f', rfl, hf'⟩ := hm f (by simp)
      exact Extract_three p q g k x' f' a' z' f2 a2 z2 (decide (f' = fst p q g x' a' z')) h0 (fun w => Check_yes p q g k x' f' a' z' hG hx' hf' ha hz _ (by rw [decide_eq_true_iff]) w) h w
    · rw [aC_form h01 h0 h1 (fun y hy => by simp at hy; rcases hy with rfl | rfl <;> simp)]
      exact Extract_two P Q G H x f a z f2 a2 z2 h0 h1 w
  · rw [aC_bad [x, f, f2] h0 (fun y hy => hy)]
    exact Extract_one P Q G H x f a z f2 a2 z2 h0 w

theorem ex4 {q a b c d : Nat} (ha : a < q) (hb : b < q) (hc : c < q) (hd : d < q) : ∀ x ∈ [(a : Int), (b : Int), (c : Int), (d : Int)], ∃ n : Nat, x = (n : Int) ∧ n < q := fun x hx => by
  simp at hx
  rcases hx with rfl | rfl | rfl | rfl
  · exact ⟨a, rfl, ha⟩
  · exact ⟨b, rfl, hb⟩
  · exact ⟨c, rfl, hc⟩
  · exact ⟨d, rfl, hd⟩

theorem Extract_no (P Q G H x f a z f2 a2 z2 : Nat) (hG : Grp P Q G H) (hx : Mem P Q x) (hf : Mem P Q f) (hf2 : Mem P Q f2) (ha : a < Q) (hz : z < Q) (ha2 : a2 < Q) (hz2 : z2 < Q)
    (hh : ¬ (f = fst P Q G x a z ∧ f2 = fst P Q G x a2 z2 ∧ f = f2 ∧ a ≠ a2)) (w : World) :
    Calls Try.prog 11 #[.agg #[.int .i64 (P : Int), .int .i64 (Q : Int), .int .i64 (G : Int), .int .i64 (H : Int)], .int .i64 (x : Int), .agg #[.int .i64 (f : Int), .int .i64 (a : Int), .int .i64 (z : Int)], .agg #[.int .i64 (f2 : Int), .int .i64 (a2 : Int), .int .i64 (z2 : Int)]] w fun e w' => e = .returned (.tuple #[.int .i64 0, .int .i64 3]) ∧ Below w.heap.size w w' :=
  Extract_arg P Q G H x f a z f2 a2 z2 (decide (f = fst P Q G x a z)) (decide (f2 = fst P Q G x a2 z2)) (aC_of hG (ex4 ha hz ha2 hz2) none0) (fun w => Check_yes P Q G H x f a z hG hx hf ha hz _ (by rw [decide_eq_true_iff]) w) (fun w => Check_yes P Q G H x f2 a2 z2 hG hx hf2 ha2 hz2 _ (by rw [decide_eq_true_iff]) w)
    (fun ⟨h1, h2, h3⟩ => hh (by rw [Bool.and_eq_true, decide_eq_true_iff, decide_eq_true_iff] at h1; exact ⟨h1.1, h1.2, h2, h3⟩)) w

theorem Extract_yes (P Q G H x f a z a2 z2 : Nat) (hG : Grp P Q G H) (hx : Mem P Q x) (hf : Mem P Q f) (ha : a < Q) (hz : z < Q) (ha2 : a2 < Q) (hz2 : z2 < Q) (h1 : f = fst P Q G x a z) (h2 : f = fst P Q G x a2 z2) (hne : a ≠ a2) : ∃ s : Nat, (s < Q ∧ G ^ s % P = x) ∧ ∀ w : World,
    Calls Try.prog 11 #[.agg #[.int .i64 (P : Int), .int .i64 (Q : Int), .int .i64 (G : Int), .int .i64 (H : Int)], .int .i64 (x : Int), .agg #[.int .i64 (f : Int), .int .i64 (a : Int), .int .i64 (z : Int)], .agg #[.int .i64 (f : Int), .int .i64 (a2 : Int), .int .i64 (z2 : Int)]] w fun e w' => e = .returned (.tuple #[.int .i64 (s : Int), .int .i64 0]) ∧ Below w.heap.size w w' := by
  obtain ⟨s, hs, es⟩ := log_ex hG.g hx
  obtain ⟨k, hk, ek⟩ := log_ex hG.g hf
  have l1 : z % Q = (k + a * s) % Q := fst_log hG.g ha hz (by rw [es, ek]; exact h1)
  have l2 : z2 % Q = (k + a2 * s) % Q := fst_log hG.g ha2 hz2 (by rw [es, ek]; exact h2)
  exact ⟨s, ⟨hs, es⟩, fun w => Extract_log P Q G H x f a z a2 z2 s (aC_of hG (ex4 ha hz ha2 hz2) none0) (fun w => Check_yes P Q G H x f a z hG hx hf ha hz true (by simp [h1]) w) (fun w => Check_yes P Q G H x f a2 z2 hG hx hf ha2 hz2 true (by simp [h2]) w) hG.g.prq (by have := hG.qlt; have := hG.big; omega) ha ha2 hz hz2 hne (hid fun u hu => ext_log hs l1 l2 hu) w⟩

end Go.Proofs.Ytpflkihagebmlab.Calls171
