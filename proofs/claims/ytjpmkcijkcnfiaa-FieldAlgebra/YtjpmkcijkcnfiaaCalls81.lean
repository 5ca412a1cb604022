/-
  Package field: sums, products and powers of elements.
-/
import Derived.Test.YtjpmkcijkcnfiaaCalls80
import Derived.Test.YtjpmkcijkcnfiaaCalls60
import Derived.Deep.RegionHeld3
import Derived.Deep.RegionWith
namespace Go.Proofs.Ytjpmkcijkcnfiaa.Calls81
set_option linter.unusedVariables false
open Go.ChangeShapes Go.WideShapes Go.ChangeAt Go.RowKit Go.Deep Go.Proofs.Ytjpmkcijkcnfiaa.Base Go.Proofs.Ytjpmkcijkcnfiaa.Base2 Go.Proofs.Ytjpmkcijkcnfiaa.Num Go.Proofs.Ytjpmkcijkcnfiaa.Num16 Go.Proofs.Ytjpmkcijkcnfiaa.Num17 Go.Proofs.Ytjpmkcijkcnfiaa.Num21 Go.Proofs.Ytjpmkcijkcnfiaa.Num23 Go.Proofs.Ytjpmkcijkcnfiaa.Num34 Go.Proofs.Ytjpmkcijkcnfiaa.Num35 Go.Proofs.Ytjpmkcijkcnfiaa.Num36 Go.Proofs.Ytjpmkcijkcnfiaa.Num37 Go.Proofs.Ytjpmkcijkcnfiaa.Num38 Go.Proofs.Ytjpmkcijkcnfiaa.Base4 Go.Proofs.Ytjpmkcijkcnfiaa.Calls56 Go.Proofs.Ytjpmkcijkcnfiaa.Calls57 Go.Proofs.Ytjpmkcijkcnfiaa.Calls58 Go.Proofs.Ytjpmkcijkcnfiaa.Calls61 Go.Proofs.Ytjpmkcijkcnfiaa.Calls75 Go.Proofs.Ytjpmkcijkcnfiaa.Calls77 Go.Proofs.Ytjpmkcijkcnfiaa.Calls78 Go.Proofs.Ytjpmkcijkcnfiaa.Calls76 Go.Proofs.Ytjpmkcijkcnfiaa.Calls79 Go.Proofs.Ytjpmkcijkcnfiaa.Calls62 Go.Proofs.Ytjpmkcijkcnfiaa.Calls80
open Go.Proofs.Ytjpmkcijkcnfiaa.Num13 (rs rs_cast)
open Go.Proofs.Ytjpmkcijkcnfiaa.Calls60 (wrap_in)
open Go.Proofs.Ytjpmkcijkcnfiaa.Num20 (pw)
open Go.Proofs.Ytjpmkcijkcnfiaa.Num22 (El MulR)

/-- A field's reckoning. -/
abbrev Fe (p : Nat) (f : List Int) : Type := Go.Proofs.Ytjpmkcijkcnfiaa.Num20.Fd (El p f)

set_option maxRecDepth 100000 in
set_option maxHeartbeats 2000000 in
theorem plus_any (p : Nat) (hP : Pr p) (hp : p ≤ 251) (fo : Option Addr) (n cf S k : Nat) (hk : k ≤ 12) (hs : p ^ k ≤ 4096) (a b : Nat) (ha : a < p ^ k) (hb : b < p ^ k) (w : World) :
    Calls Try.prog 25 #[.agg #[.int .i64 (p : Int), .slice fo n cf, .int .i64 (S : Int)], .int .i64 (a : Int), .int .i64 (b : Int)] w fun e w' => e = .returned (.int .i64 (fad p a b : Int)) ∧ Below w.heap.size w w' := by
  have hp1 := hP.1
  have hBw : Hid (Below w.heap.size w (w.alloc (fx p fo n cf S))) := (Below.refl _ w).alloc (Nat.le_refl _) _
  have hX0 := hid (Bf.new w p fo n cf S)
  have cA := fun w => polynomial_any p hp1 hp fo n cf S a (by omega) w
  have cB := fun w => polynomial_any p hp1 hp fo n cf S b (by omega) w
  have cS := fun (ao bo : Option Addr) (ca cb : Nat) w' ra rb => Add_yes p hP hp ao bo ca cb (dig p a) (dig p b) (by have := dig_len (p := p) (by omega) ha (by omega); omega) (by have := dig_len (p := p) (by omega) hb (by omega); omega) (dig_cn (by omega) a) (dig_cn (by omega) b) w' ra rb
  have hl := fad_fits (p := p) (by omega) ha hb (by omega)
  have hpl : p ^ (nm p (padd (dig p a) (dig p b))).length ≤ 4096 := Nat.le_trans (Nat.pow_le_pow_right (by omega) hl) hs
  have cN := fun (ao : Option Addr) (ca : Nat) w' ra => element_any p hp1 hp fo n cf S ao ca (nm p (padd (dig p a) (dig p b))) (nm_cn (by omega) _).1 (by omega) (by omega) w' ra
  have HF : Hid (nb p (nm p (padd (dig p a) (dig p b))) = fad p a b) := rfl
  simp only [HF.out] at cN
  clear HF hl hpl ha hb hs
  unfold RetL at cA cB
  unfold RetE at cS
  generalize nm p (padd (dig p a) (dig p b)) = r at *
  generalize dig p a = da at *
  generalize dig p b = db at *
  generalize fad p a b = z at *
  obtain ⟨na, hna⟩ : ∃ na, na = da.length := ⟨_, rfl⟩
  obtain ⟨nb', hnb⟩ : ∃ nb', nb' = db.length := ⟨_, rfl⟩
  obtain ⟨nr, hnr⟩ : ∃ nr, nr = r.length := ⟨_, rfl⟩
  simp only [← hna, ← hnb, ← hnr] at cA cB cS cN
  clear hna hnb hnr
  go_enter Try.func25, Try.ntmps25
  go_wp2
  obtain ⟨W0, hW0⟩ : ∃ W0, w.alloc (fx p fo n cf S) = W0 := ⟨_, rfl⟩
  obtain ⟨B, hBe⟩ : ∃ B, w.heap.size = B := ⟨_, rfl⟩
  rw [hW0] at hX0 hBw ⊢
  rw [hBe] at hX0 ⊢
  have hlt : B < W0.heap.size := BoxC.lt hX0.out
  clear hW0
  have d0 := hX0.out.c0
  have d1 := hX0.out.c1
  have d2 := hX0.out.c2
  have HBd : Hid (Below W0.heap.size W0 W0.drew) := (Below.refl _ _).drew
  go_region_held3 (fun w' => w'.cell? ⟨B, 0, none⟩ = some (.int .i64 (p : Int)) ∧ w'.cell? ⟨B, 1, none⟩ = some (.slice fo n cf) ∧ w'.cell? ⟨B, 2, none⟩ = some (.int .i64 (S : Int))) (first | exact ⟨d0', d1', d2'⟩ | exact ⟨d0, d1, d2⟩)
    (first
      | (go_at_call 40; refine (cA _).mono ?_; rintro e w1 ⟨⟨o1, c1, rfl, hc1, hr1⟩, hBw1⟩; have HBw1 := hid (below_trans HBd.out hBw1); have Xw1 := hid (hX0.out.below HBw1.out hlt); have d0' := Xw1.out.c0; have d1' := Xw1.out.c1; have d2' := Xw1.out.c2; have H1 := hid hr1; clear hr1 cA; clear hBw1)
      | (go_at_call 40; refine (cB _).mono ?_; rintro e w2 ⟨⟨o2, c2, rfl, hc2, hr2⟩, hBw2⟩; have HBw2 := hid (below_trans HBw1.out hBw2); have Xw2 := hid (hX0.out.below HBw2.out hlt); have d0' := Xw2.out.c0; have d1' := Xw2.out.c1; have d2' := Xw2.out.c2; have H2 := hid hr2; have H12 := hid (irow_below H1.out hBw2 (Nat.le_refl _)); clear hr2 cB; clear hBw2)
      | (go_at_call 39; refine (cS o1 o2 c1 c2 _ H12.out H2.out).mono ?_; rintro e w3 ⟨⟨o3, c3, rfl, hc3, hr3⟩, hBw3⟩; have HBw3 := hid (below_trans HBw2.out hBw3); have Xw3 := hid (hX0.out.below HBw3.out hlt); have d0' := Xw3.out.c0; have d1' := Xw3.out.c1; have d2' := Xw3.out.c2; have H3 := hid hr3; clear hr3; clear hBw3))
  go_wp2_with (go_at_call 41; refine (cN o3 c3 _ H3.out).mono ?_; rintro e w4 ⟨rfl, hB4⟩; have HB4 := hid (below_trans HBw3.out hB4); clear hB4)
  go_ret
  exact ⟨rfl, below_trans hBw.out HB4.out⟩

set_option maxRecDepth 100000 in
set_option maxHeartbeats 2000000 in
theorem times_any (p : Nat) (f : List Int) (hf : Fld p f) (fo : Option Addr) (cf S : Nat) (a b : Nat) (ha : a < p ^ (f.length - 1)) (hb : b < p ^ (f.length - 1)) (w : World) (rf : IRow w fo f) :
    Calls Try.prog 29 #[.agg #[.int .i64 (p : Int), .slice fo f.length cf, .int .i64 (S : Int)], .int .i64 (a : Int), .int .i64 (b : Int)] w fun e w' => MulE p f a b e ∧ Below w.heap.size w w' := by
  have hP := hf.1
  have hp1 := hf.1.1
  have hp := hf.2.1
  have hfl := hf.2.2.2.2.1
  have hfs := hf.2.2.2.2.2.2.1
  have nf : f ≠ [] := fun e => by have := hf.2.2.2.1; rw [e] at this; simp at this
  have hBw : Hid (Below w.heap.size w (w.alloc (fx p fo f.length cf S))) := (Below.refl _ w).alloc (Nat.le_refl _) _
  have hX0 := hid (Bf.new w p fo f.length cf S)
  have RF := hid (irow_below rf hBw.out (Nat.le_refl _))
  have cA := fun w => polynomial_any p hp1 hp fo f.length cf S a (by omega) w
  have cB := fun w => polynomial_any p hp1 hp fo f.length cf S b (by omega) w
  have cS := fun (ao bo : Option Addr) (ca cb : Nat) w' ra rb => Mul_yes p hP hp ao bo ca cb (dig p a) (dig p b) (by have := dig_len (p := p) (by omega) ha (by omega); omega) (by have := dig_len (p := p) (by omega) hb (by omega); omega) (dig_cn (by omega) a) (dig_cn (by omega) b) w' ra rb
  have cR := fun (ao : Option Addr) (ca : Nat) w' ra rf' => (rest_any p hP hp fo f.length cf S ao fo ca cf (nm p (pmul (dig p a) (dig p b))) f (nm_cn (by omega) _) hf.2.2.1 hf.2.2.2.2.2.1 nf (by have := mul_short (p := p) (by omega) a b; omega) (by omega) w' ra rf').mono (R' := fun e w2 => (∃ l, Hid (FMul p f a b (nb p l) ∧ Bd p l ∧ p ^ l.length ≤ 1048576 ∧ l.length ≤ 4096) ∧ RetL l e w2) ∧ Below w'.heap.size w' w2) (fun e w2 ⟨⟨q, l, hD, hbd, hlen, hr⟩, hB⟩ => ⟨⟨l, ⟨⟨tr l, mulR_of (by omega) hD, (nb_tr p l).symm⟩, hbd, by
      have h1 : p ^ l.length ≤ p ^ (f.length - 1) := Nat.pow_le_pow_right (by omega) (by omega)
      omega, by omega⟩, hr⟩, hB⟩)
  have cN := fun (ao : Option Addr) (ca : Nat) (r : List Int) (h : Hid (FMul p f a b (nb p r) ∧ Bd p r ∧ p ^ r.length ≤ 1048576 ∧ r.length ≤ 4096)) w' ra => element_any p hp1 hp fo f.length cf S ao ca r h.out.2.1 h.out.2.2.1 h.out.2.2.2 w' ra
  obtain ⟨n, hn⟩ : ∃ n, n = f.length := ⟨_, rfl⟩
  rw [← hn] at hX0 hBw RF ⊢
  simp only [← hn] at cA cB cR cN
  clear hn rf hf nf ha hb hfs hfl
  unfold RetL at cA cB cR
  unfold RetE at cS
  generalize nm p (pmul (dig p a) (dig p b)) = r at *
  generalize dig p a = da at *
  generalize dig p b = db at *
  obtain ⟨na, hna⟩ : ∃ na, na = da.length := ⟨_, rfl⟩
  obtain ⟨nb', hnb⟩ : ∃ nb', nb' = db.length := ⟨_, rfl⟩
  obtain ⟨nr, hnr⟩ : ∃ nr, nr = r.length := ⟨_, rfl⟩
  simp only [← hna, ← hnb, ← hnr] at cA cB cS cR
  clear hna hnb hnr
  go_enter Try.func29, Try.ntmps29
  go_wp2
  obtain ⟨W0, hW0⟩ : ∃ W0, w.alloc (fx p fo n cf S) = W0 := ⟨_, rfl⟩
  obtain ⟨B, hBe⟩ : ∃ B, w.heap.size = B := ⟨_, rfl⟩
  rw [hW0] at hX0 hBw RF ⊢
  rw [hBe] at hX0 ⊢
  have hlt : B < W0.heap.size := BoxC.lt hX0.out
  clear hW0
  have d0 := hX0.out.c0
  have d1 := hX0.out.c1
  have d2 := hX0.out.c2
  have HBd : Hid (Below W0.heap.size W0 W0.drew) := (Below.refl _ _).drew
  go_region_held3 (fun w' => w'.cell? ⟨B, 0, none⟩ = some (.int .i64 (p : Int)) ∧ w'.cell? ⟨B, 1, none⟩ = some (.slice fo n cf) ∧ w'.cell? ⟨B, 2, none⟩ = some (.int .i64 (S : Int))) (first | exact ⟨d0', d1', d2'⟩ | exact ⟨d0, d1, d2⟩)
    (first
      | (go_at_call 40; refine (cA _).mono ?_; rintro e w1 ⟨⟨o1, c1, rfl, hc1, hr1⟩, hBw1⟩; have HBw1 := hid (below_trans HBd.out hBw1); have Xw1 := hid (hX0.out.below HBw1.out hlt); have d0' := Xw1.out.c0; have d1' := Xw1.out.c1; have d2' := Xw1.out.c2; have H1 := hid hr1; clear hr1 cA; clear hBw1)
      | (go_at_call 40; refine (cB _).mono ?_; rintro e w2 ⟨⟨o2, c2, rfl, hc2, hr2⟩, hBw2⟩; have HBw2 := hid (below_trans HBw1.out hBw2); have Xw2 := hid (hX0.out.below HBw2.out hlt); have d0' := Xw2.out.c0; have d1' := Xw2.out.c1; have d2' := Xw2.out.c2; have H2 := hid hr2; have H12 := hid (irow_below H1.out hBw2 (Nat.le_refl _)); clear hr2 cB; clear hBw2)
      | (go_at_call 44; refine (cS o1 o2 c1 c2 _ H12.out H2.out).mono ?_; rintro e w3 ⟨⟨o3, c3, rfl, hc3, hr3⟩, hBw3⟩; have HBw3 := hid (below_trans HBw2.out hBw3); have Xw3 := hid (hX0.out.below HBw3.out hlt); have d0' := Xw3.out.c0; have d1' := Xw3.out.c1; have d2' := Xw3.out.c2; have H3 := hid hr3; clear hr3; clear hBw3))
  clear d0 d1 d2
  have d0 := Xw3.out.c0
  have d1 := Xw3.out.c1
  have d2 := Xw3.out.c2
  have HB3d : Hid (Below W0.heap.size W0 w3.drew) := HBw3.out.drew
  have H3d : Hid (IRow w3.drew o3 r) := H3.out
  have RF3 : Hid (IRow w3.drew fo f) := irow_below RF.out HBw3.out.drew (Nat.le_refl _)
  go_wp2
  go_region_held3 (fun w' => w'.cell? ⟨B, 0, none⟩ = some (.int .i64 (p : Int)) ∧ w'.cell? ⟨B, 1, none⟩ = some (.slice fo n cf) ∧ w'.cell? ⟨B, 2, none⟩ = some (.int .i64 (S : Int))) (first | exact ⟨d0', d1', d2'⟩ | exact ⟨d0, d1, d2⟩)
    (first
      | (go_at_call 45; refine (cR o3 c3 _ H3d.out RF3.out).mono ?_; rintro e w4 ⟨⟨l4, hL4, o4, c4, rfl, hc4, hr4⟩, hBw4⟩; have HBw4 := hid (below_trans HB3d.out hBw4); have Xw4 := hid (hX0.out.below HBw4.out hlt); have d0' := Xw4.out.c0; have d1' := Xw4.out.c1; have d2' := Xw4.out.c2; have H4 := hid hr4; clear hr4; clear hBw4)
      | (go_at_call 41; refine (cN o4 c4 l4 hL4 _ H4.out).mono ?_; rintro e w5 ⟨rfl, hBw5⟩; have HBw5 := hid (below_trans HBw4.out hBw5); have Xw5 := hid (hX0.out.below HBw5.out hlt); have d0' := Xw5.out.c0; have d1' := Xw5.out.c1; have d2' := Xw5.out.c2; clear hBw5))
  go_wp2
  go_ret
  exact ⟨⟨_, hL4.out.1, rfl⟩, below_trans hBw.out HBw5.out⟩

theorem times_el (p : Nat) (f : List Int) (hf : Fld p f) (F : Fe p f) (hF : Fits p f F) (fo : Option Addr) (cf S : Nat) (x y : El p f) (w : World) (rf : IRow w fo f) :
    Calls Try.prog 29 #[.agg #[.int .i64 (p : Int), .slice fo f.length cf, .int .i64 (S : Int)], .int .i64 (num x : Int), .int .i64 (num y : Int)] w fun e w' => e = .returned (.int .i64 (num (F.mul x y) : Int)) ∧ Below w.heap.size w w' := by
  have hp1 := hf.1.1
  exact (times_any p f hf fo cf S (num x) (num y) (num_lt (by omega) x) (num_lt (by omega) y) w rf).mono (fun e w' ⟨⟨c, hc, he⟩, hB⟩ => ⟨by rw [he, hF.mul hf.1 hf.2.2.1 hf.fl.2 x y hc], hB⟩)

set_option maxRecDepth 100000 in
set_option maxHeartbeats 2000000 in
theorem power_el (p : Nat) (f : List Int) (hf : Fld p f) (F : Fe p f) (hF : Fits p f F) (fo : Option Addr) (cf S : Nat) (x : El p f) (N : Nat) (hN : N ≤ 1048576) (w : World) (rf : IRow w fo f) :
    Calls Try.prog 32 #[.agg #[.int .i64 (p : Int), .slice fo f.length cf, .int .i64 (S : Int)], .int .i64 (num x : Int), .int .i64 (N : Int)] w fun e w' => e = .returned (.int .i64 (num (pw F x N) : Int)) ∧ Below w.heap.size w w' := by
  have hBw : Hid (Below w.heap.size w (w.alloc (fx p fo f.length cf S))) := (Below.refl _ w).alloc (Nat.le_refl _) _
  have hX0 := hid (Bf.new w p fo f.length cf S)
  have RF := hid (irow_below rf hBw.out (Nat.le_refl _))
  have cT := fun (y z : El p f) w' rf' => times_el p f hf F hF fo cf S y z w' rf'
  have hone : Hid (num F.one = 1) := hF.one
  obtain ⟨n, hn⟩ : ∃ n, n = f.length := ⟨_, rfl⟩
  rw [← hn] at hX0 hBw RF ⊢
  simp only [← hn] at cT
  clear hn rf hf hF
  go_enter Try.func32, Try.ntmps32
  go_wp2
  obtain ⟨W0, hW0⟩ : ∃ W0, w.alloc (fx p fo n cf S) = W0 := ⟨_, rfl⟩
  obtain ⟨B, hBe⟩ : ∃ B, w.heap.size = B := ⟨_, rfl⟩
  rw [hW0] at hX0 hBw RF ⊢
  rw [hBe] at hX0 ⊢
  have hlt : B < W0.heap.size := BoxC.lt hX0.out
  clear hW0
  go_loopw [1, 2, 7] (fun va vn vo wr => ∃ (y o : El p f) (k : Nat), va = .int .i64 (num y : Int) ∧ vn = .int .i64 (k : Int) ∧ vo = .int .i64 (num o : Int) ∧ k ≤ 1048576 ∧ Hid (F.mul o (pw F y k) = pw F x N) ∧ Hid (Below W0.heap.size W0 wr)) (fun va vn vo wr => (intOf vn).toNat)
  case atStart => exact ⟨x, F.one, N, rfl, rfl, by rw [hone.out]; rfl, hN, F.one_mul _, Below.refl _ _⟩
  case round =>
    obtain ⟨y, o, k, rfl, rfl, rfl, hk, hI, hB⟩ := hrel
    have hX := hid (hX0.out.below hB.out hlt)
    have d0 := hX.out.c0
    have d1 := hX.out.c1
    have d2 := hX.out.c2
    have RFr := hid (irow_below RF.out hB.out (Nat.le_refl _))
    by_cases hgo : k = 0
    · subst hgo
      have hE : Hid (o = pw F x N) := by
        show _ = _
        rw [← hI.out]
        exact (Go.Proofs.Ytjpmkcijkcnfiaa.Num20.mul_one F o).symm
      clear cT
      go_wp2
      go_ret
      exact ⟨by rw [hE.out]; rfl, below_trans hBw.out hB.out⟩
    · have hgo' : 0 < (k : Int) := by omega
      have hk2 : (k : Int) / 2 = ((k / 2 : Nat) : Int) := by simp
      have hme : k / 2 < k := by omega
      have hk3 : k / 2 ≤ 1048576 := by omega
      have cT2 := cT y y
      by_cases hodd : k % 2 = 1
      · have hodd' : (k : Int) % 2 = 1 := by omega
        have hI2 : Hid (F.mul (F.mul o y) (pw F (F.mul y y) (k / 2)) = pw F x N) := by show _ = _; rw [sq_odd F o y hodd]; exact hI.out
        have cT1 := cT o y
        obtain ⟨u1, hu1⟩ : ∃ u1, u1 = F.mul o y := ⟨_, rfl⟩
        obtain ⟨u2, hu2⟩ : ∃ u2, u2 = F.mul y y := ⟨_, rfl⟩
        rw [← hu1, ← hu2] at hI2
        simp only [← hu1] at cT1
        simp only [← hu2] at cT2
        clear hu1 hu2 cT hI hodd
        obtain ⟨q, hq⟩ : ∃ q, q = k / 2 := ⟨_, rfl⟩
        rw [← hq] at hk2 hme hk3 hI2
        clear hq
        go_wp2_with (first
          | (go_at_call 29; refine (cT1 _ RFr.out).mono ?_; rintro e w1 ⟨rfl, hB1⟩; have HB1 := hid (below_trans hB.out hB1); have X1 := hid (hX0.out.below HB1.out hlt); have d0' := X1.out.c0; have d1' := X1.out.c1; have d2' := X1.out.c2; have RF1 := hid (irow_below RF.out HB1.out (Nat.le_refl _)); clear hB1 cT1)
          | (go_at_call 29; refine (cT2 _ RF1.out).mono ?_; rintro e w2 ⟨rfl, hB2⟩; have HB2 := hid (below_trans HB1.out hB2); clear hB2))
        go_roundw
        case rel => exact ⟨u2, u1, q, rfl, rfl, rfl, hk3, hI2, HB2⟩
        case measure => show ((q : Nat) : Int).toNat < ((k : Nat) : Int).toNat; omega
      · have hodd' : ¬ (k : Int) % 2 = 1 := by omega
        have hodd2 : ((k : Int) % 2 == 1) = false := by simpa using hodd'
        have hI2 : Hid (F.mul o (pw F (F.mul y y) (k / 2)) = pw F x N) := by show _ = _; rw [sq_even F o y (by omega)]; exact hI.out
        obtain ⟨u2, hu2⟩ : ∃ u2, u2 = F.mul y y := ⟨_, rfl⟩
        rw [← hu2] at hI2
        simp only [← hu2] at cT2
        clear hu2 cT hI hodd
        obtain ⟨q, hq⟩ : ∃ q, q = k / 2 := ⟨_, rfl⟩
        rw [← hq] at hk2 hme hk3 hI2
        clear hq
        go_wp2_with (go_at_call 29; refine (cT2 _ RFr.out).mono ?_; rintro e w2 ⟨rfl, hB2⟩; have HB2 := hid (below_trans hB.out hB2); clear hB2)
        go_roundw
        case rel => exact ⟨u2, o, q, rfl, rfl, rfl, hk3, hI2, HB2⟩
        case measure => show ((q : Nat) : Int).toNat < ((k : Nat) : Int).toNat; omega

end Go.Proofs.Ytjpmkcijkcnfiaa.Calls81
