/-
  Package field: whether a polynomial is a product.
-/
import Derived.Test.YtjpmkcijkcnfiaaCalls79
import Derived.Test.YtjpmkcijkcnfiaaCalls60
import Derived.Deep.RegionHeld3
import Derived.Deep.RegionWith
namespace Go.Proofs.Ytjpmkcijkcnfiaa.Calls80
set_option linter.unusedVariables false
open Go.ChangeShapes Go.WideShapes Go.ChangeAt Go.RowKit Go.Deep Go.Proofs.Ytjpmkcijkcnfiaa.Base Go.Proofs.Ytjpmkcijkcnfiaa.Base2 Go.Proofs.Ytjpmkcijkcnfiaa.Num Go.Proofs.Ytjpmkcijkcnfiaa.Num16 Go.Proofs.Ytjpmkcijkcnfiaa.Num17 Go.Proofs.Ytjpmkcijkcnfiaa.Num21 Go.Proofs.Ytjpmkcijkcnfiaa.Num23 Go.Proofs.Ytjpmkcijkcnfiaa.Num34 Go.Proofs.Ytjpmkcijkcnfiaa.Num35 Go.Proofs.Ytjpmkcijkcnfiaa.Num36 Go.Proofs.Ytjpmkcijkcnfiaa.Num37 Go.Proofs.Ytjpmkcijkcnfiaa.Num38 Go.Proofs.Ytjpmkcijkcnfiaa.Base4 Go.Proofs.Ytjpmkcijkcnfiaa.Calls56 Go.Proofs.Ytjpmkcijkcnfiaa.Calls57 Go.Proofs.Ytjpmkcijkcnfiaa.Calls58 Go.Proofs.Ytjpmkcijkcnfiaa.Calls61 Go.Proofs.Ytjpmkcijkcnfiaa.Calls75 Go.Proofs.Ytjpmkcijkcnfiaa.Calls77 Go.Proofs.Ytjpmkcijkcnfiaa.Calls78 Go.Proofs.Ytjpmkcijkcnfiaa.Calls76 Go.Proofs.Ytjpmkcijkcnfiaa.Calls79
open Go.Proofs.Ytjpmkcijkcnfiaa.Num13 (rs rs_cast)
open Go.Proofs.Ytjpmkcijkcnfiaa.Calls60 (wrap_in)

theorem root_small {u : Nat} (h : u * u ≤ 4096) : u ≤ 64 := by
  rcases Nat.lt_or_ge 64 u with h1 | h1
  · have : 65 * 65 ≤ u * u := Nat.mul_le_mul h1 h1
    omega
  · exact h1

set_option maxRecDepth 100000 in
set_option maxHeartbeats 2000000 in
theorem isProduct_any (p : Nat) (hP : Pr p) (hp : p ≤ 251) (fo : Option Addr) (cf S : Nat) (f : List Int) (hf : Cn p f) (hf2 : 2 ≤ f.length) (hfl : f.length ≤ 13) (hS : S = p ^ (f.length - 1)) (hs : S ≤ 4096) (b : Bool) (hb : b = true ↔ ¬ Irr p f) (w : World) (rf : IRow w fo f) :
    Calls Try.prog 37 #[.agg #[.int .i64 (p : Int), .slice fo f.length cf, .int .i64 (S : Int)]] w fun e w' => e = .returned (.bool b) ∧ Below w.heap.size w w' := by
  have hp1 := hP.1
  have hBw : Hid (Below w.heap.size w (w.alloc (fx p fo f.length cf S))) := (Below.refl _ w).alloc (Nat.le_refl _) _
  have hX0 := hid (Bf.new w p fo f.length cf S)
  have RF := hid (irow_below rf hBw.out (Nat.le_refl _))
  have cP := fun (a : Nat) (ha : a < 1048576) w => polynomial_any p hp1 hp fo f.length cf S a ha w
  have cD := fun (m n : Nat) (h1 : 1 ≤ m) (h2 : m ≤ 12) (h3 : n < p ^ m) (b' : Bool) (hb' : b' = true ↔ Dv p (dig p (p ^ m + n)) f) (o2 : Option Addr) (c2 : Nat) w' rf' rd => divides_any p hP hp fo cf S f hf hfl o2 c2 (dig p (p ^ m + n)) (dig_cn (by omega) _) (by rw [monic_len hp1 h2 h3, Nat.add_sub_cancel]; exact monic_top hp1 h2 h3) (fun e => by have := monic_len hp1 h2 h3; rw [e] at this; simp at this) (by have := dig_len20 p (p ^ m + n); omega) b' hb' w' rf' rd
  have hYes : Hid (∀ m n, 1 ≤ m → 2 * m ≤ f.length - 1 → n < p ^ m → Dv p (dig p (p ^ m + n)) f → b = true) := fun m n h1 h2 h3 h4 => hb.2 ((prod_iff hP hf hf2 (by rw [← hS]; exact hs)).1 ⟨m, n, h1, h2, h3, h4⟩)
  have hNo : Hid ((∀ m n, 1 ≤ m → 2 * m ≤ f.length - 1 → n < p ^ m → ¬ Dv p (dig p (p ^ m + n)) f) → b = false) := fun h => by
    cases b with
    | false => rfl
    | true =>
      obtain ⟨m, n, h1, h2, h3, h4⟩ := (prod_iff hP hf hf2 (by rw [← hS]; exact hs)).2 (hb.1 rfl)
      exact absurd h4 (h m n h1 h2 h3)
  obtain ⟨K, hK⟩ : ∃ K, K = f.length - 1 := ⟨_, rfl⟩
  have hCond : Hid (∀ m u, u = p ^ m → (u * u ≤ S ↔ 2 * m ≤ K)) := fun m u hu => by rw [hu, hS, hK]; exact pow_two_le hp1
  have hK12 : K ≤ 12 := by omega
  rw [← hK] at hYes hNo
  obtain ⟨n, hn⟩ : ∃ n, n = f.length := ⟨_, rfl⟩
  rw [← hn] at hX0 hBw RF ⊢
  simp only [← hn] at cP cD
  clear hn hK hS rf hb hf hf2 hfl
  go_enter Try.func37, Try.ntmps37
  go_wp2
  obtain ⟨W0, hW0⟩ : ∃ W0, w.alloc (fx p fo n cf S) = W0 := ⟨_, rfl⟩
  obtain ⟨B, hBe⟩ : ∃ B, w.heap.size = B := ⟨_, rfl⟩
  rw [hW0] at hX0 hBw RF ⊢
  rw [hBe] at hX0 ⊢
  have hlt : B < W0.heap.size := BoxC.lt hX0.out
  clear hW0
  go_loopw [3] (fun v wr => ∃ m u : Nat, v = .int .i64 (u : Int) ∧ 1 ≤ m ∧ 2 ≤ u ∧ u ≤ 16064 ∧ Hid (u = p ^ m) ∧ Hid (∀ m' n', 1 ≤ m' → m' < m → n' < p ^ m' → ¬ Dv p (dig p (p ^ m' + n')) f) ∧ Hid (Below W0.heap.size W0 wr)) (fun v wr => ((S : Int) + 1 - intOf v).toNat)
  case atStart => exact ⟨1, p, rfl, by omega, hp1, by omega, by show _ = _; simp, fun m' n' h1 h2 => by omega, Below.refl _ _⟩
  case round =>
    obtain ⟨m, u, rfl, hm1, hu2, hu, hU, hN, hB⟩ := hrel
    have hX := hid (hX0.out.below hB.out hlt)
    have e2 := hX.out.c2
    have hc := hCond.out m u hU.out
    have huu : (0 : Int) ≤ (u : Int) * (u : Int) ∧ (u : Int) * (u : Int) ≤ 258052096 := by
      have h3 : u * u ≤ 16064 * 16064 := Nat.mul_le_mul hu hu
      have h4 : (u : Int) * (u : Int) = ((u * u : Nat) : Int) := by simp
      rw [h4]; omega
    have huc : (u : Int) * (u : Int) = ((u * u : Nat) : Int) := by simp
    by_cases hgo : u * u ≤ S
    · have hgo' : (u : Int) * (u : Int) ≤ (S : Int) := by rw [huc]; omega
      have h2m := hc.1 hgo
      have hu64 := root_small (Nat.le_trans hgo hs)
      have huS : u ≤ S := Nat.le_trans (Nat.le_mul_of_pos_left u (by omega)) hgo
      clear hc hgo huc
      go_wp2
      clear e2 hX
      go_loopw [18] (fun i wr => ∃ v : Nat, i = .int .i64 (v : Int) ∧ v ≤ u ∧ Hid (∀ n', n' < v → ¬ Dv p (dig p (p ^ m + n')) f) ∧ Hid (Below W0.heap.size W0 wr)) (fun i wr => ((u : Int) - intOf i).toNat)
      case atStart => exact ⟨0, rfl, by omega, fun n' h => by omega, hB⟩
      case round =>
        obtain ⟨v, rfl, hv, hV, hB2⟩ := hrel
        have hX := hid (hX0.out.below hB2.out hlt)
        have d0 := hX.out.c0
        by_cases hgv : v < u
        · have hgv' : (v : Int) < (u : Int) := by omega
          have d1 := hX.out.c1
          have d2 := hX.out.c2
          have hvp : v < p ^ m := by rw [← hU.out]; exact hgv
          have cP1 := cP (u + v) (by omega)
          have RFd : Hid (IRow wr.drew fo f) := irow_below RF.out hB2.out.drew (Nat.le_refl _)
          have HBd : Hid (Below W0.heap.size W0 wr.drew) := hB2.out.drew
          obtain ⟨b', hb'⟩ := dvB_ex p (dig p (p ^ m + v)) f
          have cD1 := cD m v hm1 (by omega) hvp b' hb'
          have hY1 := hid (fun h => hYes.out m v hm1 h2m hvp (hb'.1 h))
          have hN1 : Hid (b' = false → ∀ n', n' < v + 1 → ¬ Dv p (dig p (p ^ m + n')) f) := fun h n' hn' => by
            by_cases e : n' = v
            · subst e; intro h2; rw [hb'.2 h2] at h; cases h
            · exact hV.out n' (by omega)
          rw [hU.out] at cP1
          clear hb' hvp cP cD
          generalize dig p (p ^ m + v) = d at *
          simp only [← hU.out, Int.natCast_add] at cP1
          unfold RetL at cP1
          obtain ⟨nd, hnd⟩ : ∃ nd, nd = d.length := ⟨_, rfl⟩
          simp only [← hnd] at cP1 cD1
          clear hnd
          have hw1 : IntKind.i64.wrap ((u : Int) + (v : Int)) = (u : Int) + (v : Int) := wrap_in _ (by omega) (by omega)
          cases b' with
          | true =>
            have hbt : Hid (b = true) := hY1.out rfl
            clear hY1 hN1
            go_wp2
            go_region_held3 (fun w' => w'.cell? ⟨B, 0, none⟩ = some (.int .i64 (p : Int)) ∧ w'.cell? ⟨B, 1, none⟩ = some (.slice fo n cf) ∧ w'.cell? ⟨B, 2, none⟩ = some (.int .i64 (S : Int))) (first | exact ⟨d0', d1', d2'⟩ | exact ⟨d0, d1, d2⟩)
              (first
                | (go_at_call 40; refine (cP1 _).mono ?_; rintro e w3 ⟨⟨o2, c2, rfl, hc2, hr2⟩, hB3⟩; have H2 := hid hr2; have HB3 := hid (below_trans HBd.out hB3); have X3 := hid (hX0.out.below HB3.out hlt); have d0' := X3.out.c0; have d1' := X3.out.c1; have d2' := X3.out.c2; have RF3 := hid (irow_below RF.out HB3.out (Nat.le_refl _)); clear hr2 hB3)
                | (go_at_call 54; refine (cD1 o2 c2 _ RF3.out H2.out).mono ?_; rintro e w4 ⟨rfl, hB4⟩; have HB4 := hid (below_trans HB3.out hB4); have X4 := hid (hX0.out.below HB4.out hlt); have d0' := X4.out.c0; have d1' := X4.out.c1; have d2' := X4.out.c2; clear hB4))
            go_wp2
            go_ret
            exact ⟨ret_bool hbt.out.symm, below_trans hBw.out HB4.out⟩
          | false =>
            have hN2 := hid (hN1.out rfl)
            clear hY1 hN1
            go_wp2
            go_region_held3 (fun w' => w'.cell? ⟨B, 0, none⟩ = some (.int .i64 (p : Int)) ∧ w'.cell? ⟨B, 1, none⟩ = some (.slice fo n cf) ∧ w'.cell? ⟨B, 2, none⟩ = some (.int .i64 (S : Int))) (first | exact ⟨d0', d1', d2'⟩ | exact ⟨d0, d1, d2⟩)
              (first
                | (go_at_call 40; refine (cP1 _).mono ?_; rintro e w3 ⟨⟨o2, c2, rfl, hc2, hr2⟩, hB3⟩; have H2 := hid hr2; have HB3 := hid (below_trans HBd.out hB3); have X3 := hid (hX0.out.below HB3.out hlt); have d0' := X3.out.c0; have d1' := X3.out.c1; have d2' := X3.out.c2; have RF3 := hid (irow_below RF.out HB3.out (Nat.le_refl _)); clear hr2 hB3)
                | (go_at_call 54; refine (cD1 o2 c2 _ RF3.out H2.out).mono ?_; rintro e w4 ⟨rfl, hB4⟩; have HB4 := hid (below_trans HB3.out hB4); have X4 := hid (hX0.out.below HB4.out hlt); have d0' := X4.out.c0; have d1' := X4.out.c1; have d2' := X4.out.c2; clear hB4))
            go_wp2
            go_roundw
            case rel => exact ⟨v + 1, by simp, by omega, hN2, HB4⟩
            case measure => exact measK hgv
        · have hgv' : ¬ (v : Int) < (u : Int) := by omega
          obtain rfl : v = u := by omega
          have hN2 : Hid (∀ m' n', 1 ≤ m' → m' < m + 1 → n' < p ^ m' → ¬ Dv p (dig p (p ^ m' + n')) f) := fun m' n' h1 h2 h3 => by
            by_cases e : m' = m
            · subst e; exact hV.out n' (by rw [hU.out]; exact h3)
            · exact hN.out m' n' h1 (by omega) h3
          have hvp2 : v * p ≤ 64 * 251 := Nat.mul_le_mul hu64 hp
          have hvp3 : v * 2 ≤ v * p := Nat.mul_le_mul_left _ hp1
          have hvc : (v : Int) * (p : Int) = ((v * p : Nat) : Int) := by simp
          have hU2 : Hid (v * p = p ^ (m + 1)) := by show _ = _; rw [Nat.pow_succ, hU.out]
          obtain ⟨u2, hu2e⟩ : ∃ u2, u2 = v * p := ⟨_, rfl⟩
          rw [← hu2e] at hvp2 hvp3 hvc hU2
          clear hu2e cP cD
          have hme : Hid (((S : Int) + 1 - (u2 : Int)).toNat < ((S : Int) + 1 - (v : Int)).toNat) := by show _ < _; omega
          go_wp2
          go_roundw
          case rel => exact ⟨m + 1, u2, rfl, by omega, by omega, by omega, hU2, hN2, hB2⟩
          case measure => exact hme.out
    · have hgo' : decide ((u : Int) * (u : Int) ≤ (S : Int)) = false := by rw [huc]; simp; omega
      have h2m : ¬ 2 * m ≤ K := fun h => hgo (hc.2 h)
      have hbf : Hid (b = false) := hNo.out (fun m' n' h1 h2 h3 => hN.out m' n' h1 (by omega) h3)
      clear hc hgo huc cP cD
      go_wp2
      go_ret
      exact ⟨ret_bool hbf.out.symm, below_trans hBw.out hB.out⟩

end Go.Proofs.Ytjpmkcijkcnfiaa.Calls80
