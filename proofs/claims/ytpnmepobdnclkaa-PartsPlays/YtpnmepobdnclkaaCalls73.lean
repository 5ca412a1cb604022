/-
  Package poly: the polynomial through points.
-/
import Derived.Test.YtpnmepobdnclkaaCalls59
import Derived.Test.YtpnmepobdnclkaaCalls62
import Derived.Test.YtpnmepobdnclkaaCalls66
import Derived.Test.YtpnmepobdnclkaaCalls71
import Derived.Deep.RegionWith
import Derived.Deep.RegionHeld3
namespace Go.Proofs.Ytpnmepobdnclkaa.Calls73
set_option linter.unusedVariables false
open Go.ChangeShapes Go.WideShapes Go.ChangeAt Go.RowKit Go.Deep Go.Proofs.Ytpnmepobdnclkaa.Base Go.Proofs.Ytpnmepobdnclkaa.Num Go.Proofs.Ytpnmepobdnclkaa.Num7 Go.Proofs.Ytpnmepobdnclkaa.Num13 Go.Proofs.Ytpnmepobdnclkaa.Num16 Go.Proofs.Ytpnmepobdnclkaa.Num17 Go.Proofs.Ytpnmepobdnclkaa.Num34 Go.Proofs.Ytpnmepobdnclkaa.Num35 Go.Proofs.Ytpnmepobdnclkaa.Base4 Go.Proofs.Ytpnmepobdnclkaa.Calls56 Go.Proofs.Ytpnmepobdnclkaa.Calls57 Go.Proofs.Ytpnmepobdnclkaa.Calls58 Go.Proofs.Ytpnmepobdnclkaa.Calls59 Go.Proofs.Ytpnmepobdnclkaa.Calls62 Go.Proofs.Ytpnmepobdnclkaa.Calls66 Go.Proofs.Ytpnmepobdnclkaa.Calls69 Go.Proofs.Ytpnmepobdnclkaa.Calls71

theorem boxc_below {W W' : World} {B : Nat} {t : TypeId} {cs : Array Value} (h : BoxC W B t cs) (hb : Below W.heap.size W W') : BoxC W' B t cs := (hb.block B h.lt).trans h

theorem ib {W W' : World} {ao : Option Addr} {l : List Int} (h : IRow W ao l) (hB : Below W.heap.size W W') : IRow W' ao l := irow_below h hB (Nat.le_refl _)

theorem irow_one (W : World) (x : Int) : IRow (W.alloc (.cells #[.int .i64 x] 2)) (some ⟨W.heap.size, 0, none⟩) [x] := by
  refine ⟨fun e => (by cases e), fun ad e j hj => ?_⟩
  obtain rfl : (⟨W.heap.size, 0, none⟩ : Addr) = ad := by simpa using e
  obtain rfl : j = 0 := by simpa using hj
  simp [co, zero_add_addr]

theorem irow_two (W : World) (x y : Int) : IRow (W.alloc (.cells #[.int .i64 x, .int .i64 y] 2)) (some ⟨W.heap.size, 0, none⟩) [x, y] := by
  refine ⟨fun e => (by cases e), fun ad e j hj => ?_⟩
  obtain rfl : (⟨W.heap.size, 0, none⟩ : Addr) = ad := by simpa using e
  have : j = 0 ∨ j = 1 := by simp at hj; omega
  rcases this with rfl | rfl <;> simp [co, zero_add_addr]

theorem Through_bad (p : Int) (ao : Option Addr) (cap : Nat) (l : List (Int × Int)) (hm : l.length ≤ 9223372036854775807) (c : Int) (hc : PtC p l c) (h0 : c ≠ 0) (w : World) (hrow : PRow w ao l) (hli : Lies w ao l) :
    Calls Try.prog 46 #[.int .i64 p, .slice ao l.length cap] w fun e w' => e = .returned (.tuple #[.slice none 0 0, .int .i64 c]) ∧ Below w.heap.size w w' := by
  have cC := checkPoints_any p ao cap l hm c hc w hrow hli
  generalize l.length = n at *
  have h1 : (c != 0) = true := by simpa using h0
  have h2 : (c == 0) = false := by simpa using h0
  clear hc hrow
  go_enter Try.func46, Try.ntmps46
  go_wp2_with (go_at_call 58; refine cC.mono ?_; rintro e w1 ⟨rfl, hB⟩)
  go_ret2
  exact ⟨rfl, hB⟩

/-- Different places by the prime. -/
theorem dist_of {P : Nat} {l : List (Int × Int)} {n : Nat} (hI : InP (P : Int) l n) (hD : Dis l n) : Dist P (px l) n := fun i j hi hj hd =>
  hD i j hi hj (small_of hd (hI i hi).1 (hI j (by omega)).1)

/-- The call has returned the polynomial through the points, and no error. -/
def ThrE (P : Nat) (l : List (Int × Int)) (e : Ending) (w' : World) : Prop := ∃ a, ThrIs P (px l) (py l) l.length a ∧ RetE a e w'

set_option maxRecDepth 100000 in
set_option maxHeartbeats 2000000 in
theorem Through_yes (P : Nat) (hP : Pr P) (hP2 : P ≤ 251) (ao : Option Addr) (cap : Nat) (l : List (Int × Int)) (hl : l.length ≤ 13) (hI : InP (P : Int) l l.length) (hD : Dis l l.length) (hc : PtC (P : Int) l 0) (w : World) (hrow : PRow w ao l) (hli : Lies w ao l) :
    Calls Try.prog 46 #[.int .i64 (P : Int), .slice ao l.length cap] w fun e w' => ThrE P l e w' ∧ Below w.heap.size w w' := by
  have hp1 : 1 ≤ P := by have := hP.1; omega
  have hp2 := hP.1
  have cC := checkPoints_any (P : Int) ao cap l (by omega) 0 hc w hrow hli
  have HDist := hid (dist_of hI hD)
  have HI := hid hI
  obtain ⟨N, hN⟩ : ∃ N, N = l.length := ⟨_, rfl⟩
  have HN : Hid (N = l.length) := hN
  rw [← hN] at hl cC ⊢
  have hp0 : ¬ (P : Int) = 0 := by omega
  clear hN hI hD hc
  go_enter Try.func46, Try.ntmps46
  go_wp2_with (go_at_call 58; refine cC.mono ?_; rintro e w1 ⟨rfl, hB1⟩)
  have HB0 := hid (al hB1 (.cells #[.int .i64 1] 2))
  have R0 := hid (irow_one w1 1)
  have T0 := hid (ThrIs.start P (px l) (py l))
  have Z0 := hid (ZeroIs.start hp2 (px l))
  clear cC
  go_loopw [7, 8, 21] (fun va vz i wr => ∃ (k n1 n2 c1 c2 : Nat) (o1 o2 : Option Addr) (a z : List Int), va = .slice o1 n1 c1 ∧ vz = .slice o2 n2 c2 ∧ i = .int .i64 (k : Int) ∧ k ≤ N ∧ n1 ≤ 13 ∧ n2 ≤ 14 ∧ n1 ≤ c1 ∧ Hid (n1 = a.length) ∧ Hid (n2 = z.length) ∧ Hid (ThrIs P (px l) (py l) k a) ∧ Hid (ZeroIs P (px l) k z) ∧ Hid (IRow wr o1 a) ∧ Hid (IRow wr o2 z) ∧ Hid (Below w.heap.size w wr)) (fun va vz i wr => ((N : Int) - intOf i).toNat)
  case atStart => exact ⟨0, 0, 1, 0, 1, none, _, [], [1], rfl, rfl, rfl, by omega, by omega, by omega, by omega, rfl, rfl, T0, Z0, irow_nil _ _, R0, HB0⟩
  case round =>
    obtain ⟨k, n1, n2, c1, c2, o1, o2, a, z, rfl, rfl, rfl, hk, hn1, hn2, hc1, HN1, HN2, hT, hZ, RA, RZ, HB⟩ := hrel
    by_cases hgo : k < N
    · have hgo' : (k : Int) < (N : Int) := by omega
      have hkl : Hid (k < l.length) := by have := HN.out; show k < l.length; omega
      rcases ao with _ | ad
      · exact (prow_none hrow hkl.out).elim
      · obtain ⟨e1, e2⟩ := pcell (prow_below hrow HB.out hli) hkl.out
        obtain ⟨hxb, hyb⟩ := HI.out k hkl.out
        have hdk := fun j (hj : j < k) => HDist.out k j hkl.out hj
        have HT2 := hid (fun m hm => hT.out.next hP hZ.out hdk (m := m) hm)
        have HZ2 := hid (hZ.out.next hP)
        have hz0 : rs (ev z (px l k)) P ≠ 0 := rs_ne hp1 (hZ.out.2.2.2 _ hdk)
        have cV1 := fun w' (r : IRow w' o1 a) => value_any P hp1 hP2 o1 c1 a (px l k) ⟨by omega, by omega⟩ hT.out.1.1 (by have := HN1.out; omega) w' r
        have cV2 := fun w' (r : IRow w' o2 z) => value_any P hp1 hP2 o2 c2 z (px l k) ⟨by omega, by omega⟩ hZ.out.1.1 (by have := HN2.out; omega) w' r
        have hv1 := rs_bd hp1 (ev a (px l k))
        have hv2 := rs_bd hp1 (ev z (px l k))
        have hz0' : (rs (ev z (px l k)) P : Int) ≠ 0 := by omega
        clear hz0 hdk
        simp only [← HN1.out] at cV1
        simp only [← HN2.out] at cV2
        generalize (rs (ev a (px l k)) P : Int) = v1 at *
        generalize (rs (ev z (px l k)) P : Int) = v2 at *
        have cL1 := fun w => left_any (py l k - v1) P hp1 (by omega) w
        have cI := fun w => inverse_any P hP (by omega) v2 hv2 hz0' w
        have hm1 := rs_bd hp1 (py l k - v1)
        have hiv : 0 ≤ (iv P v2 : Int) ∧ (iv P v2 : Int) < (P : Int) := ⟨by omega, by have := iv_lt hp1 v2; omega⟩
        generalize (rs (py l k - v1) P : Int) = m1 at *
        generalize (iv P v2 : Int) = i2 at *
        have hmm := mul_bd hm1 hiv hP2
        have cS := fun w' (r : IRow w' o2 z) => scale_any P hp1 hP2 o2 c2 z (m1 * i2 % (P : Int)) hZ.out.1.1 (mod_bd hp1 _) (by have := HN2.out; omega) w' r
        have HT3 := hid (HT2.out _ rfl)
        have la2 : (nm P (psc (m1 * i2 % (P : Int)) z)).length ≤ 14 := by have := nm_length P (psc (m1 * i2 % (P : Int)) z); have h2 := HN2.out; have h3 : (psc (m1 * i2 % (P : Int)) z).length = z.length := (by simp [psc]); omega
        have cA := fun w' (o3 : Option Addr) (c3 : Nat) (r : IRow w' o1 a) (r3 : IRow w' o3 (nm P (psc (m1 * i2 % (P : Int)) z))) => sum_any P hp1 hP2 o1 o3 c1 c3 a (nm P (psc (m1 * i2 % (P : Int)) z)) hT.out.1.1 (nm_cn hp1 _).1 (by have := HN1.out; omega) (by omega) w' r r3
        have cL2 := fun w => left_any (-px l k) P hp1 (by omega) w
        have cP := fun w' (o4 : Option Addr) (c4 : Nat) (r : IRow w' o2 z) (r4 : IRow w' o4 [(rs (-px l k) P : Int), 1]) => product_any P hP hP2 o2 o4 c2 c4 z [(rs (-px l k) P : Int), 1] hZ.out.1 (cn_two hp2 _) (by have := HN2.out; omega) (by simp) w' r r4
        simp only [show ∀ u v : Int, [u, v].length = 2 from fun _ _ => rfl, ← HN2.out] at cP
        simp only [← HN1.out] at cA
        simp only [← HN2.out] at cS
        have BX := hid (BoxC.new wr 30 #[.int .i64 (px l k), .int .i64 (py l k)])
        have HB2 := hid (al HB.out (.cells #[.int .i64 (px l k), .int .i64 (py l k)] 30))
        have RA2 := hid (ib RA.out ((Below.refl _ wr).alloc (Nat.le_refl _) (.cells #[.int .i64 (px l k), .int .i64 (py l k)] 30)))
        have RZ2 := hid (ib RZ.out ((Below.refl _ wr).alloc (Nat.le_refl _) (.cells #[.int .i64 (px l k), .int .i64 (py l k)] 30)))
        generalize (rs (-px l k) P : Int) = u at *
        generalize nm P (psc (m1 * i2 % (P : Int)) z) = a2 at *
        generalize nm P (padd a a2) = a3 at *
        generalize nm P (pmul z [u, 1]) = z2 at *
        generalize px l k = x at *
        generalize py l k = y at *
        clear hT hZ RA RZ HB HT2
        go_wp2
        obtain ⟨W2, hW2⟩ : ∃ W2, W2 = wr.alloc (.cells #[.int .i64 x, .int .i64 y] 30) := ⟨_, rfl⟩
        obtain ⟨B, hB⟩ : ∃ B, B = wr.heap.size := ⟨_, rfl⟩
        rw [← hW2] at BX HB2 RA2 RZ2 ⊢
        rw [← hB] at BX ⊢
        clear hW2 hB e1 e2
        have d0 : W2.cell? ⟨B, 0, none⟩ = some (.int .i64 x) := BX.out.cell 0
        have d1 : W2.cell? ⟨B, 1, none⟩ = some (.int .i64 y) := BX.out.cell 1
        have q1 : IntKind.i64.wrap (y - v1) = y - v1 := by rw [IntKind.wrap_i64]; omega
        have BXd : Hid (BoxC W2.drew B 30 #[.int .i64 x, .int .i64 y]) := BX.out
        have RAd : Hid (IRow W2.drew o1 a) := RA2.out
        have RZd : Hid (IRow W2.drew o2 z) := RZ2.out
        have HBd : Hid (Below w.heap.size w W2.drew) := HB2.out.drew
        go_region_held3 (fun w' => w'.cell? ⟨B, 0, none⟩ = some (.int .i64 x) ∧ w'.cell? ⟨B, 1, none⟩ = some (.int .i64 y)) (first | exact ⟨d0', d1'⟩ | exact ⟨d0, d1⟩)
          (first
            | (go_at_call 60; refine (cV1 _ RAd.out).mono ?_; rintro e w3 ⟨rfl, hB3⟩; have BX3 := hid (boxc_below BXd.out hB3); have d0' : w3.cell? ⟨B, 0, none⟩ = some (.int .i64 x) := BX3.out.cell 0; have d1' : w3.cell? ⟨B, 1, none⟩ = some (.int .i64 y) := BX3.out.cell 1; have RA3 := hid (ib RAd.out hB3); have RZ3 := hid (ib RZd.out hB3); have HB3 := hid (below_trans HBd.out hB3))
            | (go_at_call 59; refine (cL1 _).mono ?_; rintro e w' ⟨rfl, rfl⟩))
        clear BX RA2 RZ2 HB2 BXd RAd RZd HBd d0 d1 cV1 cL1 hB3
        go_wp2_with (first
          | (go_at_call 60; refine (cV2 _ RZ3.out).mono ?_; rintro e w4 ⟨rfl, hB4⟩; have BX4 := hid (boxc_below BX3.out hB4); have RA4 := hid (ib RA3.out hB4); have RZ4 := hid (ib RZ3.out hB4); have HB4 := hid (below_trans HB3.out hB4); clear hB4 BX3 RA3 RZ3 HB3)
          | (go_at_call 63; refine (cI _).mono ?_; rintro e w5 ⟨rfl, hB5⟩; have BX5 := hid (boxc_below BX4.out hB5); have RA5 := hid (ib RA4.out hB5); have RZ5 := hid (ib RZ4.out hB5); have HB5 := hid (below_trans HB4.out hB5); clear hB5 BX4 RA4 RZ4 HB4)
          | (go_at_call 62; refine (cS _ RZ5.out).mono ?_; rintro e w6 ⟨⟨o3, c3, rfl, hc3, hr3⟩, hB6⟩; have R3 := hid hr3; have BX6 := hid (boxc_below BX5.out hB6); have RA6 := hid (ib RA5.out hB6); have RZ6 := hid (ib RZ5.out hB6); have HB6 := hid (below_trans HB5.out hB6); clear hB6 hr3 BX5 RA5 RZ5 HB5)
          | (go_at_call 61; refine (cA _ _ _ RA6.out R3.out).mono ?_; rintro e w7 ⟨⟨o4, c4, rfl, hc4, hr4⟩, hB7⟩; have R4 := hid hr4; have BX7 := hid (boxc_below BX6.out hB7); have RZ7 := hid (ib RZ6.out hB7); have HB7 := hid (below_trans HB6.out hB7); have d0 : w7.cell? ⟨B, 0, none⟩ = some (.int .i64 x) := BX7.out.cell 0; clear hB7 hr4 BX6 RA6 RZ6 HB6)
          | (go_at_call 59; refine (cL2 _).mono ?_; rintro e w' ⟨rfl, hw⟩; subst w')
          | (go_at_call 64; refine (cP _ _ _ (ib RZ7.out ((Below.refl _ w7).alloc (Nat.le_refl _) _)) (irow_two _ _ _)).mono ?_; rintro e w8 ⟨⟨o5, c5, rfl, hc5, hr5⟩, hB8⟩; have R5 := hid hr5; have R48 := hid (ib (ib R4.out ((Below.refl _ w7).alloc (Nat.le_refl _) _)) hB8); have HB8 := hid (below_trans (al HB7.out _) hB8); clear hB8 hr5))
        have l3 := HT3.out.2.1
        have l5 := HZ2.out.2.1
        go_roundw
        case rel => exact ⟨k + 1, a3.length, z2.length, c4, c5, o4, o5, a3, z2, rfl, rfl, by simp, by omega, by omega, by omega, hc4, rfl, rfl, HT3, HZ2, R48, R5, HB8⟩
        case measure => exact measK hgo
    · have hgo' : ¬ (k : Int) < (N : Int) := by omega
      obtain rfl : k = N := by omega
      go_wp2
      go_ret2
      exact ⟨⟨a, by rw [← HN.out]; exact hT.out, o1, c1, by rw [← HN1.out]; rfl, by rw [← HN1.out]; exact hc1, RA.out⟩, HB.out⟩

end Go.Proofs.Ytpnmepobdnclkaa.Calls73
