/-
  The document's polynomial through points.
-/
import Derived.Test.YtiaabkadonimjabCalls61
import Derived.Test.YtiaabkadonimjabCalls73
namespace Go.Proofs.Ytiaabkadonimjab.Calls74
set_option linter.unusedVariables false
open Go.ChangeShapes Go.WideShapes Go.ChangeAt Go.RowKit Go.Deep Go.Proofs.Ytiaabkadonimjab.Base Go.Proofs.Ytiaabkadonimjab.Num Go.Proofs.Ytiaabkadonimjab.Num7 Go.Proofs.Ytiaabkadonimjab.Num13 Go.Proofs.Ytiaabkadonimjab.Num16 Go.Proofs.Ytiaabkadonimjab.Num17 Go.Proofs.Ytiaabkadonimjab.Num34 Go.Proofs.Ytiaabkadonimjab.Num35 Go.Proofs.Ytiaabkadonimjab.Base4 Go.Proofs.Ytiaabkadonimjab.Calls56 Go.Proofs.Ytiaabkadonimjab.Calls57 Go.Proofs.Ytiaabkadonimjab.Calls58 Go.Proofs.Ytiaabkadonimjab.Calls61 Go.Proofs.Ytiaabkadonimjab.Calls69 Go.Proofs.Ytiaabkadonimjab.Calls71 Go.Proofs.Ytiaabkadonimjab.Calls73
open Go.Proofs.Ytiaabkadonimjab.Calls19 (refMod_at)

theorem wrap_in (x : Int) (h1 : -9223372036854775808 ≤ x) (h2 : x ≤ 9223372036854775807) : IntKind.i64.wrap x = x := by
  rw [IntKind.wrap_i64]; omega

theorem tr_bd {p : Nat} {l : List Int} (h : Bd p l) : Bd p (tr l) := fun x hx => h x (tr_mem _ hx)

theorem bd_two {p : Nat} {x y : Int} (hx : 0 ≤ x ∧ x < (p : Int)) (hy : 0 ≤ y ∧ y < (p : Int)) : Bd p [x, y] := fun z hz => by
  simp only [List.mem_cons, List.not_mem_nil, or_false] at hz
  rcases hz with rfl | rfl
  · exact hx
  · exact hy

theorem neg_mul_bd {x k : Int} {p : Nat} (hx : 0 ≤ x ∧ x < (p : Int)) (hk : 0 ≤ k ∧ k < (p : Int)) (hp : p ≤ 251) : -63001 ≤ -x * k ∧ -x * k ≤ 0 := by
  have := mul_bd hx hk hp
  rw [Int.neg_mul]; omega

/-- The call has returned the polynomial through the points. -/
def ThrR (P : Nat) (l : List (Int × Int)) (e : Ending) (w' : World) : Prop := ∃ a, ThrIs P (px l) (py l) l.length a ∧ RetL a e w'

set_option maxRecDepth 100000 in
set_option maxHeartbeats 2000000 in
theorem refThrough_any (P : Nat) (hP : Pr P) (hP2 : P ≤ 251) (ao : Option Addr) (cap : Nat) (l : List (Int × Int)) (hl : l.length ≤ 13) (hI : InP (P : Int) l l.length) (hD : Dis l l.length) (w : World) (hrow : PRow w ao l) (hli : Lies w ao l) :
    Calls Try.prog 12 #[.int .i64 (P : Int), .slice ao l.length cap] w fun e w' => ThrR P l e w' ∧ Below w.heap.size w w' := by
  have hp1 : 1 ≤ P := by have := hP.1; omega
  have hp2 := hP.1
  have HDist := hid (dist_of hI hD)
  have HI := hid hI
  obtain ⟨N, hN⟩ : ∃ N, N = l.length := ⟨_, rfl⟩
  have HN : Hid (N = l.length) := hN
  rw [← hN] at hl ⊢
  have hp0 : ¬ (P : Int) = 0 := by omega
  have cM := fun (x : Int) w => refMod_at x P w hp1 (by omega)
  clear hN hI hD
  go_enter Try.func12, Try.ntmps12
  go_wp2
  go_loopw [5, 6] (fun vs vi wr => ∃ (i n5 c5 : Nat) (o5 : Option Addr) (s : List Int), vs = .slice o5 n5 c5 ∧ vi = .int .i64 (i : Int) ∧ i ≤ N ∧ n5 ≤ 13 ∧ n5 ≤ c5 ∧ Hid (n5 = s.length) ∧ Hid (SumIs P (px l) (py l) N i s) ∧ Hid (IRow wr o5 s) ∧ Hid (Below w.heap.size w wr)) (fun vs vi wr => ((N : Int) - intOf vi).toNat)
  case atStart => exact ⟨0, 0, 0, none, [], rfl, rfl, by omega, by omega, by omega, rfl, SumIs.start P (px l) (py l) N, irow_nil _ _, Below.refl _ _⟩
  case round =>
    obtain ⟨i, n5, c5, o5, s, rfl, rfl, hi, hn5, hc5, HN5, hS, RS, HB⟩ := hrel
    by_cases hgi : i < N
    · have hgi' : (i : Int) < (N : Int) := by omega
      have hil : Hid (i < l.length) := by have := HN.out; show i < l.length; omega
      rcases ao with _ | ad
      · exact (prow_none hrow hil.out).elim
      · obtain ⟨e1, e2⟩ := pcell (prow_below hrow HB.out hli) hil.out
        obtain ⟨hxi, hyi⟩ := HI.out i hil.out
        have HO0 : Hid (OneIs P (px l) i (py l i) 0 [py l i]) := OneIs.start (px l) i hyi
        have RO0 := hid (irow_one wr (py l i))
        have RS0 := hid (ib RS.out ((Below.refl _ wr).alloc (Nat.le_refl _) (.cells #[.int .i64 (py l i)] 2)))
        have HB0 := hid (al HB.out (.cells #[.int .i64 (py l i)] 2))
        have HS2 := hid (fun o ho => hS.out.next hp1 hgi (o := o) ho)
        obtain ⟨y, hy⟩ : ∃ y, y = py l i := ⟨_, rfl⟩
        rw [← hy] at e2 HO0 RO0 RS0 HB0 hyi HS2
        obtain ⟨xi, hxe⟩ : ∃ xi, xi = px l i := ⟨_, rfl⟩
        have HXI := hid hxe
        rw [← hxe] at e1 hxi
        have HBd5 := hid hS.out.1
        clear hS RS HB hy hxe
        go_wp2
        obtain ⟨W1, hW1⟩ : ∃ W1, W1 = wr.alloc (.cells #[.int .i64 y] 2) := ⟨_, rfl⟩
        obtain ⟨B1, hB1⟩ : ∃ B1, B1 = wr.heap.size := ⟨_, rfl⟩
        rw [← hW1] at RO0 RS0 HB0 ⊢
        rw [← hB1] at RO0 ⊢
        clear hW1 hB1 e1 e2
        go_loopw [7, 8] (fun vo vj wr => ∃ (j n7 c7 : Nat) (o7 : Option Addr) (o : List Int), vo = .slice o7 n7 c7 ∧ vj = .int .i64 (j : Int) ∧ j ≤ N ∧ n7 ≤ 14 ∧ n7 ≤ c7 ∧ Hid (n7 = o.length) ∧ Hid (OneIs P (px l) i y j o) ∧ Hid (IRow wr o7 o) ∧ Hid (IRow wr o5 s) ∧ Hid (Below w.heap.size w wr)) (fun vo vj wr => ((N : Int) - intOf vj).toNat)
        case atStart => exact ⟨0, 1, 1, _, [y], rfl, rfl, by omega, by omega, by omega, rfl, HO0, RO0, RS0, HB0⟩
        case round =>
          obtain ⟨j, n7, c7, o7, o, rfl, rfl, hj, hn7, hc7, HN7, hO, RO, RS, HB⟩ := hrel
          by_cases hgj : j < N
          · have hgj' : (j : Int) < (N : Int) := by omega
            by_cases hji : j = i
            · subst hji
              have hne : ((j : Int) != (j : Int)) = false := by simp
              have hO2 := hid hO.out.skip
              go_wp2
              go_roundw
              case rel => exact ⟨j + 1, n7, c7, o7, o, rfl, by simp, by omega, by omega, by omega, HN7, hO2, RO, RS, HB⟩
              case measure => exact measK hgj
            · have hne : ((j : Int) != (i : Int)) = true := by simp; omega
              have hjl : Hid (j < l.length) := by have := HN.out; show j < l.length; omega
              have f1 := (pcell (prow_below hrow HB.out hli) hil.out).1
              have f2 := (pcell (prow_below hrow HB.out hli) hjl.out).1
              have hxj := (HI.out j hjl.out).1
              have hd : ¬ (P : Int) ∣ px l i - px l j := by
                rcases Nat.lt_or_ge i j with h | h
                · exact fun hd => HDist.out j i hjl.out h (cong_sy hd)
                · exact HDist.out i j hil.out (by omega)
              have hO2 := hid (hO.out.next hP hji hd rfl)
              have cI := fun w => refInv_any P hp2 hP2 (rs (px l i - px l j) P : Int) w
              have cM1 := fun w => cM (px l i - px l j) w
              rw [← HXI.out] at f1 hd
              rw [← HXI.out] at hO2
              simp only [← HXI.out] at cI cM1
              have hkb : 0 ≤ (iv P (rs (xi - px l j) P : Int) : Int) ∧ (iv P (rs (xi - px l j) P : Int) : Int) < (P : Int) := ⟨by omega, by have := iv_lt hp1 (rs (xi - px l j) P : Int); omega⟩
              generalize (iv P (rs (xi - px l j) P : Int) : Int) = k at *
              generalize (rs (xi - px l j) P : Int) = r at *
              have cM2 := fun w => cM (-px l j * k) w
              have hub := rs_bd hp1 (-px l j * k)
              have hnk := neg_mul_bd hxj hkb hP2
              generalize (rs (-px l j * k) P : Int) = u at *
              have cT1 := fun w' (r : IRow w' o7 o) => refTrimmed_any o7 c7 o (by have := HN7.out; omega) (by have := HN7.out; omega) w' r
              have cT2 := fun w' (o9 : Option Addr) (r : IRow w' o9 [u, k]) => refTrimmed_any o9 2 [u, k] (by simp) (by simp) w' r
              have l1 := tr_length o
              have l2 := tr_length [u, k]
              have cMul := fun w' (o8 o9 : Option Addr) (c8 c9 : Nat) (r8 : IRow w' o8 (tr o)) (r9 : IRow w' o9 (tr [u, k])) => refMul_any P hp1 hP2 o8 o9 c8 c9 (tr o) (tr [u, k]) (tr_bd hO.out.1) (tr_bd (bd_two hub hkb)) (by have := HN7.out; omega) (by simp at l2; omega) w' r8 r9
              have hol : Hid ((nm P (pmul (tr o) (tr [u, k]))).length ≤ 14) := by
                have h1 := hO2.out.2.1
                show _ ≤ _
                split at h1 <;> omega
              simp only [← HN7.out] at cT1
              simp only [show ∀ u v : Int, [u, v].length = 2 from fun _ _ => rfl] at cT2
              generalize nm P (pmul (tr o) (tr [u, k])) = o' at *
              generalize tr o = t1 at *
              generalize tr [u, k] = t2 at *
              generalize px l j = xj at *
              clear l1 l2 hO cM hd
              go_wp2
              go_quiet (first | (go_at_call 22; exact Calls.quiet_of_same (cM1 _)) | (go_at_call 32; exact Calls.quiet_of_same (cI _)))
              go_wp2
              obtain ⟨W3, hW3⟩ : ∃ W3, W3 = wr.drewN nq := ⟨_, rfl⟩
              have ROd : Hid (IRow W3.drew o7 o) := by rw [hW3]; exact RO.out
              have RSd : Hid (IRow W3.drew o5 s) := by rw [hW3]; exact RS.out
              have HBd : Hid (Below w.heap.size w W3.drew) := by rw [hW3]; exact (below_drewN HB.out nq).drew
              have g2 : W3.drew.cell? (ad.add (j * 2)) = some (.int .i64 xj) := by rw [hW3]; exact f2
              have g3 : (W3.drew.alloc (.cells #[.int .i64 u, .int .i64 k] 2)).cell? (ad.add (j * 2)) = some (.int .i64 xj) := (((Below.refl _ W3.drew).alloc (Nat.le_refl _) _).cell (p := ad.add (j * 2)) (cell_lt g2)).trans g2
              have RSa := hid (ib RSd.out ((Below.refl _ W3.drew).alloc (Nat.le_refl _) (.cells #[.int .i64 u, .int .i64 k] 2)))
              have HBa := hid (al HBd.out (.cells #[.int .i64 u, .int .i64 k] 2))
              rw [← hW3]
              clear hW3 f1 f2 RO RS HB cI cM1
              have q1 : IntKind.i64.wrap (-xj) = -xj := wrap_in _ (by omega) (by omega)
              have q2 : IntKind.i64.wrap (-xj * k) = -xj * k := wrap_in _ (by omega) (by omega)
              have hjN : (j : Int) < (N : Int) := by omega
              go_region_held3 (fun w' => w'.cell? (ad.add (j * 2)) = some (.int .i64 xj)) (first | exact g4 | exact g3 | exact g2)
                (first
                  | (go_at_call 34; refine (cT1 _ ROd.out).mono ?_; rintro e w2 ⟨⟨o8, c8, rfl, hc8, hr8⟩, hw⟩; subst w2; have R8 := hid (ib hr8 ((Below.refl _ W3.drew).alloc (Nat.le_refl _) (.cells #[.int .i64 u, .int .i64 k] 2))); clear hr8 cT1)
                  | (go_at_call 22; refine (cM2 _).mono ?_; rintro e w' ⟨rfl, rfl⟩)
                  | (go_at_call 34; refine (cT2 _ _ (irow_two W3.drew u k)).mono ?_; rintro e w2 ⟨⟨o9, c9, rfl, hc9, hr9⟩, hw⟩; subst w2; have R9 := hid hr9; clear hr9 cT2)
                  | (go_at_call 33; refine (cMul _ _ _ _ _ R8.out R9.out).mono ?_; rintro e w4 ⟨⟨oa, ca, rfl, hca, hra⟩, hBa2⟩; have R10 := hid hra; have RS4 := hid (ib RSa.out hBa2); have HB4 := hid (below_trans HBa.out hBa2); have g4 : w4.cell? (ad.add (j * 2)) = some (.int .i64 xj) := (hBa2.cell (p := ad.add (j * 2)) (cell_lt g3)).trans g3; clear hra hBa2))
              go_wp2
              have hol2 := hol.out
              go_roundw
              case rel => exact ⟨j + 1, o'.length, ca, oa, o', rfl, by simp, by omega, hol2, hca, rfl, hO2, R10, RS4, HB4⟩
              case measure => exact measK hgj
          · have hgj' : ¬ (j : Int) < (N : Int) := by omega
            obtain rfl : j = N := by omega
            have hO2 := hid (HS2.out o (by first | exact hO.out | (show OneIs _ _ _ _ _ _; exact hO.out)))
            have cT1 := fun w' (r : IRow w' o7 o) => refTrimmed_any o7 c7 o (by have := HN7.out; omega) (by have := HN7.out; omega) w' r
            have l1 := tr_length o
            have cA := fun w' (o8 : Option Addr) (c8 : Nat) (r5 : IRow w' o5 s) (r8 : IRow w' o8 (tr o)) => refAdd_any P hp1 hP2 o5 o8 c5 c8 s (tr o) HBd5.out.1 (tr_bd hO.out.1) (by have := HN5.out; omega) (by have := HN7.out; omega) w' r5 r8
            simp only [← HN7.out] at cT1
            simp only [← HN5.out] at cA
            have hsl := hO2.out.2.1
            generalize nm P (padd s (tr o)) = s2 at *
            generalize tr o = t1 at *
            clear l1 hO
            go_wp2_with (first
              | (go_at_call 34; refine (cT1 _ RO.out).mono ?_; rintro e w2 ⟨⟨o8, c8, rfl, hc8, hr8⟩, hw⟩; subst w2; have R8 := hid hr8; clear hr8)
              | (go_at_call 35; refine (cA _ _ _ RS.out R8.out).mono ?_; rintro e w3 ⟨⟨o9, c9, rfl, hc9, hr9⟩, hB9⟩; have R9 := hid hr9; have HB9 := hid (below_trans HB.out hB9); clear hr9 hB9))
            go_roundw
            case rel => exact ⟨i + 1, s2.length, c9, o9, s2, rfl, by simp, by omega, by omega, hc9, rfl, hO2, R9, HB9⟩
            case measure => exact measK hgi
    · have hgi' : ¬ (i : Int) < (N : Int) := by omega
      obtain rfl : i = N := by omega
      go_wp2
      go_ret
      exact ⟨⟨s, by rw [← HN.out]; exact hS.out.done, o5, c5, by rw [← HN5.out]; rfl, by rw [← HN5.out]; exact hc5, RS.out⟩, HB.out⟩

end Go.Proofs.Ytiaabkadonimjab.Calls74
