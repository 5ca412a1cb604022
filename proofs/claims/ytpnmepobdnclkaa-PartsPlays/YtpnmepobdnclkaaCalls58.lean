/-
  Package poly: sums, products, multiples.
-/
import Derived.Test.YtpnmepobdnclkaaCalls57
namespace Go.Proofs.Ytpnmepobdnclkaa.Calls58
set_option linter.unusedVariables false
open Go.ChangeShapes Go.WideShapes Go.ChangeAt Go.RowKit Go.Deep Go.Proofs.Ytpnmepobdnclkaa.Base Go.Proofs.Ytpnmepobdnclkaa.Base2 Go.Proofs.Ytpnmepobdnclkaa.Num Go.Proofs.Ytpnmepobdnclkaa.Num13 Go.Proofs.Ytpnmepobdnclkaa.Num16 Go.Proofs.Ytpnmepobdnclkaa.Num17 Go.Proofs.Ytpnmepobdnclkaa.Num34 Go.Proofs.Ytpnmepobdnclkaa.Base4 Go.Proofs.Ytpnmepobdnclkaa.Calls56 Go.Proofs.Ytpnmepobdnclkaa.Calls57

theorem below_set {B : Nat} {w W : World} {g : Nat} (h : Below B w W) (hg : B ≤ g) (i : Nat) (u : Value) : Below B w (W.setCell ⟨g, i, none⟩ u) := h.setCell (p := ⟨g, i, none⟩) hg u

theorem mul_bd {x y : Int} {p : Nat} (hx : 0 ≤ x ∧ x < (p : Int)) (hy : 0 ≤ y ∧ y < (p : Int)) (hp : p ≤ 251) : 0 ≤ x * y ∧ x * y ≤ 63001 := by
  refine ⟨Int.mul_nonneg hx.1 hy.1, ?_⟩
  have := Int.mul_le_mul (a := x) (b := y) (c := 251) (d := 251) (by omega) (by omega) hy.1 (by omega)
  omega

theorem emod_bd (x : Int) {p : Nat} (hp : 1 ≤ p) : 0 ≤ x % (p : Int) ∧ x % (p : Int) < (p : Int) := mod_bd hp x

set_option maxRecDepth 100000 in
theorem sum_le (p : Nat) (hp1 : 1 ≤ p) (hp : p ≤ 251) (ao bo : Option Addr) (ca cb : Nat) (a b : List Int) (ha : Bd p a) (hb : Bd p b) (hla : a.length ≤ 4096) (hle : b.length ≤ a.length) (w : World) (ra : IRow w ao a) (rb : IRow w bo b) :
    Calls Try.prog 61 #[.int .i64 (p : Int), .slice ao a.length ca, .slice bo b.length cb] w fun e w' => RetL (nm p (padd a b)) e w' ∧ Below w.heap.size w w' := by
  obtain ⟨i0, hi, hz0, hz1, hz2⟩ := info_ex
  obtain ⟨na, hna⟩ : ∃ na, na = a.length := ⟨_, rfl⟩
  obtain ⟨nb, hnb⟩ : ∃ nb, nb = b.length := ⟨_, rfl⟩
  have HNA : Hid (na = a.length) := hna
  have HNB : Hid (nb = b.length) := hnb
  have HA := hid ha
  have HB := hid hb
  have hp0 : ¬ (p : Int) = 0 := by omega
  have hdone : Hid (tr (mk na (adf p a b nb)) = nm p (padd a b)) := by show _ = _; rw [hna, hnb]; exact adf_done hp1 ha (by omega)
  have cT := fun (g cap : Nat) (f : Nat → Int) (w' : World) (h : Own1 w' w.heap.size g na cap f) => trim_any (some ⟨g, 0, none⟩) cap (mk na f) (by rw [mk_length]; omega) (by rw [mk_length]; exact h.cap_le) w' h.row
  rw [← hna, ← hnb]
  rw [← hna, ← hnb] at hle
  rw [← hna] at hla
  have RA := hid (irow_below ra ((Below.refl _ w).alloc (Nat.le_refl _) (.cells #[] 2)) (Nat.le_refl _))
  have own0 := hid (owns_empty w w.heap.size 2 1 (Nat.le_refl _))
  have hB0 : Hid (Below w.heap.size w (w.alloc (.cells #[] 2))) := (Below.refl _ w).alloc (Nat.le_refl _) _
  clear hna hnb ha hb ra
  have hc1 : decide ((na : Int) < (nb : Int)) = false := by simp; omega
  go_enter Try.func61, Try.ntmps61
  go_wp2_with (at_builtin; refine wpList_copy _ rfl _ _ 22 rfl w.heap.size 2 i0 Try.underlying22 hi hz0 hz1 hz2 w.heap.size rfl own0.out ao na ca a rfl HNA.out RA.out (by omega) (by simp) ?_; intro g cg w1 hown1 hgrow1 hg1)
  have hB1 : Hid (Below w.heap.size w w1) := hB0.out.trans (below_grown own0.out hgrow1 (Nat.le_refl _) (by simp))
  have O1 : Hid (Own1 w1 w.heap.size g na cg (adf p a b 0)) := by rw [adf_zero]; exact own1_of hown1
  clear hown1 hgrow1 own0 RA hB0
  go_loopw [22] (fun i wr => ∃ k : Nat, i = .int .i64 (k : Int) ∧ k ≤ nb ∧ Hid (Own1 wr w.heap.size g na cg (adf p a b k)) ∧ Hid (Below w.heap.size w wr)) (fun i wr => ((nb : Int) - intOf i).toNat)
  case atStart => exact ⟨0, rfl, by omega, O1, hB1⟩
  case round =>
    obtain ⟨k, rfl, hk, hO, hBr⟩ := hrel
    by_cases hgo : k < nb
    · have hgo' : (k : Int) < (nb : Int) := by omega
      have hgo2 : (k : Int) < (na : Int) := by omega
      have hkl : Hid (k < b.length) := by have := HNB.out; show k < b.length; omega
      rcases bo with _ | bd
      · exact (irow_none rb hkl.out).elim
      · have c1 := (irow_below rb hBr.out (Nat.le_refl _)).2 bd rfl k hkl.out
        have c2 := hO.out.cell (show k < na by omega)
        rw [adf_at] at c2
        have c3 := hO.out.frozen k
        have hx := HA.out.at hp1 k
        have hy := HB.out.at hp1 k
        have hO2 : Hid (Own1 (wr.setCell ⟨g, k, none⟩ (.int .i64 ((co a k + co b k) % (p : Int)))) w.heap.size g na cg (adf p a b (k + 1))) := (hO.out.set k _).congr (adf_step p a b k)
        have hB2 : Hid (Below w.heap.size w (wr.setCell ⟨g, k, none⟩ (.int .i64 ((co a k + co b k) % (p : Int))))) := below_set hBr.out hO.out.lt.1 k _
        generalize co a k = x at *
        generalize co b k = y at *
        go_wp2
        go_roundw
        case rel => exact ⟨k + 1, by simp, by omega, hO2, hB2⟩
        case measure => exact measK hgo
    · have hgo' : ¬ (k : Int) < (nb : Int) := by omega
      obtain rfl : k = nb := by omega
      have cT2 := hid (cT g cg _ wr hO.out)
      rw [hdone.out, mk_length] at cT2
      clear cT
      go_wp2_with (go_at_call 73; refine cT2.out.mono ?_; rintro e w2 ⟨⟨bo2, cb2, rfl, hcb2, hrow2⟩, hw⟩; subst w2; have H2 := hid hrow2; clear hrow2)
      go_ret
      exact ⟨⟨bo2, cb2, rfl, hcb2, H2.out⟩, hBr.out⟩

set_option maxRecDepth 100000 in
theorem sum_gt (p : Nat) (hp1 : 1 ≤ p) (hp : p ≤ 251) (ao bo : Option Addr) (ca cb : Nat) (a b : List Int) (ha : Bd p a) (hb : Bd p b) (hla : a.length ≤ 4096) (hle : b.length < a.length) (w : World) (ra : IRow w ao a) (rb : IRow w bo b) :
    Calls Try.prog 61 #[.int .i64 (p : Int), .slice bo b.length cb, .slice ao a.length ca] w fun e w' => RetL (nm p (padd a b)) e w' ∧ Below w.heap.size w w' := by
  obtain ⟨i0, hi, hz0, hz1, hz2⟩ := info_ex
  obtain ⟨na, hna⟩ : ∃ na, na = a.length := ⟨_, rfl⟩
  obtain ⟨nb, hnb⟩ : ∃ nb, nb = b.length := ⟨_, rfl⟩
  have HNA : Hid (na = a.length) := hna
  have HNB : Hid (nb = b.length) := hnb
  have HA := hid ha
  have HB := hid hb
  have hp0 : ¬ (p : Int) = 0 := by omega
  have hdone : Hid (tr (mk na (adf p a b nb)) = nm p (padd a b)) := by show _ = _; rw [hna, hnb]; exact adf_done hp1 ha (by omega)
  have cT := fun (g cap : Nat) (f : Nat → Int) (w' : World) (h : Own1 w' w.heap.size g na cap f) => trim_any (some ⟨g, 0, none⟩) cap (mk na f) (by rw [mk_length]; omega) (by rw [mk_length]; exact h.cap_le) w' h.row
  rw [← hna, ← hnb]
  rw [← hna, ← hnb] at hle
  rw [← hna] at hla
  have RA := hid (irow_below ra ((Below.refl _ w).alloc (Nat.le_refl _) (.cells #[] 2)) (Nat.le_refl _))
  have own0 := hid (owns_empty w w.heap.size 2 1 (Nat.le_refl _))
  have hB0 : Hid (Below w.heap.size w (w.alloc (.cells #[] 2))) := (Below.refl _ w).alloc (Nat.le_refl _) _
  clear hna hnb ha hb ra
  have hc1 : decide ((nb : Int) < (na : Int)) = true := by simp; omega
  go_enter Try.func61, Try.ntmps61
  go_wp2_with (at_builtin; refine wpList_copy _ rfl _ _ 22 rfl w.heap.size 2 i0 Try.underlying22 hi hz0 hz1 hz2 w.heap.size rfl own0.out ao na ca a rfl HNA.out RA.out (by omega) (by simp) ?_; intro g cg w1 hown1 hgrow1 hg1)
  have hB1 : Hid (Below w.heap.size w w1) := hB0.out.trans (below_grown own0.out hgrow1 (Nat.le_refl _) (by simp))
  have O1 : Hid (Own1 w1 w.heap.size g na cg (adf p a b 0)) := by rw [adf_zero]; exact own1_of hown1
  clear hown1 hgrow1 own0 RA hB0
  go_loopw [22] (fun i wr => ∃ k : Nat, i = .int .i64 (k : Int) ∧ k ≤ nb ∧ Hid (Own1 wr w.heap.size g na cg (adf p a b k)) ∧ Hid (Below w.heap.size w wr)) (fun i wr => ((nb : Int) - intOf i).toNat)
  case atStart => exact ⟨0, rfl, by omega, O1, hB1⟩
  case round =>
    obtain ⟨k, rfl, hk, hO, hBr⟩ := hrel
    by_cases hgo : k < nb
    · have hgo' : (k : Int) < (nb : Int) := by omega
      have hgo2 : (k : Int) < (na : Int) := by omega
      have hkl : Hid (k < b.length) := by have := HNB.out; show k < b.length; omega
      rcases bo with _ | bd
      · exact (irow_none rb hkl.out).elim
      · have c1 := (irow_below rb hBr.out (Nat.le_refl _)).2 bd rfl k hkl.out
        have c2 := hO.out.cell (show k < na by omega)
        rw [adf_at] at c2
        have c3 := hO.out.frozen k
        have hx := HA.out.at hp1 k
        have hy := HB.out.at hp1 k
        have hO2 : Hid (Own1 (wr.setCell ⟨g, k, none⟩ (.int .i64 ((co a k + co b k) % (p : Int)))) w.heap.size g na cg (adf p a b (k + 1))) := (hO.out.set k _).congr (adf_step p a b k)
        have hB2 : Hid (Below w.heap.size w (wr.setCell ⟨g, k, none⟩ (.int .i64 ((co a k + co b k) % (p : Int))))) := below_set hBr.out hO.out.lt.1 k _
        generalize co a k = x at *
        generalize co b k = y at *
        go_wp2
        go_roundw
        case rel => exact ⟨k + 1, by simp, by omega, hO2, hB2⟩
        case measure => exact measK hgo
    · have hgo' : ¬ (k : Int) < (nb : Int) := by omega
      obtain rfl : k = nb := by omega
      have cT2 := hid (cT g cg _ wr hO.out)
      rw [hdone.out, mk_length] at cT2
      clear cT
      go_wp2_with (go_at_call 73; refine cT2.out.mono ?_; rintro e w2 ⟨⟨bo2, cb2, rfl, hcb2, hrow2⟩, hw⟩; subst w2; have H2 := hid hrow2; clear hrow2)
      go_ret
      exact ⟨⟨bo2, cb2, rfl, hcb2, H2.out⟩, hBr.out⟩

theorem sum_any (p : Nat) (hp1 : 1 ≤ p) (hp : p ≤ 251) (ao bo : Option Addr) (ca cb : Nat) (a b : List Int) (ha : Bd p a) (hb : Bd p b) (hla : a.length ≤ 4096) (hlb : b.length ≤ 4096) (w : World) (ra : IRow w ao a) (rb : IRow w bo b) :
    Calls Try.prog 61 #[.int .i64 (p : Int), .slice ao a.length ca, .slice bo b.length cb] w fun e w' => RetL (nm p (padd a b)) e w' ∧ Below w.heap.size w w' := by
  by_cases h : b.length ≤ a.length
  · exact sum_le p hp1 hp ao bo ca cb a b ha hb hla h w ra rb
  · have := sum_gt p hp1 hp bo ao cb ca b a hb ha hlb (by omega) w rb ra
    rwa [nm_eq hp1 (Eqv.q (padd_comm b a))] at this

end Go.Proofs.Ytpnmepobdnclkaa.Calls58
