/-
  Package poly: products and multiples.
-/
import Derived.Test.YtpnmepobdnclkaaCalls58
namespace Go.Proofs.Ytpnmepobdnclkaa.Calls59
set_option linter.unusedVariables false
open Go.ChangeShapes Go.WideShapes Go.ChangeAt Go.RowKit Go.Deep Go.Proofs.Ytpnmepobdnclkaa.Base Go.Proofs.Ytpnmepobdnclkaa.Base2 Go.Proofs.Ytpnmepobdnclkaa.Num Go.Proofs.Ytpnmepobdnclkaa.Num13 Go.Proofs.Ytpnmepobdnclkaa.Num16 Go.Proofs.Ytpnmepobdnclkaa.Num17 Go.Proofs.Ytpnmepobdnclkaa.Num34 Go.Proofs.Ytpnmepobdnclkaa.Base4 Go.Proofs.Ytpnmepobdnclkaa.Calls56 Go.Proofs.Ytpnmepobdnclkaa.Calls57 Go.Proofs.Ytpnmepobdnclkaa.Calls58

theorem own1_made {W : World} {base g n : Nat} (h : W.ownsRow base 2 1 (.slice (some ⟨g, 0, none⟩) n n) n (madeCells (Value.int .i64 0).cells (n * 1)).toList) : Own1 W base g n n (fun _ => 0) := by
  unfold Own1
  rw [← made_zero]
  exact h

theorem product_nil (p : Nat) (ao bo : Option Addr) (ca cb : Nat) (a b : List Int) (h : a = [] ∨ b = []) (hla : a.length ≤ 4096) (w : World) :
    Calls Try.prog 64 #[.int .i64 (p : Int), .slice ao a.length ca, .slice bo b.length cb] w fun e w' => RetL [] e w' ∧ Below w.heap.size w w' := by
  by_cases ha : a.length = 0
  · rw [ha]
    generalize b.length = nb at *
    clear h ha hla
    go_enter Try.func64, Try.ntmps64
    go_wp2
    go_ret
    exact ⟨⟨none, 0, rfl, by simp, irow_nil _ _⟩, Below.refl _ _⟩
  · have hb : b.length = 0 := by
      rcases h with h | h
      · rw [h] at ha; simp at ha
      · rw [h]; rfl
    rw [hb]
    obtain ⟨na, hna⟩ : ∃ na, na = a.length := ⟨_, rfl⟩
    rw [← hna] at ha hla ⊢
    have ha' : ((na : Int) == 0) = false := by simp; omega
    clear h hb hna
    go_enter Try.func64, Try.ntmps64
    go_wp2
    go_ret
    exact ⟨⟨none, 0, rfl, by simp, irow_nil _ _⟩, Below.refl _ _⟩

set_option maxRecDepth 100000 in
set_option maxHeartbeats 1000000 in
theorem product_some (p : Nat) (hP : Pr p) (hp : p ≤ 251) (ao bo : Option Addr) (ca cb : Nat) (a b : List Int) (ha : Cn p a) (hb : Cn p b) (na0 : a ≠ []) (nb0 : b ≠ []) (hla : a.length ≤ 4096) (hlb : b.length ≤ 4096) (w : World) (ra : IRow w ao a) (rb : IRow w bo b) :
    Calls Try.prog 64 #[.int .i64 (p : Int), .slice ao a.length ca, .slice bo b.length cb] w fun e w' => RetL (nm p (pmul a b)) e w' ∧ Below w.heap.size w w' := by
  obtain ⟨i0, hi, hz0, hz1, hz2⟩ := info_ex
  have hp1 : 1 ≤ p := by have := hP.1; omega
  obtain ⟨na, hna⟩ : ∃ na, na = a.length := ⟨_, rfl⟩
  obtain ⟨nb, hnb⟩ : ∃ nb, nb = b.length := ⟨_, rfl⟩
  have la := pos_of_ne na0
  have lb := pos_of_ne nb0
  have HNA : Hid (na = a.length) := hna
  have HNB : Hid (nb = b.length) := hnb
  have HA := hid ha
  have HB := hid hb
  have hp0 : ¬ (p : Int) = 0 := by omega
  have hdone : Hid (mk (na + nb - 1) (prf p a b na 0) = nm p (pmul a b)) := by show _ = _; rw [hna, hnb]; exact prf_done hP ha hb na0 nb0
  rw [← hna, ← hnb]
  rw [← hna] at hla la
  rw [← hnb] at hlb lb
  obtain ⟨n, hn⟩ : ∃ n, n = na + nb - 1 := ⟨_, rfl⟩
  have hn' : (na : Int) + (nb : Int) - 1 = (n : Int) := by omega
  have ha' : ((na : Int) == 0) = false := by simp; omega
  have hb' : ((nb : Int) == 0) = false := by simp; omega
  rw [← hn] at hdone
  have HN := hid hn
  have hnl : n ≤ 8192 := by omega
  clear hna hnb ha hb na0 nb0 hn
  go_enter Try.func64, Try.ntmps64
  go_wp2_with (at_make; refine wpList_make_full _ rfl _ _ 22 rfl w.heap.size 2 i0 (.int .i64 0) 1 Try.underlying22 hi hz0 hz1 .i64 .i64 (n : Int) (n : Int) n rfl rfl rfl rfl (by rw [hz2]; omega) (by unfold maxLen; omega) (Nat.le_refl _) ?_; intro w1 hown1 hgrow1)
  have hB1 : Hid (Below w.heap.size w w1) := (Below.refl _ w).grown hgrow1 (Nat.le_refl _) (fun j e => by cases e)
  have O1 : Hid (Own1 w1 w.heap.size w.heap.size n n (prf p a b 0 0)) := by rw [prf_zero]; exact own1_made hown1
  obtain ⟨g, hg⟩ : ∃ g, g = w.heap.size := ⟨_, rfl⟩
  have HG := hid hg
  have O2 : Hid (Own1 w1 w.heap.size g n n (prf p a b 0 0)) := by rw [hg]; exact O1.out
  rw [← hg]
  clear hown1 hgrow1 hi hz0 hz1 hz2 O1 hg
  go_loopw [29] (fun i wr => ∃ k : Nat, i = .int .i64 (k : Int) ∧ k ≤ na ∧ Hid (Own1 wr w.heap.size g n n (prf p a b k 0)) ∧ Hid (Below w.heap.size w wr)) (fun i wr => ((na : Int) - intOf i).toNat)
  case atStart => exact ⟨0, rfl, by omega, O2, hB1⟩
  case round =>
    obtain ⟨k, rfl, hk, hO, hBr⟩ := hrel
    by_cases hgo : k < na
    · have hgo' : (k : Int) < (na : Int) := by omega
      have hkl : Hid (k < a.length) := by have := HNA.out; show k < a.length; omega
      rcases ao with _ | ad
      · exact (irow_none ra hkl.out).elim
      · have c1 := (irow_below ra hBr.out (Nat.le_refl _)).2 ad rfl k hkl.out
        have hx := HA.out.bd hp1 k
        obtain ⟨x, hxe⟩ : ∃ x, x = co a k := ⟨_, rfl⟩
        have HX := hid hxe
        rw [← hxe] at c1 hx
        clear hxe
        go_wp2
        obtain ⟨wo, hwo⟩ : ∃ wo, wo = wr := ⟨_, rfl⟩
        subst hwo
        go_loopw [36] (fun i wr => ∃ j : Nat, i = .int .i64 (j : Int) ∧ j ≤ nb ∧ Hid (Own1 wr w.heap.size g n n (prf p a b k j)) ∧ Hid (Below w.heap.size w wr)) (fun i wr => ((nb : Int) - intOf i).toNat)
        case atStart => exact ⟨0, rfl, by omega, hO, hBr⟩
        case round =>
          obtain ⟨j, rfl, hj, hO2, hBr2⟩ := hrel
          by_cases hgj : j < nb
          · have hgj' : (j : Int) < (nb : Int) := by omega
            have hgj2 : (k : Int) + (j : Int) < (n : Int) := by omega
            have hjl : Hid (j < b.length) := by have := HNB.out; show j < b.length; omega
            rcases bo with _ | bd
            · exact (irow_none rb hjl.out).elim
            · have d1 := (irow_below rb hBr2.out (Nat.le_refl _)).2 bd rfl j hjl.out
              have d2 := hO2.out.cell (show k + j < n by omega)
              have d3 := hO2.out.frozen (k + j)
              have hy := HB.out.bd hp1 j
              have hz := prf_bd hp1 a b k j (k + j)
              have hO3 : Hid (Own1 (wr.setCell ⟨g, k + j, none⟩ (.int .i64 ((prf p a b k j (k + j) + x * co b j) % (p : Int)))) w.heap.size g n n (prf p a b k (j + 1))) := (hO2.out.set (k + j) _).congr (by rw [HX.out]; exact prf_step p a b k j)
              have hB3 : Hid (Below w.heap.size w (wr.setCell ⟨g, k + j, none⟩ (.int .i64 ((prf p a b k j (k + j) + x * co b j) % (p : Int))))) := below_set hBr2.out hO2.out.lt.1 _ _
              generalize prf p a b k j (k + j) = z at *
              generalize co b j = y at *
              have hm := mul_bd hx hy hp
              go_wp2
              go_roundw
              case rel => exact ⟨j + 1, by simp, by omega, hO3, hB3⟩
              case measure => exact measK hgj
          · have hgj' : ¬ (j : Int) < (nb : Int) := by omega
            obtain rfl : j = nb := by omega
            have hO3 : Hid (Own1 wr w.heap.size g n n (prf p a b (k + 1) 0)) := hO2.out.congr (by rw [HNB.out]; exact prf_next p a b k)
            go_wp2
            go_roundw
            case rel => exact ⟨k + 1, by simp, by omega, hO3, hBr2⟩
            case measure => exact measK hgo
    · have hgo' : ¬ (k : Int) < (na : Int) := by omega
      obtain rfl : k = na := by omega
      have hrow := hid hO.out.row
      rw [hdone.out] at hrow
      have hlen : Hid ((nm p (pmul a b)).length = n) := by show _ = _; rw [← hdone.out, mk_length]
      go_wp2
      go_ret
      exact ⟨⟨some ⟨g, 0, none⟩, n, by rw [hlen.out]; rfl, by rw [hlen.out]; exact Nat.le_refl _, hrow.out⟩, hBr.out⟩

theorem product_any (p : Nat) (hP : Pr p) (hp : p ≤ 251) (ao bo : Option Addr) (ca cb : Nat) (a b : List Int) (ha : Cn p a) (hb : Cn p b) (hla : a.length ≤ 4096) (hlb : b.length ≤ 4096) (w : World) (ra : IRow w ao a) (rb : IRow w bo b) :
    Calls Try.prog 64 #[.int .i64 (p : Int), .slice ao a.length ca, .slice bo b.length cb] w fun e w' => RetL (nm p (pmul a b)) e w' ∧ Below w.heap.size w w' := by
  have hp1 : 1 ≤ p := by have := hP.1; omega
  rcases Classical.em (a = []) with h | h
  · have e : nm p (pmul a b) = [] := by rw [h]; rfl
    rw [e]
    exact product_nil p ao bo ca cb a b (.inl h) hla w
  · rcases Classical.em (b = []) with h2 | h2
    · have e : nm p (pmul a b) = [] := by rw [h2, nm_eq hp1 (Eqv.q (pmul_nil a))]; rfl
      rw [e]
      exact product_nil p ao bo ca cb a b (.inr h2) hla w
    · exact product_some p hP hp ao bo ca cb a b ha hb h h2 hla hlb w ra rb

set_option maxRecDepth 100000 in
theorem scale_any (p : Nat) (hp1 : 1 ≤ p) (hp : p ≤ 251) (ao : Option Addr) (ca : Nat) (a : List Int) (c : Int) (ha : Bd p a) (hc : 0 ≤ c ∧ c < (p : Int)) (hla : a.length ≤ 4096) (w : World) (ra : IRow w ao a) :
    Calls Try.prog 62 #[.int .i64 (p : Int), .slice ao a.length ca, .int .i64 c] w fun e w' => RetL (nm p (psc c a)) e w' ∧ Below w.heap.size w w' := by
  obtain ⟨i0, hi, hz0, hz1, hz2⟩ := info_ex
  obtain ⟨n, hn⟩ : ∃ n, n = a.length := ⟨_, rfl⟩
  have HN : Hid (n = a.length) := hn
  have HA := hid ha
  have hp0 : ¬ (p : Int) = 0 := by omega
  have hdone : Hid (tr (mk n (scf p a c n)) = nm p (psc c a)) := by show _ = _; rw [hn]; exact scf_done hp1 a c
  have cT := fun (g : Nat) (f : Nat → Int) (w' : World) (h : Own1 w' w.heap.size g n n f) => trim_any (some ⟨g, 0, none⟩) n (mk n f) (by rw [mk_length]; omega) (by rw [mk_length]; exact h.cap_le) w' h.row
  rw [← hn] at hla ⊢
  clear hn ha
  go_enter Try.func62, Try.ntmps62
  go_wp2_with (at_make; refine wpList_make_full _ rfl _ _ 22 rfl w.heap.size 2 i0 (.int .i64 0) 1 Try.underlying22 hi hz0 hz1 .i64 .i64 (n : Int) (n : Int) n rfl rfl rfl rfl (by rw [hz2]; omega) (by unfold maxLen; omega) (Nat.le_refl _) ?_; intro w1 hown1 hgrow1)
  have hB1 : Hid (Below w.heap.size w w1) := (Below.refl _ w).grown hgrow1 (Nat.le_refl _) (fun j e => by cases e)
  have O1 : Hid (Own1 w1 w.heap.size w.heap.size n n (scf p a c 0)) := by rw [scf_zero]; exact own1_made hown1
  obtain ⟨g, hg⟩ : ∃ g, g = w.heap.size := ⟨_, rfl⟩
  have O2 : Hid (Own1 w1 w.heap.size g n n (scf p a c 0)) := by rw [hg]; exact O1.out
  rw [← hg]
  clear hown1 hgrow1 hi hz0 hz1 hz2 O1 hg
  go_loopw [15] (fun i wr => ∃ k : Nat, i = .int .i64 (k : Int) ∧ k ≤ n ∧ Hid (Own1 wr w.heap.size g n n (scf p a c k)) ∧ Hid (Below w.heap.size w wr)) (fun i wr => ((n : Int) - intOf i).toNat)
  case atStart => exact ⟨0, rfl, by omega, O2, hB1⟩
  case round =>
    obtain ⟨k, rfl, hk, hO, hBr⟩ := hrel
    by_cases hgo : k < n
    · have hgo' : (k : Int) < (n : Int) := by omega
      have hkl : Hid (k < a.length) := by have := HN.out; show k < a.length; omega
      rcases ao with _ | ad
      · exact (irow_none ra hkl.out).elim
      · have c1 := (irow_below ra hBr.out (Nat.le_refl _)).2 ad rfl k hkl.out
        have hx := HA.out.at hp1 k
        have c2 := hO.out.cell (show k < n by omega)
        have c3 := hO.out.frozen k
        have hO2 : Hid (Own1 (wr.setCell ⟨g, k, none⟩ (.int .i64 (co a k * c % (p : Int)))) w.heap.size g n n (scf p a c (k + 1))) := (hO.out.set k _).congr (scf_step p a c k)
        have hB2 : Hid (Below w.heap.size w (wr.setCell ⟨g, k, none⟩ (.int .i64 (co a k * c % (p : Int))))) := below_set hBr.out hO.out.lt.1 k _
        generalize co a k = x at *
        have hm := mul_bd hx hc hp
        go_wp2
        go_roundw
        case rel => exact ⟨k + 1, by simp, by omega, hO2, hB2⟩
        case measure => exact measK hgo
    · have hgo' : ¬ (k : Int) < (n : Int) := by omega
      obtain rfl : k = n := by omega
      have cT2 := hid (cT g _ wr hO.out)
      rw [hdone.out, mk_length] at cT2
      clear cT
      go_wp2_with (go_at_call 73; refine cT2.out.mono ?_; rintro e w2 ⟨⟨bo2, cb2, rfl, hcb2, hrow2⟩, hw⟩; subst w2; have H2 := hid hrow2; clear hrow2)
      go_ret
      exact ⟨⟨bo2, cb2, rfl, hcb2, H2.out⟩, hBr.out⟩

end Go.Proofs.Ytpnmepobdnclkaa.Calls59
