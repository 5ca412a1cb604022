/-
  The document's polynomials: what stands at a place, zeros at the end, sums, products, what makes 1, values; when two lists are the same.
-/
import Derived.Test.YtjpmkcijkcnfiaaCalls58
namespace Go.Proofs.Ytjpmkcijkcnfiaa.Calls61
set_option linter.unusedVariables false
open Go.ChangeShapes Go.WideShapes Go.ChangeAt Go.RowKit Go.Deep Go.Proofs.Ytjpmkcijkcnfiaa.Base Go.Proofs.Ytjpmkcijkcnfiaa.Base2 Go.Proofs.Ytjpmkcijkcnfiaa.Num Go.Proofs.Ytjpmkcijkcnfiaa.Num7 Go.Proofs.Ytjpmkcijkcnfiaa.Num13 Go.Proofs.Ytjpmkcijkcnfiaa.Num16 Go.Proofs.Ytjpmkcijkcnfiaa.Num17 Go.Proofs.Ytjpmkcijkcnfiaa.Num34 Go.Proofs.Ytjpmkcijkcnfiaa.Base4 Go.Proofs.Ytjpmkcijkcnfiaa.Calls56 Go.Proofs.Ytjpmkcijkcnfiaa.Calls57 Go.Proofs.Ytjpmkcijkcnfiaa.Calls58
open Go.Proofs.Ytjpmkcijkcnfiaa.Calls19 (refPow_any refMod_at)

theorem quiet_at {P : Program} {f : FuncId} {args : Array Value} {w : World} {d n : Nat} {v : Value} (h : Calls P f args (w.drewN (d + n)) fun e w' => e = .returned v ∧ w' = w.drewN (d + n)) :
    Calls P f args (w.drewN (d + n)) fun e w'' => e = .returned v ∧ ∃ m, w'' = w.drewN (d + m) := h.mono fun _ _ ⟨he, hm⟩ => ⟨he, n, hm⟩

theorem refAt_any (ao : Option Addr) (cap : Nat) (l : List Int) (i : Nat) (hl : l.length ≤ 9223372036854775807) (hi : i ≤ 9223372036854775807) (w : World) (hrow : IRow w ao l) :
    Calls Try.prog 42 #[.slice ao l.length cap, .int .i64 (i : Int)] w fun e w' => e = .returned (.int .i64 (co l i)) ∧ w' = w := by
  obtain ⟨n, hn⟩ : ∃ n, n = l.length := ⟨_, rfl⟩
  by_cases h : i < n
  · rcases ao with _ | ad
    · exact (irow_none hrow (j := i) (by omega)).elim
    · have c := hrow.2 ad rfl i (by omega)
      rw [← hn] at hl ⊢
      have h1 : decide ((i : Int) < 0) = false := by simp
      have h2 : decide ((n : Int) ≤ (i : Int)) = false := by simp; omega
      have h3 : (i : Int) < (n : Int) := by omega
      generalize co l i = x at *
      clear hn hrow
      go_enter Try.func42, Try.ntmps42
      go_wp2
      go_ret
      exact ⟨rfl, rfl⟩
  · rw [co_over (by omega)]
    rw [← hn] at hl ⊢
    have h1 : decide ((i : Int) < 0) = false := by simp
    have h2 : (n : Int) ≤ (i : Int) := by omega
    clear hn hrow
    go_enter Try.func42, Try.ntmps42
    go_wp2
    go_ret
    exact ⟨rfl, rfl⟩

set_option maxRecDepth 100000 in
theorem refTrimmed_any (ao : Option Addr) (cap : Nat) (l : List Int) (hm : l.length ≤ 9223372036854775807) (hcap : l.length ≤ cap) (w : World) (hrow : IRow w ao l) :
    Calls Try.prog 43 #[.slice ao l.length cap] w fun e w' => RetL (tr l) e w' ∧ w' = w := by
  obtain ⟨n, hn⟩ : ∃ n, n = l.length := ⟨_, rfl⟩
  have HN : Hid (n = l.length) := hn
  have HR := hid hrow
  rw [← hn] at hm hcap ⊢
  clear hn hrow
  go_enter Try.func43, Try.ntmps43
  go_wp2
  go_loop [3] (fun v => ∃ k : Nat, v = .int .i64 (k : Int) ∧ k ≤ n ∧ Hid (tr (l.take k) = tr l)) (fun v => (intOf v).toNat)
  case atStart => exact ⟨n, rfl, by omega, by show _ = _; rw [HN.out, List.take_of_length_le (Nat.le_refl _)]⟩
  case round =>
    obtain ⟨k, rfl, hk, hT⟩ := hrel
    match k, hk, hT with
    | 0, hk, hT =>
      go_wp2
      all_goals (
        go_ret
        refine ⟨?_, rfl⟩
        have e : tr l = [] := by rw [← hT.out]; simp [tr]
        rw [e]
        exact ⟨_, _, rfl, by simp, irow_nil _ _⟩)
    | m + 1, hk, hT =>
      have hz : Hid (co l m = 0 → tr (l.take (m + 1)) = tr (l.take m)) := fun h0 => tr_take_zero (l := l) (k := m) (by have := HN.out; omega) h0
      have hs : Hid (co l m ≠ 0 → tr (l.take (m + 1)) = l.take (m + 1)) := fun h0 => tr_take_stop (l := l) (k := m + 1) (by have := HN.out; omega) (.inr (by rw [Nat.add_sub_cancel]; exact h0))
      rcases ao with _ | ad
      · exact (irow_none HR.out (j := m) (by have := HN.out; omega)).elim
      · have c := HR.out.2 ad rfl m (by have := HN.out; omega)
        generalize co l m = x at *
        have hmn : (m : Int) < (n : Int) := by omega
        have hmc : (m : Int) + 1 ≤ (cap : Int) := by omega
        by_cases h0 : x = 0
        · subst h0
          have hz2 : Hid (tr (l.take (m + 1)) = tr (l.take m)) := hz.out rfl
          clear hz hs
          go_wp2
          go_round
          case rel => exact ⟨m, by simp, by omega, by show _ = _; rw [← hz2.out, hT.out]⟩
          case measure => simp [intOf]
        · have h0' : (x == 0) = false := by simpa using h0
          have hs2 : Hid (tr (l.take (m + 1)) = l.take (m + 1)) := hs.out h0
          clear hz hs
          go_wp2
          go_ret
          refine ⟨?_, rfl⟩
          have e : tr l = l.take (m + 1) := by rw [← hT.out, hs2.out]
          have el : (l.take (m + 1)).length = m + 1 := by rw [List.length_take]; have := HN.out; omega
          rw [e]
          exact ⟨some ad, cap, by rw [el]; rfl, by rw [el]; omega, irow_take HR.out _⟩

/-- A row that grows by one number each round. -/
theorem owns_grown_below {W w1 : World} {base : Nat} {e : TypeId} {size : Nat} {v : Value} {k : Nat} {xs : List Value} {tmp : Obj} {w : World} (hB : Below w.heap.size w W) (hb : w.heap.size = base)
    (hown : W.ownsRow base e size v k xs) (hgrow : (W.alloc tmp).grownBy w1 v.ownBlock) : Below w.heap.size w w1 := by
  refine (hB.alloc hB.size tmp).grown hgrow (by have := hB.size; simp; omega) fun j ej => ?_
  rw [hb]
  exact (hown.lt j ej).1

set_option maxRecDepth 100000 in
theorem refAdd_any (p : Nat) (hp1 : 1 ≤ p) (hp : p ≤ 251) (ao bo : Option Addr) (ca cb : Nat) (a b : List Int) (ha : Bd p a) (hb : Bd p b) (hla : a.length ≤ 4096) (hlb : b.length ≤ 4096) (w : World) (ra : IRow w ao a) (rb : IRow w bo b) :
    Calls Try.prog 27 #[.int .i64 (p : Int), .slice ao a.length ca, .slice bo b.length cb] w fun e w' => RetL (nm p (padd a b)) e w' ∧ Below w.heap.size w w' := by
  obtain ⟨i0, hi, hz0, hz1, hz2⟩ := info_ex
  have cA := fun (i : Nat) (hi : i ≤ 4096) w' (hB : Below w.heap.size w w') => refAt_any ao ca a i (by omega) (by omega) w' (irow_below ra hB (Nat.le_refl _))
  have cB := fun (i : Nat) (hi : i ≤ 4096) w' (hB : Below w.heap.size w w') => refAt_any bo cb b i (by omega) (by omega) w' (irow_below rb hB (Nat.le_refl _))
  obtain ⟨na, hna⟩ : ∃ na, na = a.length := ⟨_, rfl⟩
  obtain ⟨nb, hnb⟩ : ∃ nb, nb = b.length := ⟨_, rfl⟩
  have HA := hid ha
  have HB := hid hb
  have hp0 : ¬ (p : Int) = 0 := by omega
  obtain ⟨F, hF⟩ : ∃ F : Nat → Int, F = fun t => (co a t + co b t) % (p : Int) := ⟨_, rfl⟩
  have hFa : ∀ t, F t = (co a t + co b t) % (p : Int) := fun t => by rw [hF]
  have hdone : Hid (tr (mk (max na nb) F) = nm p (padd a b)) := by show _ = _; rw [hna, hnb, hF]; exact add_done hp1
  have HF := hid hFa
  have cT := fun (v : Value) (k : Nat) (w' : World) (hk : k ≤ 4096) (h : w'.ownsRow w.heap.size 2 1 v k (ivals (mk k F))) => (irow_owns h)
  rw [← hna, ← hnb]
  rw [← hna] at hla cA
  rw [← hnb] at hlb cB
  clear hna hnb ha hb ra rb hF hFa
  go_enter Try.func27, Try.ntmps27
  go_wp2
  go_loopw [7, 8] (fun v i wr => ∃ k : Nat, i = .int .i64 (k : Int) ∧ k ≤ max na nb ∧ Hid (wr.ownsRow w.heap.size 2 1 v k (ivals (mk k F))) ∧ Hid (Below w.heap.size w wr)) (fun v i wr => ((max na nb : Nat) - intOf i).toNat)
  case atStart => exact ⟨0, rfl, by omega, World.ownsRow_nil _ _ _ _, Below.refl _ _⟩
  case round =>
    obtain ⟨k, rfl, hk, hown, hB⟩ := hrel
    by_cases hgo : k < max na nb
    · have hx := HA.out.at hp1 k
      have hy := HB.out.at hp1 k
      have cA1 := fun w' hB => cA k (by omega) w' hB
      have cB1 := fun w' hB => cB k (by omega) w' hB
      have hsn : Hid (ivals (mk (k + 1) F) = ivals (mk k F) ++ [.int .i64 ((co a k + co b k) % (p : Int))]) := by show _ = _; rw [mk_succ, ivals_snoc, HF.out]
      generalize co a k = x at *
      generalize co b k = y at *
      have hk4 : k ≤ 4096 := by omega
      have hBs := hB.out.size
      have hme := hid (measK hgo)
      by_cases h1 : k < na
      · have h1' : (k : Int) < (na : Int) := by omega
        clear hgo
        go_wp2_with (first
          | (go_at_call 42; refine (cA1 _ hB.out).mono ?_; rintro e w1 ⟨rfl, hw⟩; subst w1; clear cA1)
          | (go_at_call 42; refine (cB1 _ hB.out).mono ?_; rintro e w1 ⟨rfl, hw⟩; subst w1)
          | (at_builtin; refine wpList_append_own _ rfl _ _ 22 rfl w.heap.size 2 i0 (.int .i64 0) 1 8 Try.underlying22 hi hz0 hz1 hz2 rfl (by decide) _ _ _ rfl (hown.out.alloc _) ⟨wr.heap.size, 0, none⟩ 1 1 [.int .i64 ((x + y) % (p : Int))] rfl rfl one_cell (by simp [Value.oneCell']) (by unfold maxLen; omega) (by omega) (by simp; omega) ?_; intro v' w1 hown' hgrow _))
        go_roundw
        case rel => exact ⟨k + 1, by simp, by omega, by rw [hsn.out]; exact hown', owns_grown_below hB.out rfl hown.out hgrow⟩
        case measure => exact hme.out
      · have h1' : decide ((k : Int) < (na : Int)) = false := by simp; omega
        have h2' : (k : Int) < (nb : Int) := by omega
        clear hgo
        go_wp2_with (first
          | (go_at_call 42; refine (cA1 _ hB.out).mono ?_; rintro e w1 ⟨rfl, hw⟩; subst w1; clear cA1)
          | (go_at_call 42; refine (cB1 _ hB.out).mono ?_; rintro e w1 ⟨rfl, hw⟩; subst w1)
          | (at_builtin; refine wpList_append_own _ rfl _ _ 22 rfl w.heap.size 2 i0 (.int .i64 0) 1 8 Try.underlying22 hi hz0 hz1 hz2 rfl (by decide) _ _ _ rfl (hown.out.alloc _) ⟨wr.heap.size, 0, none⟩ 1 1 [.int .i64 ((x + y) % (p : Int))] rfl rfl one_cell (by simp [Value.oneCell']) (by unfold maxLen; omega) (by omega) (by simp; omega) ?_; intro v' w1 hown' hgrow _))
        go_roundw
        case rel => exact ⟨k + 1, by simp, by omega, by rw [hsn.out]; exact hown', owns_grown_below hB.out rfl hown.out hgrow⟩
        case measure => exact hme.out
    · have h1' : decide ((k : Int) < (na : Int)) = false := by simp; omega
      have h2' : decide ((k : Int) < (nb : Int)) = false := by simp; omega
      have ek : k = max na nb := by omega
      obtain ⟨vo, vc, rfl, hcap, hr⟩ := irow_owns hown.out
      rw [mk_length] at hcap ⊢
      have cT2 := hid (refTrimmed_any vo vc (mk k F) (by rw [mk_length]; omega) (by rw [mk_length]; exact hcap) wr hr)
      have hdone2 : Hid (tr (mk k F) = nm p (padd a b)) := by show _ = _; rw [ek]; exact hdone.out
      rw [hdone2.out, mk_length] at cT2
      clear cT ek hdone hdone2 hr cA cB
      go_wp2_with (go_at_call 43; refine cT2.out.mono ?_; rintro e w2 ⟨⟨bo2, cb2, rfl, hcb2, hrow2⟩, hw⟩; subst w2; have H2 := hid hrow2; clear hrow2)
      go_ret
      exact ⟨⟨bo2, cb2, rfl, hcb2, H2.out⟩, hB.out⟩

theorem refInv_any (p : Nat) (h1 : 2 ≤ p) (h2 : p ≤ 251) (x : Int) (w : World) :
    Calls Try.prog 46 #[.int .i64 x, .int .i64 (p : Int)] w fun e w' => e = .returned (.int .i64 (iv p x : Int)) ∧ w' = w := by
  have cP := fun w => refPow_any x p (by omega) (by omega) (p - 2 + (p - 1) * (2 / p)) w (by
    have : 2 / p ≤ 1 := by have := Nat.div_le_self 2 p; have h3 : 2 / p ≤ 2 / 2 := Nat.div_le_div_left h1 (by omega); omega
    have h4 : (p - 1) * (2 / p) ≤ (p - 1) * 1 := Nat.mul_le_mul_left _ this
    omega)
  have hE : Hid ((pw x (p - 2 + (p - 1) * (2 / p)) p : Int) = (iv p x : Int)) := rfl
  by_cases e : p = 2
  · subst e
    have e2 : ((2 - 2 + (2 - 1) * (2 / 2) : Nat) : Int) = 1 := rfl
    rw [e2] at cP
    clear e2
    rw [hE.out] at cP
    go_enter Try.func46, Try.ntmps46
    go_wp2_with (go_at_call 61; refine (cP _).mono ?_; rintro e w1 ⟨rfl, hw⟩; subst w1)
    go_ret
    exact ⟨rfl, rfl⟩
  · have e3 : 2 / p = 0 := Nat.div_eq_of_lt (by omega)
    have e2 : ((p - 2 + (p - 1) * (2 / p) : Nat) : Int) = (p : Int) - 2 := by rw [e3, Nat.mul_zero, Nat.add_zero]; omega
    rw [e2] at cP
    rw [hE.out] at cP
    have e4 : (2 : Int) / (p : Int) = 0 := by
      have : ((2 / p : Nat) : Int) = 0 := by rw [e3]; rfl
      simpa using this
    have hp0 : ¬ (p : Int) = 0 := by omega
    clear e2 e3
    go_enter Try.func46, Try.ntmps46
    go_wp2_with (go_at_call 61; refine (cP _).mono ?_; rintro e w1 ⟨rfl, hw⟩; subst w1)
    go_ret
    exact ⟨rfl, rfl⟩

set_option maxRecDepth 100000 in
set_option maxHeartbeats 1000000 in
theorem refMul_any (p : Nat) (hp1 : 1 ≤ p) (hp : p ≤ 251) (ao bo : Option Addr) (ca cb : Nat) (a b : List Int) (ha : Bd p a) (hb : Bd p b) (hla : a.length ≤ 2048) (hlb : b.length ≤ 2048) (w : World) (ra : IRow w ao a) (rb : IRow w bo b) :
    Calls Try.prog 31 #[.int .i64 (p : Int), .slice ao a.length ca, .slice bo b.length cb] w fun e w' => RetL (nm p (pmul a b)) e w' ∧ Below w.heap.size w w' := by
  obtain ⟨i0, hi, hz0, hz1, hz2⟩ := info_ex
  have cA := fun (i : Nat) (hi : i ≤ 4096) w' (hB : Below w.heap.size w w') => refAt_any ao ca a i (by omega) (by omega) w' (irow_below ra hB (Nat.le_refl _))
  have cB := fun (i : Nat) (hi : i ≤ 4096) w' (hB : Below w.heap.size w w') => refAt_any bo cb b i (by omega) (by omega) w' (irow_below rb hB (Nat.le_refl _))
  obtain ⟨na, hna⟩ : ∃ na, na = a.length := ⟨_, rfl⟩
  obtain ⟨nb, hnb⟩ : ∃ nb, nb = b.length := ⟨_, rfl⟩
  have HA := hid ha
  have HB := hid hb
  have hp0 : ¬ (p : Int) = 0 := by omega
  obtain ⟨F, hF⟩ : ∃ F : Nat → Int, F = fun t => co (pmul a b) t % (p : Int) := ⟨_, rfl⟩
  have hFa : ∀ t, F t = mlf p a b t (t + 1) := fun t => by rw [hF, mlf_done]
  have hdone : Hid (tr (mk (na + nb - 1) F) = nm p (pmul a b)) := by show _ = _; rw [hna, hnb, hF]; exact mul_done hp1
  have HF := hid hFa
  rw [← hna, ← hnb]
  rw [← hna] at hla cA
  rw [← hnb] at hlb cB
  clear hna hnb ha hb ra rb hF hFa
  go_enter Try.func31, Try.ntmps31
  go_wp2
  go_loopw [7, 8] (fun v i wr => ∃ k : Nat, i = .int .i64 (k : Int) ∧ k ≤ na + nb - 1 ∧ Hid (wr.ownsRow w.heap.size 2 1 v k (ivals (mk k F))) ∧ Hid (Below w.heap.size w wr)) (fun v i wr => ((na + nb - 1 : Nat) - intOf i).toNat)
  case atStart => exact ⟨0, rfl, by omega, World.ownsRow_nil _ _ _ _, Below.refl _ _⟩
  case round =>
    obtain ⟨k, rfl, hk, hown, hB⟩ := hrel
    by_cases hgo : k < na + nb - 1
    · have hgo' : (k : Int) + 1 < (na : Int) + (nb : Int) := by omega
      have hk4 : k ≤ 4096 := by omega
      have hBs := hB.out.size
      have hme := hid (measK hgo)
      have hsn : Hid (ivals (mk (k + 1) F) = ivals (mk k F) ++ [.int .i64 (mlf p a b k (k + 1))]) := by show _ = _; rw [mk_succ, ivals_snoc, HF.out]
      obtain ⟨vo, vc, rfl, hcapv, hrv⟩ := irow_owns hown.out
      rw [mk_length] at hown hcapv ⊢
      clear hgo hrv
      go_wp2
      go_loop [9, 10] (fun s i => ∃ (j : Nat) (z : Int), s = .int .i64 z ∧ i = .int .i64 (j : Int) ∧ j ≤ k + 1 ∧ Hid (z = mlf p a b k j) ∧ (0 ≤ z ∧ z < (p : Int))) (fun s i => ((k : Int) + 1 - intOf i).toNat)
      case atStart => exact ⟨0, 0, rfl, rfl, by omega, by show _ = _; rw [mlf_zero], ⟨by omega, by omega⟩⟩
      case round =>
        obtain ⟨j, z, rfl, rfl, hj, hZ, hz⟩ := hrel
        by_cases hgj : j ≤ k
        · have hgj' : (j : Int) ≤ (k : Int) := by omega
          obtain ⟨r, hr⟩ : ∃ r, r = k - j := ⟨_, rfl⟩
          have hr' : (k : Int) - (j : Int) = (r : Int) := by omega
          have hx := HA.out.at hp1 j
          have hy := HB.out.at hp1 r
          have hst := hid (mlf_step p a b hgj)
          have hzb := hid (mlf_bd hp1 a b k (j + 1))
          rw [← hZ.out, ← hr] at hst
          have cA1 := fun w' hB => cA j (by omega) w' hB
          have cB1 := fun w' hB => cB r (by omega) w' hB
          generalize co a j = x at *
          generalize co b r = y at *
          have hm := mul_bd hx hy hp
          obtain ⟨z2, hz2⟩ : ∃ z2, z2 = mlf p a b k (j + 1) := ⟨_, rfl⟩
          rw [← hz2] at hst hzb
          have HZ2 := hid hz2
          clear hz2 hr
          go_wp2_with (first
            | (go_at_call 42; refine (cA1 _ hB.out).mono ?_; rintro e w1 ⟨rfl, hw⟩; subst w1; clear cA1)
            | (go_at_call 42; refine (cB1 _ hB.out).mono ?_; rintro e w1 ⟨rfl, hw⟩; subst w1))
          go_round
          case rel => exact ⟨j + 1, z2, by rw [← hst.out], by simp, by omega, HZ2, hzb.out⟩
          case measure => simp [intOf]; omega
        · have hgj' : decide ((j : Int) ≤ (k : Int)) = false := by simp; omega
          obtain rfl : j = k + 1 := by omega
          rw [← hZ.out] at hsn
          go_wp2_with (at_builtin; refine wpList_append_own _ rfl _ _ 22 rfl w.heap.size 2 i0 (.int .i64 0) 1 8 Try.underlying22 hi hz0 hz1 hz2 rfl (by decide) _ _ _ rfl (hown.out.alloc _) ⟨wr.heap.size, 0, none⟩ 1 1 [.int .i64 z] rfl rfl one_cell (by simp [Value.oneCell']) (by unfold maxLen; omega) (by omega) (by simp; omega) ?_; intro v' w1 hown' hgrow _)
          go_roundw
          case rel => exact ⟨k + 1, by simp, by omega, by rw [hsn.out]; exact hown', owns_grown_below hB.out rfl hown.out hgrow⟩
          case measure => exact hme.out
    · have hgo' : decide ((k : Int) + 1 < (na : Int) + (nb : Int)) = false := by simp; omega
      have ek : k = na + nb - 1 := by omega
      obtain ⟨vo, vc, rfl, hcap, hr⟩ := irow_owns hown.out
      rw [mk_length] at hcap ⊢
      have cT2 := hid (refTrimmed_any vo vc (mk k F) (by rw [mk_length]; omega) (by rw [mk_length]; exact hcap) wr hr)
      have hdone2 : Hid (tr (mk k F) = nm p (pmul a b)) := by show _ = _; rw [ek]; exact hdone.out
      rw [hdone2.out, mk_length] at cT2
      clear ek hdone hdone2 hr cA cB
      go_wp2_with (go_at_call 43; refine cT2.out.mono ?_; rintro e w2 ⟨⟨bo2, cb2, rfl, hcb2, hrow2⟩, hw⟩; subst w2; have H2 := hid hrow2; clear hrow2)
      go_ret
      exact ⟨⟨bo2, cb2, rfl, hcb2, H2.out⟩, hB.out⟩

end Go.Proofs.Ytjpmkcijkcnfiaa.Calls61
