/-
  The document's fields: digits, numbers, sizes.
-/
import Derived.Test.YtjpmkcijkcnfiaaCalls65
import Derived.Test.YtjpmkcijkcnfiaaFoldB
namespace Go.Proofs.Ytjpmkcijkcnfiaa.Calls75
set_option linter.unusedVariables false
open Go.ChangeShapes Go.WideShapes Go.ChangeAt Go.RowKit Go.Deep Go.Proofs.Ytjpmkcijkcnfiaa.Base Go.Proofs.Ytjpmkcijkcnfiaa.Base2 Go.Proofs.Ytjpmkcijkcnfiaa.Num Go.Proofs.Ytjpmkcijkcnfiaa.Num16 Go.Proofs.Ytjpmkcijkcnfiaa.Num17 Go.Proofs.Ytjpmkcijkcnfiaa.Num21 Go.Proofs.Ytjpmkcijkcnfiaa.Num23 Go.Proofs.Ytjpmkcijkcnfiaa.Num34 Go.Proofs.Ytjpmkcijkcnfiaa.Num35 Go.Proofs.Ytjpmkcijkcnfiaa.Num36 Go.Proofs.Ytjpmkcijkcnfiaa.Num37 Go.Proofs.Ytjpmkcijkcnfiaa.Num38 Go.Proofs.Ytjpmkcijkcnfiaa.Base4 Go.Proofs.Ytjpmkcijkcnfiaa.Calls56 Go.Proofs.Ytjpmkcijkcnfiaa.Calls57 Go.Proofs.Ytjpmkcijkcnfiaa.Calls58 Go.Proofs.Ytjpmkcijkcnfiaa.Calls61 Go.Proofs.Ytjpmkcijkcnfiaa.Calls64 Go.Proofs.Ytjpmkcijkcnfiaa.Calls65

theorem measD {q p : Nat} (hq : 1 ≤ q) (hp : 2 ≤ p) : (intOf (.int .i64 ((q : Int) / (p : Int)))).toNat < (intOf (.int .i64 (q : Int))).toNat := by
  show ((q : Int) / (p : Int)).toNat < (q : Int).toNat
  have e : (q : Int) / (p : Int) = ((q / p : Nat) : Int) := by simp
  rw [e]
  have := Nat.div_lt_self (n := q) (k := p) (by omega) (by omega)
  omega

theorem dgf_int (p a k q : Nat) (h : q = a / p ^ k) : (q : Int) % (p : Int) = dgf p a k := by
  unfold dgf
  rw [h]; simp

theorem div_bds (q p : Nat) (hq : q < 1048576) : (0 : Int) ≤ (q : Int) / (p : Int) ∧ (q : Int) / (p : Int) ≤ 1048576 := by
  have e : (q : Int) / (p : Int) = ((q / p : Nat) : Int) := by simp
  have := Nat.div_le_self q p
  have h2 : q / p ≤ 1048576 := by omega
  rw [e]
  exact ⟨Int.natCast_nonneg _, Int.ofNat_le.2 h2⟩

theorem mod_bds (q p : Nat) (hp1 : 2 ≤ p) (hp : p ≤ 251) : (0 : Int) ≤ (q : Int) % (p : Int) ∧ (q : Int) % (p : Int) ≤ 1048576 := by
  have := mod_bd (p := p) (by omega) (q : Int)
  omega

set_option maxRecDepth 100000 in
theorem refDigits_any (p : Nat) (hp1 : 2 ≤ p) (hp : p ≤ 251) (a : Nat) (ha : a < 1048576) (w : World) :
    Calls Try.prog 28 #[.int .i64 (p : Int), .int .i64 (a : Int)] w fun e w' => RetL (dig p a) e w' ∧ Below w.heap.size w w' := by
  obtain ⟨i0, hi, hz0, hz1, hz2⟩ := info_ex
  have hp0 : ¬ (p : Int) = 0 := by omega
  have hdone : Hid (∀ k, a / p ^ k = 0 → (k = 0 ∨ a / p ^ (k - 1) ≠ 0) → mk k (dgf p a) = dig p a) := fun k h0 hl => dig_done hp1 ha h0 hl
  have hfew : Hid (∀ k, (k = 0 ∨ a / p ^ (k - 1) ≠ 0) → k ≤ 20) := fun k h => dgf_few hp1 ha h
  have hq0 : Hid (a = a / p ^ 0) := by show _ = _; simp
  have hdiv : Hid (∀ k, a / p ^ k / p = a / p ^ (k + 1)) := fun k => div_next p a k
  generalize dig p a = D at *
  generalize hF : dgf p a = F at *
  have HF : Hid (∀ k q, q = a / p ^ k → (q : Int) % (p : Int) = F k) := fun k q h => by rw [← hF]; exact dgf_int p a k q h
  clear hF
  go_enter Try.func28, Try.ntmps28
  go_wp2
  go_loopw [1, 5] (fun i v wr => ∃ k q : Nat, i = .int .i64 (q : Int) ∧ q < 1048576 ∧ Hid (q = a / p ^ k) ∧ Hid (k = 0 ∨ a / p ^ (k - 1) ≠ 0) ∧ Hid (wr.ownsRow w.heap.size 2 1 v k (ivals (mk k F))) ∧ Hid (Below w.heap.size w wr)) (fun i v wr => (intOf i).toNat)
  case atStart => exact ⟨0, a, rfl, ha, hq0, .inl rfl, World.ownsRow_nil _ _ _ _, Below.refl _ _⟩
  case round =>
    obtain ⟨k, q, rfl, hq, hQ, hK, hown, hB⟩ := hrel
    have hk := hfew.out k hK.out
    by_cases hgo : q = 0
    · subst hgo
      obtain ⟨vo, vc, rfl, hcap, hr⟩ := irow_owns hown.out
      have e : Hid (mk k F = D) := hdone.out k hQ.out.symm hK.out
      rw [e.out] at hr hcap ⊢
      have HR := hid hr
      clear hr
      go_wp2
      go_ret
      exact ⟨⟨vo, vc, rfl, hcap, HR.out⟩, hB.out⟩
    · have hgo' : 0 < (q : Int) := by omega
      have hsn : Hid (ivals (mk (k + 1) F) = ivals (mk k F) ++ [.int .i64 ((q : Int) % (p : Int))]) := by show _ = _; rw [mk_succ, ivals_snoc, HF.out k q hQ.out]
      have hQ2 : Hid (q / p = a / p ^ (k + 1)) := by show _ = _; rw [hQ.out]; exact hdiv.out k
      have hK2 : Hid (k + 1 = 0 ∨ a / p ^ (k + 1 - 1) ≠ 0) := .inr (by rw [Nat.add_sub_cancel, ← hQ.out]; exact hgo)
      have hq2 : q / p < 1048576 := Nat.lt_of_le_of_lt (Nat.div_le_self q p) hq
      have hq1 : 1 ≤ q := by omega
      have hBs := hB.out.size
      have hd1 : (0 : Int) ≤ (q : Int) / (p : Int) ∧ (q : Int) / (p : Int) ≤ 1048576 := div_bds q p hq
      have hd2 : (0 : Int) ≤ (q : Int) % (p : Int) ∧ (q : Int) % (p : Int) ≤ 1048576 := mod_bds q p hp1 hp
      have hd3 := hd1.1
      have hd4 := hd1.2
      have hd5 := hd2.1
      have hd6 := hd2.2
      have hp00 : ¬ p = 0 := by omega
      clear hd1 hd2
      go_wp2_with (at_builtin; refine wpList_append_own _ rfl _ _ 22 rfl w.heap.size 2 i0 (.int .i64 0) 1 8 Try.underlying22 hi hz0 hz1 hz2 rfl (by decide) _ _ _ rfl (hown.out.alloc _) ⟨wr.heap.size, 0, none⟩ 1 1 [.int .i64 ((q : Int) % (p : Int))] rfl rfl one_cell (by simp [Value.oneCell']) (by unfold maxLen; omega) (by omega) (by simp; omega) ?_; intro v' w1 hown' hgrow _)
      go_roundw
      case rel => exact ⟨k + 1, q / p, by simp, hq2, hQ2, hK2, by rw [hsn.out]; exact hown', owns_grown_below hB.out rfl hown.out hgrow⟩
      case measure => exact measD hq1 hp1

theorem num_step {p : Nat} (hp : 1 ≤ p) {l : List Int} (hl : Bd p l) {k : Nat} (h : k < l.length) : (nb p (l.take (k + 1)) : Int) = (nb p (l.take k) : Int) + co l k * ((p ^ k : Nat) : Int) := by
  rw [nb_take h]
  have := (hl.at hp k).1
  obtain ⟨c, hc⟩ : ∃ c : Nat, co l k = (c : Int) := ⟨(co l k).toNat, by omega⟩
  rw [hc, Int.toNat_natCast, Nat.mul_comm]
  simp

theorem num_bd {p : Nat} (hp : 1 ≤ p) {l : List Int} (hl : Bd p l) (k : Nat) (h : p ^ l.length ≤ 1048576) (hk : k ≤ l.length) : nb p (l.take k) < 1048576 ∧ p ^ k ≤ 1048576 := by
  have h1 := nb_lt hp (l.take k) (fun y hy => hl y (List.mem_of_mem_take hy))
  rw [List.length_take, Nat.min_eq_left hk] at h1
  have h2 : p ^ k ≤ p ^ l.length := Nat.pow_le_pow_right hp hk
  omega

theorem mulB {x q : Int} {p : Nat} (hx : 0 ≤ x ∧ x < (p : Int)) (hp : p ≤ 251) (hq : 0 ≤ q ∧ q ≤ 1048576) : 0 ≤ x * q ∧ x * q ≤ 263192576 := by
  refine ⟨Int.mul_nonneg hx.1 hq.1, ?_⟩
  have := Int.mul_le_mul (a := x) (b := q) (c := 251) (d := 1048576) (by omega) hq.2 hq.1 (by omega)
  omega

set_option maxRecDepth 100000 in
theorem refNumber_any (p : Nat) (hp1 : 2 ≤ p) (hp : p ≤ 251) (ao : Option Addr) (ca : Nat) (l : List Int) (hl : Bd p l) (hs : p ^ l.length ≤ 1048576) (hla : l.length ≤ 4096) (w : World) (ra : IRow w ao l) :
    Calls Try.prog 26 #[.int .i64 (p : Int), .slice ao l.length ca] w fun e w' => e = .returned (.int .i64 (nb p l : Int)) ∧ w' = w := by
  obtain ⟨n, hn⟩ : ∃ n, n = l.length := ⟨_, rfl⟩
  have HN : Hid (n = l.length) := hn
  have hst : Hid (∀ k, k < n → (nb p (l.take (k + 1)) : Int) = (nb p (l.take k) : Int) + co l k * ((p ^ k : Nat) : Int)) := fun k hk => num_step (by omega) hl (by omega)
  have hbd : Hid (∀ k, k ≤ n → nb p (l.take k) < 1048576 ∧ p ^ k ≤ 1048576) := fun k hk => num_bd (by omega) hl k hs (by omega)
  have hend : Hid (nb p (l.take n) = nb p l) := by show _ = _; rw [hn, List.take_of_length_le (Nat.le_refl _)]
  have h00 : Hid (nb p (l.take 0) = 0) := by show _ = _; simp [nb]
  have HL := hid hl
  rw [← hn] at hla ⊢
  clear hn hs hl
  obtain ⟨z, hz⟩ : ∃ z, z = nb p l := ⟨_, rfl⟩
  rw [← hz] at hend ⊢
  clear hz
  go_enter Try.func26, Try.ntmps26
  go_wp2
  go_loop [5, 6, 11] (fun s q i => ∃ k u v : Nat, s = .int .i64 (u : Int) ∧ q = .int .i64 (v : Int) ∧ i = .int .i64 (k : Int) ∧ k ≤ n ∧ Hid (u = nb p (l.take k)) ∧ Hid (v = p ^ k)) (fun s q i => ((n : Int) - intOf i).toNat)
  case atStart => exact ⟨0, 0, 1, rfl, rfl, rfl, by omega, h00.out.symm, by show _ = _; simp⟩
  case round =>
    obtain ⟨k, u, v, rfl, rfl, rfl, hk, hU, hV⟩ := hrel
    by_cases hgo : k < n
    · have hgo' : (k : Int) < (n : Int) := by omega
      have hkl : Hid (k < l.length) := by have := HN.out; show k < l.length; omega
      rcases ao with _ | ad
      · exact (irow_none ra hkl.out).elim
      · have c := ra.2 ad rfl k hkl.out
        have hx := HL.out.at (by omega) k
        have hb1 := hbd.out k hk
        have hb2 := hbd.out (k + 1) (by omega)
        have s1 := hst.out k hgo
        have hu1 : u < 1048576 := by rw [hU.out]; exact hb1.1
        have hv1 : v ≤ 1048576 := by rw [hV.out]; exact hb1.2
        rw [← hU.out, ← hV.out] at s1
        have s2 : Hid (p ^ (k + 1) = v * p) := by show _ = _; rw [Nat.pow_succ, hV.out]
        obtain ⟨u2, hu2⟩ : ∃ u2, u2 = nb p (l.take (k + 1)) := ⟨_, rfl⟩
        rw [← hu2] at s1 hb2
        have HU2 := hid hu2
        have HS1 := hid s1
        have hvp : (0 : Int) ≤ (v : Int) * (p : Int) ∧ (v : Int) * (p : Int) ≤ 263192576 := by
          have := mulB (x := (p : Int) - 1) (q := (v : Int)) (p := p) ⟨by omega, by omega⟩ hp ⟨by omega, by omega⟩
          have h3 : v * p ≤ 1048576 * 251 := Nat.mul_le_mul hv1 hp
          have h4 : (v : Int) * (p : Int) = ((v * p : Nat) : Int) := by simp
          rw [h4]; omega
        clear hb1 hb2 hu2 s1
        generalize co l k = x at *
        have hm := mulB (q := (v : Int)) hx hp ⟨by omega, by omega⟩
        go_wp2
        go_round
        case rel => exact ⟨k + 1, u2, v * p, by rw [HS1.out], by simp, by simp, by omega, HU2, s2.out.symm⟩
        case measure => exact measK hgo
    · have hgo' : ¬ (k : Int) < (n : Int) := by omega
      obtain rfl : k = n := by omega
      go_wp2
      go_ret
      exact ⟨by rw [hU.out, hend.out]; rfl, rfl⟩

theorem fsz_at {p : Nat} (hp : 2 ≤ p) {n k : Nat} (h1 : 1 ≤ k) (hk : k ≤ n) (h : 4096 < p ^ k) : ¬ p ^ n ≤ 4096 := by
  have := pow_up (by omega) hk h
  omega

set_option maxRecDepth 100000 in
theorem refFieldSize_any (p : Nat) (hp1 : 2 ≤ p) (hp : p ≤ 251) (ao : Option Addr) (ca : Nat) (f : List Int) (hlf : f.length ≤ 4096) (w : World) :
    Calls Try.prog 23 #[.int .i64 (p : Int), .slice ao f.length ca] w fun e w' => e = .returned (.int .i64 (fsz p f : Int)) ∧ w' = w := by
  obtain ⟨n, hn⟩ : ∃ n, n = f.length := ⟨_, rfl⟩
  have hfs : Hid (fsz p f = if p ^ (n - 1) ≤ 4096 then p ^ (n - 1) else 0) := by rw [hn]; rfl
  generalize fsz p f = z at *
  rw [← hn] at hlf ⊢
  clear hn
  go_enter Try.func23, Try.ntmps23
  go_wp2
  go_loop [5, 6] (fun s i => ∃ k u : Nat, s = .int .i64 (u : Int) ∧ i = .int .i64 ((k : Int) + 1) ∧ k ≤ n - 1 ∧ u ≤ 4096 ∧ Hid (u = p ^ k)) (fun s i => ((n : Int) - intOf i).toNat)
  case atStart => exact ⟨0, 1, rfl, rfl, by omega, by omega, by show _ = _; simp⟩
  case round =>
    obtain ⟨k, u, rfl, rfl, hk, hu, hU⟩ := hrel
    by_cases hgo : k + 1 < n
    · have hgo' : (k : Int) + 1 < (n : Int) := by omega
      have hup : (u : Int) * (p : Int) = ((u * p : Nat) : Int) := by simp
      have h3 : u * p ≤ 4096 * 251 := Nat.mul_le_mul hu hp
      have s2 : Hid (u * p = p ^ (k + 1)) := by show _ = _; rw [Nat.pow_succ, hU.out]
      obtain ⟨u2, hu2⟩ : ∃ u2, u2 = u * p := ⟨_, rfl⟩
      rw [← hu2] at hup h3 s2
      have hme : Hid (((n : Int) - ((k : Int) + 1 + 1)).toNat < ((n : Int) - ((k : Int) + 1)).toNat) := by show _ < _; omega
      clear hu2
      by_cases hbig : 4096 < u2
      · have hbig' : (4096 : Int) < (u2 : Int) := by omega
        have hz : Hid (z = 0) := by
          show _ = _
          rw [hfs.out, if_neg (fsz_at hp1 (k := k + 1) (by omega) (by omega) (by rw [← s2.out]; exact hbig))]
        clear hbig
        go_wp2
        go_ret
        exact ⟨by rw [hz.out]; rfl, rfl⟩
      · have hbig' : decide ((4096 : Int) < (u2 : Int)) = false := by simp; omega
        go_wp2
        go_round
        case rel => exact ⟨k + 1, u2, rfl, by simp, by omega, by omega, s2⟩
        case measure => exact hme.out
    · have hgo' : ¬ (k : Int) + 1 < (n : Int) := by omega
      have hz : Hid (z = u) := by
        show _ = _
        have e : k = n - 1 := by omega
        rw [hfs.out, ← e, ← hU.out, if_pos hu]
      go_wp2
      go_ret
      exact ⟨by rw [hz.out]; rfl, rfl⟩

end Go.Proofs.Ytjpmkcijkcnfiaa.Calls75
