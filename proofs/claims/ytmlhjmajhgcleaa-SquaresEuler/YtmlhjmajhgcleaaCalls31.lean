/-
  Roots by an odd prime: what package squares' split, raise, rootless, climb and Root answer.
-/
import Derived.Test.YtmlhjmajhgcleaaCalls29
namespace Go.Proofs.Ytmlhjmajhgcleaa.Calls31
set_option linter.unusedVariables false
open Go.ChangeShapes Go.WideShapes Go.ChangeAt Go.RowKit Go.Proofs.Ytmlhjmajhgcleaa.Num Go.Proofs.Ytmlhjmajhgcleaa.Num9 Go.Proofs.Ytmlhjmajhgcleaa.Num10 Go.Proofs.Ytmlhjmajhgcleaa.Num13 Go.Proofs.Ytmlhjmajhgcleaa.Num29 Go.Proofs.Ytmlhjmajhgcleaa.Calls8 Go.Proofs.Ytmlhjmajhgcleaa.Calls9 Go.Proofs.Ytmlhjmajhgcleaa.Calls19 Go.Proofs.Ytmlhjmajhgcleaa.Calls20 Go.Proofs.Ytmlhjmajhgcleaa.Calls29

theorem sraise_any (a : Int) (k m : Nat) (ha : Nr a) (hk : k ≤ 2147483648) (hm1 : 1 ≤ m) (hm2 : m ≤ 1048576) (w : World) :
    Calls Try.prog 39 #[.int .i64 a, .int .i64 (k : Int), .int .i64 (m : Int)] w fun e w' => e = .returned (.int .i64 (pw a k m : Int)) ∧ w' = w := by
  have cP := fun w => Pow_yes a k m ha.1 ha.2 hk hm1 hm2 w
  clear ha
  go_enter Try.func39, Try.ntmps39
  go_wp2_with (go_at_call 19; refine (cP _).mono ?_; rintro e w' ⟨rfl, hw⟩; subst w')
  go_ret
  exact ⟨rfl, rfl⟩

theorem split_end {n d s b c : Nat} (hd : d % 2 = 1) (e : 2 ^ s * d = n) (hb : b % 2 = 1) (e' : 2 ^ c * b = n) : b = d ∧ c = s := by
  have := pow_split (p := 2) (a := c) (b := s) (A := b) (B := d) (by omega) (by omega) (by omega) (by rw [e', e])
  exact ⟨this.2, this.1⟩

theorem split_step {n b c : Nat} (e : 2 ^ c * b = n) (hb : b % 2 = 0) : 2 ^ (c + 1) * (b / 2) = n := by
  rw [Nat.pow_succ, Nat.mul_assoc, show 2 * (b / 2) = b by omega]; exact e

set_option maxRecDepth 100000 in
theorem split_any (n d s : Nat) (hn1 : 1 ≤ n) (hn2 : n ≤ 1048576) (hd : d % 2 = 1) (e : 2 ^ s * d = n) (w : World) :
    Calls Try.prog 38 #[.int .i64 (n : Int)] w fun e w' => e = .returned (.tuple #[.int .i64 (d : Int), .int .i64 (s : Int)]) ∧ w' = w := by
  have HE := hid (fun b c h1 h2 => split_end (b := b) (c := c) hd e h1 h2)
  clear hd e
  go_enter Try.func38, Try.ntmps38
  go_wp2
  go_loop [0, 4] (fun tb tc => ∃ b c : Nat, tb = .int .i64 (b : Int) ∧ tc = .int .i64 (c : Int) ∧ 1 ≤ b ∧ b ≤ n ∧ c ≤ 20 ∧ Hid (2 ^ c * b = n)) (fun tb _ => (intOf tb).toNat)
  case atStart => exact ⟨n, 0, rfl, rfl, hn1, by omega, by omega, by show _ = _; simp⟩
  case round =>
    obtain ⟨b, c, rfl, rfl, hb1, hbn, hc, hI⟩ := hrel
    by_cases he : b % 2 = 0
    · have he1 := beq_t (show (b : Int) % 2 = 0 by omega)
      have hN := hid (split_step hI.out he)
      have hq : Hid ((b : Int) / 2 = ((b / 2 : Nat) : Int)) := by show _ = _; omega
      have hb2 : 1 ≤ b / 2 := by omega
      have hc2 := exp_le (p := 2) (by omega) hb2 hN.out hn2
      clear he
      go_wp2
      go_round
      case rel => exact ⟨b / 2, c + 1, by rw [hq.out], by simp, hb2, by omega, hc2, hN⟩
      case measure => simp only [intOf]; omega
    · have he1 := beq_f (show ¬ (b : Int) % 2 = 0 by omega)
      have hE := hid (HE.out b c (by omega) hI.out)
      clear he
      go_wp2
      go_ret2
      obtain ⟨e1, e2⟩ := hE.out
      exact ⟨by rw [e1, e2]; rfl, rfl⟩

theorem JJ_leg (a : Int) {p : Nat} (hp : Pr p) : JJ a p (leg (rs a p) p) := ⟨[(p, 1)], Fac.prime hp, jac_prime hp (Fac.prime hp)⟩

theorem leg_rs (z : Nat) {p : Nat} : leg (rs (z : Int) p) p = leg z p := by rw [rs_nat, leg_mod (Nat.mod_mod z p)]

theorem odd_of {p : Nat} (hp : Pr p) (h2 : p ≠ 2) : p % 2 = 1 := by
  obtain ⟨h, e, _⟩ := odd_half hp h2
  omega

theorem meas_z {z p : Nat} (h : z < p) : ((p : Int) - ((z : Int) + 1)).toNat < ((p : Int) - (z : Int)).toNat := by omega

set_option maxRecDepth 100000 in
theorem rootless_any (p z : Nat) (hp : Pr p) (h2 : p ≠ 2) (hp2 : p ≤ 1048576) (hz : z < p) (hl : leg z p = -1) (hno : ∀ y, y < z → ¬ leg y p = -1) (w : World) :
    Calls Try.prog 40 #[.int .i64 (p : Int)] w fun e w' => e = .returned (.int .i64 (z : Int)) ∧ w' = w := by
  have cS : ∀ (y : Nat) (w : World), Calls Try.prog 24 #[.int .i64 (y : Int), .int .i64 (p : Int)] w fun e w' => e = .returned (.int .i64 (leg y p)) ∧ w' = w := by
    intro y w
    have hJ := JJ_leg (y : Int) hp
    rw [leg_rs] at hJ
    exact symbol_any (y : Int) p _ (odd_of hp h2) hp2 hJ w
  have hp1 := hp.1
  have HL := hid hl
  have HN := hid hno
  clear hl hno hp h2
  go_enter Try.func40, Try.ntmps40
  go_wp2
  go_loop [3, 5] (fun _ tx => ∃ x : Nat, tx = .int .i64 (x : Int) ∧ x ≤ z) (fun _ tx => ((p : Int) - intOf tx).toNat)
  case atStart => exact ⟨0, rfl, by omega⟩
  case round =>
    obtain ⟨x, rfl, hx⟩ := hrel
    have hxp : x < p := by omega
    have hxp' : (x : Int) < (p : Int) := by omega
    have cX := cS x
    clear cS
    by_cases hh : x = z
    · subst hh
      rw [HL.out] at cX
      go_wp2_with (go_at_call 24; refine (cX _).mono ?_; rintro e w' ⟨rfl, hw⟩; subst w')
      go_ret
      exact ⟨rfl, rfl⟩
    · have hb := beq_f (HN.out x (by omega))
      obtain ⟨g, hg⟩ : ∃ g, leg x p = g := ⟨_, rfl⟩
      rw [hg] at cX hb
      clear hg
      go_wp2_with (go_at_call 24; refine (cX _).mono ?_; rintro e w' ⟨rfl, hw⟩; subst w')
      go_round
      case rel => exact ⟨x + 1, by simp, by omega⟩
      case measure => exact meas_z hxp

theorem shl_one {k : Nat} (h : k ≤ 20) : wrap64 ((2 : Int) ^ k) = ((2 ^ k : Nat) : Int) := by
  have h1 : 2 ^ k ≤ 2 ^ 20 := Nat.pow_le_pow_right (by omega) h
  have h2 : ((2 ^ k : Nat) : Int) = (2 : Int) ^ k := by simp
  have h3 : (2 : Nat) ^ 20 = 1048576 := by decide
  have h4 : (2 : Int) ^ k ≤ 1048576 := by rw [← h2]; exact Int.ofNat_le.2 (by omega : 2 ^ k ≤ 1048576)
  have h5 : (0 : Int) ≤ (2 : Int) ^ k := by rw [← h2]; exact Int.natCast_nonneg _
  rw [IntWalk.wrap64_in _ ⟨Int.le_trans (by decide) h5, Int.le_trans h4 (by decide)⟩, h2]

theorem pw_nat (o k p : Nat) : pw (o : Int) k p = o ^ k % p := by unfold pw; rw [rs_nat, pow_mod']

theorem meas_i {i s : Nat} (h : i + 1 < s) : ((s : Int) - 1 - ((i : Int) + 1)).toNat < ((s : Int) - 1 - (i : Int)).toNat := by omega

set_option maxRecDepth 100000 in
set_option maxHeartbeats 1000000 in
theorem climb_any (a : Int) (p : Nat) (ha : Nr a) (hp : Pr p) (h2 : p ≠ 2) (hp2 : p ≤ 1048576) (hl : leg (rs a p) p = 1) (w : World) :
    Calls Try.prog 29 #[.int .i64 a, .int .i64 (p : Int)] w fun e w' => (∃ x : Nat, x < p ∧ x * x % p = rs a p ∧ e = .returned (.int .i64 (x : Int))) ∧ w' = w := by
  have ho := odd_of hp h2
  have hp1 := hp.1
  obtain ⟨s, d, e0, hd0, hd1⟩ := pow_out (p := 2) (by omega) (p - 1) (by omega)
  have hd : d % 2 = 1 := by omega
  have hs1 : 1 ≤ s := by
    rcases Nat.eq_zero_or_pos s with e | e
    · subst e; simp at e0; omega
    · exact e
  have hs2 := exp_le (p := 2) (by omega) hd1 e0.symm (by omega)
  have hdp : d ≤ p - 1 := by
    have : 1 * d ≤ 2 ^ s * d := Nat.mul_le_mul_right d (Nat.pow_pos (by omega))
    omega
  obtain ⟨z, hz, hzl, hzn⟩ : ∃ z, z < p ∧ leg z p = -1 ∧ ∀ y, y < z → ¬ leg y p = -1 := by
    obtain ⟨z0, h1, h3⟩ := rootless_ex hp h2
    obtain ⟨z, h4, h5, h6⟩ := Go.Proofs.Ytmlhjmajhgcleaa.Num6.least_ex (P := fun z => leg z p = -1) z0 h3
    exact ⟨z, by omega, h4, h6⟩
  have HT := hid (Ton.start hp h2 hd hs1 (by rw [Nat.mul_comm]; exact e0) hl hzl)
  have cSp : ∀ w, Calls Try.prog 38 #[.int .i64 ((p : Int) - 1)] w fun e w' => e = .returned (.tuple #[.int .i64 (d : Int), .int .i64 (s : Int)]) ∧ w' = w := by
    intro w
    rw [show (p : Int) - 1 = ((p - 1 : Nat) : Int) by omega]
    exact split_any (p - 1) d s (by omega) (by omega) hd e0.symm w
  have cR1 : ∀ w, Calls Try.prog 39 #[.int .i64 a, .int .i64 (((d : Int) + 1) / 2), .int .i64 (p : Int)] w fun e w' => e = .returned (.int .i64 (pw a ((d + 1) / 2) p : Int)) ∧ w' = w := by
    intro w
    rw [show ((d : Int) + 1) / 2 = (((d + 1) / 2 : Nat) : Int) by omega]
    exact sraise_any a _ p ha (by omega) (by omega) hp2 w
  have cR2 := fun w => sraise_any a d p ha (by omega) (by omega) hp2 w
  have cRl := fun w => rootless_any p z hp h2 hp2 hz hzl hzn w
  have cR3 := fun w => sraise_any (z : Int) d p ⟨by omega, by omega⟩ (by omega) (by omega) hp2 w
  have l1 := pw_lt a ((d + 1) / 2) (m := p) (by omega)
  have l2 := pw_lt a d (m := p) (by omega)
  have l3 := pw_lt (z : Int) d (m := p) (by omega)
  have HA := hid (rs_mod a (m := p) (by omega))
  have hpp := hid hp
  have hT0 : Hid (Ton p (rs a p) (pw a ((d + 1) / 2) p) (pw a d p) (pw (z : Int) d p) (s - 1)) := by
    have h := HT.out
    rw [pw_nat]
    exact h
  have cRO : ∀ (o k : Nat), o < p → k ≤ 20 → ∀ w, Calls Try.prog 39 #[.int .i64 (o : Int), .int .i64 ((2 ^ k : Nat) : Int), .int .i64 (p : Int)] w fun e w' => e = .returned (.int .i64 ((o ^ (2 ^ k) % p : Nat) : Int)) ∧ w' = w := by
    intro o k ho hk w
    have := sraise_any (o : Int) (2 ^ k) p ⟨by omega, by omega⟩ (by
      have h1 : 2 ^ k ≤ 2 ^ 20 := Nat.pow_le_pow_right (by omega) hk
      have h3 : (2 : Nat) ^ 20 = 1048576 := by decide
      omega) (by omega) hp2 w
    rw [pw_nat] at this
    exact this
  have hp0 : ¬ (p : Int) = 0 := by omega
  clear hp h2 hl hzl hzn hd0 e0 HT ho hd
  go_enter Try.func29, Try.ntmps29
  go_wp2_with (first | (go_at_call 38; refine (cSp _).mono ?_; rintro e w' ⟨rfl, hw⟩; subst w') | (go_at_call 40; refine (cRl _).mono ?_; rintro e w' ⟨rfl, hw⟩; subst w') | (go_at_call 39; refine (cR1 _).mono ?_; rintro e w' ⟨rfl, hw⟩; subst w'; clear cR1) | (go_at_call 39; refine (cR2 _).mono ?_; rintro e w' ⟨rfl, hw⟩; subst w'; clear cR2) | (go_at_call 39; refine (cR3 _).mono ?_; rintro e w' ⟨rfl, hw⟩; subst w'; clear cR3))
  go_loop [7, 8, 9, 10, 11, 35] (fun tx to tt _ _ ti => ∃ x o t i : Nat, tx = .int .i64 (x : Int) ∧ to = .int .i64 (o : Int) ∧ tt = .int .i64 (t : Int) ∧ ti = .int .i64 (i : Int) ∧ x < p ∧ o < p ∧ t < p ∧ i + 1 ≤ s ∧ Hid (Ton p (rs a p) x o t (s - 1 - i))) (fun _ _ _ _ _ ti => ((s : Int) - 1 - intOf ti).toNat)
  case atStart => exact ⟨_, _, _, 0, rfl, rfl, rfl, rfl, l1, l2, l3, by omega, hT0⟩
  case round =>
    obtain ⟨x, o, t, i, rfl, rfl, rfl, rfl, hx, hol, ht, hi, hT⟩ := hrel
    by_cases hgo : i + 1 < s
    · have hgo' : (i : Int) < (s : Int) - 1 := by omega
      obtain ⟨m1, m2⟩ := mul_bd ht ht hp2
      obtain ⟨m3, m4⟩ := mul_bd hx ht hp2
      have ltt : t * t % p < p := Nat.mod_lt _ (by omega)
      obtain ⟨m5, m6⟩ := mul_bd hol ltt hp2
      obtain ⟨k, hk⟩ : ∃ k, s - 1 - i = k + 1 := ⟨s - 2 - i, by omega⟩
      have cO := cRO o k hol (by omega)
      rw [← shl_one (show k ≤ 20 by omega)] at cO
      clear cRO
      have hc1 : ((t * t % p : Nat) : Int) = (t : Int) * (t : Int) % (p : Int) := by simp
      rw [hc1] at m5 m6
      have hsh : (s : Int) - 2 - (i : Int) = (k : Int) := by omega
      have c2 : Hid (((t * t % p : Nat) : Int) = (t : Int) * (t : Int) % (p : Int)) := hc1
      have c3 : Hid (((x * t % p : Nat) : Int) = (x : Int) * (t : Int) % (p : Int)) := by show _ = _; simp
      have c4 : Hid (((o * (t * t % p) % p : Nat) : Int) = (o : Int) * ((t : Int) * (t : Int) % (p : Int)) % (p : Int)) := by show _ = _; push_cast; rfl
      clear hc1
      have b1 : x * t % p < p := Nat.mod_lt _ (by omega)
      have b2 : o * (t * t % p) % p < p := Nat.mod_lt _ (by omega)
      have hk2 : Hid (s - 1 - (i + 1) = k) := by show _ = _; omega
      have hT1 : Hid (Ton p (rs a p) x o t (k + 1)) := by rw [← hk]; exact hT
      clear hk
      have HT1 := hid (hT1.out.keep)
      have HT2 := hid (hT1.out.take hpp.out)
      obtain ⟨u, hu⟩ : ∃ u, o ^ (2 ^ k) % p = u := ⟨_, rfl⟩
      rw [hu] at cO HT1 HT2
      clear hu
      by_cases hu1 : u = 1
      · have hu2 := bne_f (show (u : Int) = 1 by omega)
        have hN := hid (HT1.out hu1)
        clear hu1
        go_wp2_with (go_at_call 39; refine (cO _).mono ?_; rintro e w' ⟨rfl, hw⟩; subst w')
        go_round
        case rel => exact ⟨x, o, t * t % p, i + 1, rfl, rfl, by rw [c2.out], by simp, hx, hol, ltt, by omega, by rw [hk2.out]; exact hN⟩
        case measure => exact meas_i hgo
      · have hu2 := bne_t (show ¬ (u : Int) = 1 by omega)
        have hN := hid (HT2.out hu1)
        clear hu1
        go_wp2_with (go_at_call 39; refine (cO _).mono ?_; rintro e w' ⟨rfl, hw⟩; subst w')
        go_round
        case rel => exact ⟨x * t % p, o * (t * t % p) % p, t * t % p, i + 1, by rw [c3.out], by rw [c4.out], by rw [c2.out], by simp, b1, b2, ltt, by omega, by rw [hk2.out]; exact hN⟩
        case measure => exact meas_i hgo
    · have hgo' : ¬ (i : Int) < (s : Int) - 1 := by omega
      have hD : Hid (x * x % p = rs a p) := by
        have h := hT.out
        rw [show s - 1 - i = 0 by omega] at h
        have := h.done
        rw [HA.out] at this
        exact this
      go_wp2
      go_ret
      exact ⟨⟨x, hx, hD.out, rfl⟩, rfl⟩

theorem min_root {p A r x : Nat} (hp : Pr p) (hL : Least p A r) (h0 : ¬ A = 0) (hx : x < p) (hxe : x * x % p = A) : r = min x (p - x) := by
  have hx1 : 1 ≤ x := by
    rcases Nat.eq_zero_or_pos x with e | e
    · subst e; simp at hxe; omega
    · exact e
  have h := Least.of hp hx hx1 hxe
  exact hL.uniq ⟨h.1, h.2.2.1⟩

theorem Root_no (a p : Int) (h : ¬ (Nr a ∧ Md p)) (w : World) :
    Calls Try.prog 14 #[.int .i64 a, .int .i64 p] w fun e w' => e = .returned (.tuple #[.int .i64 0, .int .i64 2]) ∧ Below w.heap.size w w' := by
  have cN := fun w => sNumber_any a w
  have cM := fun w => sModulus_any p w
  by_cases h1 : Nr a
  · rw [decide_eq_true h1] at cN
    rw [decide_eq_false (fun h2 => h ⟨h1, h2⟩)] at cM
    clear h h1
    go_enter Try.func14, Try.ntmps14
    go_wp2_with (first | (go_at_call 22; refine (cN _).mono ?_; rintro e w' ⟨rfl, hw⟩; subst w') | (go_at_call 23; refine (cM _).mono ?_; rintro e w' ⟨rfl, hw⟩; subst w'))
    go_ret2
    exact ⟨rfl, Below.refl _ _⟩
  · rw [decide_eq_false h1] at cN
    clear h h1
    go_enter Try.func14, Try.ntmps14
    go_wp2_with (go_at_call 22; refine (cN _).mono ?_; rintro e w' ⟨rfl, hw⟩; subst w')
    go_ret2
    exact ⟨rfl, Below.refl _ _⟩

theorem Root_arg (a : Int) (p : Nat) (ha : Nr a) (hp1 : 1 ≤ p) (hp2 : p ≤ 1048576) (h : ¬ Pr p ∨ p = 2) (w : World) :
    Calls Try.prog 14 #[.int .i64 a, .int .i64 (p : Int)] w fun e w' => e = .returned (.tuple #[.int .i64 0, .int .i64 3]) ∧ Below w.heap.size w w' := by
  have cN := fun w => sNumber_any a w
  have cM := fun w => sModulus_any (p : Int) w
  have cI := fun w => Is_yes p hp1 hp2 w
  rw [decide_eq_true ha] at cN
  rw [decide_eq_true ⟨by omega, by omega⟩] at cM
  cases hb : prB p
  · rw [hb] at cI
    clear h ha hb
    go_enter Try.func14, Try.ntmps14
    go_wp2_with (first | (go_at_call 22; refine (cN _).mono ?_; rintro e w' ⟨rfl, hw⟩; subst w') | (go_at_call 23; refine (cM _).mono ?_; rintro e w' ⟨rfl, hw⟩; subst w') | (go_at_call 28; refine (cI _).mono ?_; rintro e w1 ⟨rfl, hB⟩))
    go_ret2
    exact ⟨rfl, hB⟩
  · have e : p = 2 := by
      rcases h with h | h
      · exact absurd ((prB_iff p).1 hb) h
      · exact h
    subst e
    rw [hb] at cI
    clear h ha hb
    go_enter Try.func14, Try.ntmps14
    go_wp2_with (first | (go_at_call 22; refine (cN _).mono ?_; rintro e w' ⟨rfl, hw⟩; subst w') | (go_at_call 23; refine (cM _).mono ?_; rintro e w' ⟨rfl, hw⟩; subst w') | (go_at_call 28; refine (cI _).mono ?_; rintro e w1 ⟨rfl, hB⟩))
    go_ret2
    exact ⟨rfl, hB⟩

theorem Root_none (a : Int) (p : Nat) (ha : Nr a) (hp : Pr p) (h2 : p ≠ 2) (hp2 : p ≤ 1048576) (hl : leg (rs a p) p = -1) (w : World) :
    Calls Try.prog 14 #[.int .i64 a, .int .i64 (p : Int)] w fun e w' => e = .returned (.tuple #[.int .i64 0, .int .i64 5]) ∧ Below w.heap.size w w' := by
  have hp1 := hp.1
  have cN := fun w => sNumber_any a w
  have cM := fun w => sModulus_any (p : Int) w
  have cI := fun w => Is_yes p (by omega) hp2 w
  have cS := fun w => symbol_any a p _ (odd_of hp h2) hp2 (JJ_leg a hp) w
  rw [hl] at cS
  rw [(prB_iff p).2 hp] at cI
  rw [decide_eq_true ha] at cN
  rw [decide_eq_true ⟨by omega, by omega⟩] at cM
  have hq := beq_f (show ¬ (p : Int) = 2 by omega)
  clear hp ha hl h2
  go_enter Try.func14, Try.ntmps14
  go_wp2_with (first | (go_at_call 22; refine (cN _).mono ?_; rintro e w' ⟨rfl, hw⟩; subst w') | (go_at_call 23; refine (cM _).mono ?_; rintro e w' ⟨rfl, hw⟩; subst w') | (go_at_call 28; refine (cI _).mono ?_; rintro e w1 ⟨rfl, hB⟩) | (go_at_call 24; refine (cS _).mono ?_; rintro e w' ⟨rfl, hw⟩; subst w'))
  go_ret2
  exact ⟨rfl, hB⟩

theorem Root_yes (a : Int) (p r : Nat) (ha : Nr a) (hp : Pr p) (h2 : p ≠ 2) (hp2 : p ≤ 1048576) (hl : Least p (rs a p) r) (w : World) :
    Calls Try.prog 14 #[.int .i64 a, .int .i64 (p : Int)] w fun e w' => e = .returned (.tuple #[.int .i64 (r : Int), .int .i64 0]) ∧ Below w.heap.size w w' := by
  have hp1 := hp.1
  have cN := fun w => sNumber_any a w
  have cM := fun w => sModulus_any (p : Int) w
  have cI := fun w => Is_yes p (by omega) hp2 w
  have cS := fun w => symbol_any a p _ (odd_of hp h2) hp2 (JJ_leg a hp) w
  rw [(prB_iff p).2 hp] at cI
  rw [decide_eq_true ha] at cN
  rw [decide_eq_true ⟨by omega, by omega⟩] at cM
  have hq := beq_f (show ¬ (p : Int) = 2 by omega)
  have hpp := hid hp
  have HL := hid hl
  have hA := rs_lt a (m := p) (by omega)
  have hAm := rs_mod a (m := p) (by omega)
  by_cases h0 : rs a p = 0
  · rw [leg_zero.2 (by rw [hAm]; exact h0)] at cS
    have e : Hid (r = 0) := by
      have h := HL.out
      rw [h0] at h
      exact h.uniq ⟨by simp, fun y hy => by omega⟩
    clear hp ha hl h2 h0
    go_enter Try.func14, Try.ntmps14
    go_wp2_with (first | (go_at_call 22; refine (cN _).mono ?_; rintro e w' ⟨rfl, hw⟩; subst w') | (go_at_call 23; refine (cM _).mono ?_; rintro e w' ⟨rfl, hw⟩; subst w') | (go_at_call 28; refine (cI _).mono ?_; rintro e w1 ⟨rfl, hB⟩) | (go_at_call 24; refine (cS _).mono ?_; rintro e w' ⟨rfl, hw⟩; subst w'))
    go_ret2
    exact ⟨by rw [e.out]; rfl, hB⟩
  · have hl1 : leg (rs a p) p = 1 := leg_of_root (by omega) (by rw [hAm]; exact h0) (x := r) (by rw [hAm]; exact hl.1)
    have cC := fun w => climb_any a p ha hp h2 hp2 hl1 w
    rw [hl1] at cS
    clear hp ha hl h2 hl1
    go_enter Try.func14, Try.ntmps14
    go_wp2_with (first | (go_at_call 22; refine (cN _).mono ?_; rintro e w' ⟨rfl, hw⟩; subst w') | (go_at_call 23; refine (cM _).mono ?_; rintro e w' ⟨rfl, hw⟩; subst w') | (go_at_call 28; refine (cI _).mono ?_; rintro e w1 ⟨rfl, hB⟩) | (go_at_call 24; refine (cS _).mono ?_; rintro e w' ⟨rfl, hw⟩; subst w') | (go_at_call 29; refine (cC _).mono ?_; rintro e w' ⟨⟨x, hx, hxe, rfl⟩, hw⟩; subst w'; have hE := hid (min_root hpp.out HL.out h0 hx hxe); clear hxe))
    · go_ret2
      exact ⟨by rw [show (p : Int) - (x : Int) = (r : Int) by have := hE.out; omega]; rfl, hB⟩
    · go_ret2
      exact ⟨by rw [show (x : Int) = (r : Int) by have := hE.out; omega]; rfl, hB⟩

end Go.Proofs.Ytmlhjmajhgcleaa.Calls31
