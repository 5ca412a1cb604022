/-
  The statements' gates of stage 8, and the document's own roads: which power it is, one by one.
-/
import Derived.Test.YtpgopgmeabnnnaaCalls52
import Derived.Test.YtpgopgmeabnnnaaCalls23
namespace Go.Proofs.Ytpgopgmeabnnnaa.Calls53
set_option linter.unusedVariables false
open Go.ChangeShapes Go.WideShapes Go.ChangeAt Go.RowKit Go.Proofs.Ytpgopgmeabnnnaa.Num Go.Proofs.Ytpgopgmeabnnnaa.Num6 Go.Proofs.Ytpgopgmeabnnnaa.Num8 Go.Proofs.Ytpgopgmeabnnnaa.Num13 Go.Proofs.Ytpgopgmeabnnnaa.Num32 Go.Proofs.Ytpgopgmeabnnnaa.Calls8 Go.Proofs.Ytpgopgmeabnnnaa.Calls9 Go.Proofs.Ytpgopgmeabnnnaa.Calls11 Go.Proofs.Ytpgopgmeabnnnaa.Calls19 Go.Proofs.Ytpgopgmeabnnnaa.Calls20 Go.Proofs.Ytpgopgmeabnnnaa.Calls23 Go.Proofs.Ytpgopgmeabnnnaa.Calls51

theorem primal_any (p : Int) (w : World) :
    Calls Try.prog 8 #[.int .i64 p] w fun e w' => e = .returned (.int .i64 (pcode p)) ∧ w' = w := by
  by_cases h : Md p
  · obtain ⟨h1, h2⟩ := h
    obtain ⟨m, rfl⟩ : ∃ m : Nat, p = (m : Int) := ⟨p.toNat, by omega⟩
    have cM := fun w => modulus_yes (m : Int) h1 h2 w
    have cI := fun w => refIs_any m (by omega) w
    rw [pcode_yes (by omega) (by omega)]
    generalize prB m = b at cI ⊢
    cases b
    · go_enter Try.func8, Try.ntmps8
      go_wp2_with (first | (go_at_call 22; refine (cM _).mono ?_; rintro e w' ⟨rfl, hw⟩; subst w') | (go_at_call 15; refine (cI _).mono ?_; rintro e w' ⟨rfl, hw⟩; subst w'))
      go_ret
      exact ⟨rfl, rfl⟩
    · go_enter Try.func8, Try.ntmps8
      go_wp2_with (first | (go_at_call 22; refine (cM _).mono ?_; rintro e w' ⟨rfl, hw⟩; subst w') | (go_at_call 15; refine (cI _).mono ?_; rintro e w' ⟨rfl, hw⟩; subst w'))
      go_ret
      exact ⟨rfl, rfl⟩
  · have cM := fun w => modulus_no p h w
    rw [pcode_no h]
    clear h
    go_enter Try.func8, Try.ntmps8
    go_wp2_with (go_at_call 22; refine (cM _).mono ?_; rintro e w' ⟨rfl, hw⟩; subst w')
    go_ret
    exact ⟨rfl, rfl⟩

theorem both_two (a b : Int) (w : World) :
    Calls Try.prog 12 #[.int .i64 a, .int .i64 b] w fun e w' => e = .returned (.int .i64 (if Nr a ∧ Nr b then 0 else 2)) ∧ w' = w := by
  by_cases h : Nr a ∧ Nr b
  · rw [if_pos h]
    obtain ⟨⟨h1, h2⟩, h3, h4⟩ := h
    go_enter Try.func12, Try.ntmps12
    go_wp2_with (go_at_call 26; refine (Far_no _ _ (by omega) (by omega)).mono ?_; rintro e w' ⟨rfl, hw⟩; subst w')
    go_ret
    exact ⟨rfl, rfl⟩
  · rw [if_neg h]
    by_cases ha : Nr a
    · have cA := fun w => Far_no a w ha.1 ha.2
      have cB := fun w => Far_yes b w (far_of (fun hb => h ⟨ha, hb⟩))
      clear h ha
      go_enter Try.func12, Try.ntmps12
      go_wp2_with (first | (go_at_call 26; refine (cA _).mono ?_; rintro e w' ⟨rfl, hw⟩; subst w'; clear cA) | (go_at_call 26; refine (cB _).mono ?_; rintro e w' ⟨rfl, hw⟩; subst w'))
      go_ret
      exact ⟨rfl, rfl⟩
    · have cA := fun w => Far_yes a w (far_of ha)
      clear h ha
      go_enter Try.func12, Try.ntmps12
      go_wp2_with (go_at_call 26; refine (cA _).mono ?_; rintro e w' ⟨rfl, hw⟩; subst w')
      go_ret
      exact ⟨rfl, rfl⟩

set_option maxRecDepth 100000 in
theorem refBase_any (p b : Nat) (hp : Pr p) (hp2 : p ≤ 1048576) (hb : BaseIs p b) (w : World) :
    Calls Try.prog 9 #[.int .i64 (p : Int)] w fun e w' => e = .returned (.int .i64 (b : Int)) ∧ w' = w := by
  have hp1 := hp.1
  have hb1 := hb.one
  have hb2 := hb.lt
  have HB := hid hb
  have HP := hid hp
  clear hb hp
  go_enter Try.func9, Try.ntmps9
  go_wp2
  go_loop [3] (fun t => ∃ g : Nat, t = .int .i64 (g : Int) ∧ 1 ≤ g ∧ g ≤ b) (fun t => b - (intOf t).toNat)
  case atStart => exact ⟨1, rfl, by omega, hb1⟩
  case round =>
    obtain ⟨g, rfl, hg1, hgb⟩ := hrel
    obtain ⟨o, ho, _⟩ := ord_ex (by omega) (cop_small HP.out hg1 (show g < p by omega))
    have cO := fun w => refOrder_yes (g : Int) p o (by omega) hp2 (by rw [rs_nat, Nat.mod_eq_of_lt (by omega)]; exact ho) w
    have hgp : (g : Int) < (p : Int) := by omega
    by_cases hlt : g < b
    · have hne : ¬ o = p - 1 := fun e => HB.out.least g hg1 hlt (e ▸ ho)
      have hne' : ((o : Int) == (p : Int) - 1) = false := by
        have : ¬ (o : Int) = (p : Int) - 1 := by omega
        simpa using this
      clear ho hne
      go_wp2_with (go_at_call 23; refine (cO _).mono ?_; rintro e w' ⟨rfl, hw⟩; subst w')
      go_round
      case rel => exact ⟨g + 1, by simp, by omega, by omega⟩
      case measure => simp [intOf]; omega
    · obtain rfl : g = b := by omega
      have he : o = p - 1 := ho.uniq HB.out.ord
      have hne' : ((o : Int) == (p : Int) - 1) = true := by
        have : (o : Int) = (p : Int) - 1 := by omega
        simp [this]
      clear ho he
      go_wp2_with (go_at_call 23; refine (cO _).mono ?_; rintro e w' ⟨rfl, hw⟩; subst w')
      go_ret
      exact ⟨rfl, rfl⟩

theorem nat_beq (x y : Nat) : ((x : Int) == (y : Int)) = decide (x = y) := by
  by_cases h : x = y
  · subst h; simp
  · rw [decide_eq_false h, beq_eq_false_iff_ne]
    intro h3; exact h (by exact_mod_cast h3)

set_option maxRecDepth 100000 in
theorem refLog_yes (g a : Int) (p k : Nat) (hp : Pr p) (hp2 : p ≤ 1048576) (hk : LogIs (rs g p) (rs a p) p k) (w : World) :
    Calls Try.prog 13 #[.int .i64 g, .int .i64 a, .int .i64 (p : Int)] w fun e w' => e = .returned (.int .i64 (k : Int)) ∧ w' = w := by
  have hp1 := hp.1
  have hkp := hk.lt hp (rs_lt g (by omega))
  have cA := fun w => refMod_at a p w (by omega) hp2
  have cG := fun w => refMod_at g p w (by omega) hp2
  have hr := rs_lt g (show 1 ≤ p by omega)
  have hp0 : ¬ (p : Int) = 0 := by omega
  have e1 : Hid ((1 : Int) % (p : Int) = ((1 % p : Nat) : Int)) := by show _ = _; simp
  have HK := hid hk
  clear hk hp
  go_enter Try.func13, Try.ntmps13
  go_wp2
  go_loop [7, 8] (fun t i => ∃ x j : Nat, t = .int .i64 (x : Int) ∧ i = .int .i64 (j : Int) ∧ x < p ∧ j ≤ k ∧ Hid (x = rs g p ^ j % p)) (fun t i => k - (intOf i).toNat)
  case atStart => exact ⟨1 % p, 0, by rw [e1.out], rfl, Nat.mod_lt _ (by omega), by omega, by show _ = _; rw [Nat.pow_zero]⟩
  case round =>
    obtain ⟨x, j, rfl, rfl, hx, hj, hX⟩ := hrel
    have hjp : (j : Int) ≤ (p : Int) := by omega
    have hb := nat_beq x (rs a p)
    by_cases hlt : j < k
    · have hne : ¬ x = rs a p := fun e => HK.out.2 j hlt (hX.out.symm.trans e)
      rw [decide_eq_false hne] at hb
      clear hne
      obtain ⟨b1, b2⟩ := mul_bd hx hr hp2
      have hms : Hid (((x * rs g p % p : Nat) : Int) = (x : Int) * (rs g p : Int) % (p : Int)) := by show _ = _; simp
      have hl : x * rs g p % p < p := Nat.mod_lt _ (by omega)
      have HX : Hid (x * rs g p % p = rs g p ^ (j + 1) % p) := by show _ = _; rw [hX.out, Nat.mod_mul_mod, Nat.pow_succ]
      go_wp2_with (first | (go_at_call 19; refine (cA _).mono ?_; rintro e w' ⟨rfl, hw⟩; subst w'; clear cA) | (go_at_call 19; refine (cG _).mono ?_; rintro e w' ⟨rfl, hw⟩; subst w'))
      go_round
      case rel => exact ⟨x * rs g p % p, j + 1, by rw [hms.out], by simp, hl, by omega, HX⟩
      case measure => simp [intOf]; omega
    · obtain rfl : j = k := by omega
      have he : x = rs a p := hX.out.trans HK.out.1
      rw [decide_eq_true he] at hb
      clear he
      go_wp2_with (go_at_call 19; refine (cA _).mono ?_; rintro e w' ⟨rfl, hw⟩; subst w')
      go_ret
      exact ⟨rfl, rfl⟩

set_option maxRecDepth 100000 in
theorem refLog_none (g a : Int) (p : Nat) (hp : Pr p) (hp2 : p ≤ 1048576) (hk : NoLog (rs g p) (rs a p) p) (w : World) :
    Calls Try.prog 13 #[.int .i64 g, .int .i64 a, .int .i64 (p : Int)] w fun e w' => e = .returned (.int .i64 (-1)) ∧ w' = w := by
  have hp1 := hp.1
  have cA := fun w => refMod_at a p w (by omega) hp2
  have cG := fun w => refMod_at g p w (by omega) hp2
  have hr := rs_lt g (show 1 ≤ p by omega)
  have hp0 : ¬ (p : Int) = 0 := by omega
  have e1 : Hid ((1 : Int) % (p : Int) = ((1 % p : Nat) : Int)) := by show _ = _; simp
  have HK := hid hk
  clear hk hp
  go_enter Try.func13, Try.ntmps13
  go_wp2
  go_loop [7, 8] (fun t i => ∃ x j : Nat, t = .int .i64 (x : Int) ∧ i = .int .i64 (j : Int) ∧ x < p ∧ j ≤ p + 1 ∧ Hid (x = rs g p ^ j % p)) (fun t i => p + 1 - (intOf i).toNat)
  case atStart => exact ⟨1 % p, 0, by rw [e1.out], rfl, Nat.mod_lt _ (by omega), by omega, by show _ = _; rw [Nat.pow_zero]⟩
  case round =>
    obtain ⟨x, j, rfl, rfl, hx, hj, hX⟩ := hrel
    have hb := nat_beq x (rs a p)
    have hne : ¬ x = rs a p := fun e => HK.out j (hX.out.symm.trans e)
    rw [decide_eq_false hne] at hb
    clear hne
    by_cases hlt : j ≤ p
    · have hjp : (j : Int) ≤ (p : Int) := by omega
      obtain ⟨b1, b2⟩ := mul_bd hx hr hp2
      have hms : Hid (((x * rs g p % p : Nat) : Int) = (x : Int) * (rs g p : Int) % (p : Int)) := by show _ = _; simp
      have hl : x * rs g p % p < p := Nat.mod_lt _ (by omega)
      have HX : Hid (x * rs g p % p = rs g p ^ (j + 1) % p) := by show _ = _; rw [hX.out, Nat.mod_mul_mod, Nat.pow_succ]
      go_wp2_with (first | (go_at_call 19; refine (cA _).mono ?_; rintro e w' ⟨rfl, hw⟩; subst w'; clear cA) | (go_at_call 19; refine (cG _).mono ?_; rintro e w' ⟨rfl, hw⟩; subst w'))
      go_round
      case rel => exact ⟨x * rs g p % p, j + 1, by rw [hms.out], by simp, hl, by omega, HX⟩
      case measure => simp [intOf]; omega
    · have hjp : ¬ (j : Int) ≤ (p : Int) := by omega
      go_wp2
      go_ret
      exact ⟨rfl, rfl⟩

end Go.Proofs.Ytpgopgmeabnnnaa.Calls53
