/-
  The walk through PrimesUnique: the list that is told, and any other list of rising prime powers with the same product.
-/
import Derived.Test.YtlbmhhkhemhfaaaCalls13
import Derived.Test.YtlbmhhkhemhfaaaNum4
namespace Go.Proofs.Ytlbmhhkhemhfaaa.Calls14
set_option linter.unusedVariables false
open Go.ChangeShapes Go.WideShapes Go.ChangeAt Go.RowKit Go.Proofs.Ytlbmhhkhemhfaaa.Num Go.Proofs.Ytlbmhhkhemhfaaa.Num4 Go.Proofs.Ytlbmhhkhemhfaaa.Calls7 Go.Proofs.Ytlbmhhkhemhfaaa.Calls8 Go.Proofs.Ytlbmhhkhemhfaaa.Calls9 Go.Proofs.Ytlbmhhkhemhfaaa.Calls11 Go.Proofs.Ytlbmhhkhemhfaaa.Calls13

theorem ints_getD (l : List (Nat × Nat)) (j : Nat) : (ints l).getD j (0, 0) = (((l.getD j (0, 0)).1 : Int), ((l.getD j (0, 0)).2 : Int)) := by
  simp only [ints, List.getD, List.getElem?_map]
  cases l[j]? <;> simp

/-- The cells of element j, as the walk asks for them. -/
theorem prow_at {W : World} {ad : Addr} {l : List (Nat × Nat)} (h : PRow W (some ad) (ints l)) {j : Nat} (hj : j < l.length) :
    W.cell? (ad.add (j * 2)) = some (.int .i64 ((l.getD j (0, 0)).1 : Int)) ∧ W.cell? { block := (ad.add (j * 2)).block, off := (ad.add (j * 2)).off + 1 } = some (.int .i64 ((l.getD j (0, 0)).2 : Int)) := by
  obtain ⟨c1, c2⟩ := h.2 ad rfl j (by rw [ints_length]; exact hj)
  rw [add_two] at c2
  rw [ints_getD] at c1 c2
  exact ⟨c1, c2⟩

theorem prow_at' {W : World} {ad : Addr} {l : List (Int × Int)} (h : PRow W (some ad) l) {j : Nat} (hj : j < l.length) :
    W.cell? (ad.add (j * 2)) = some (.int .i64 (l.getD j (0, 0)).1) ∧ W.cell? { block := (ad.add (j * 2)).block, off := (ad.add (j * 2)).off + 1 } = some (.int .i64 (l.getD j (0, 0)).2) := by
  obtain ⟨c1, c2⟩ := h.2 ad rfl j hj
  rw [add_two] at c2
  exact ⟨c1, c2⟩

theorem prow_none {W : World} {l : List (Int × Int)} (h : PRow W none l) {j : Nat} (hj : j < l.length) : False := by
  rw [h.1 rfl] at hj; simp at hj

theorem ints_snoc {pre : List (Nat × Nat)} {l : List (Int × Int)} {k p : Nat} {x : Int} (h : ints pre = l.take k) (hx : l.getD k (0, 0) = ((p : Int), x)) (h1 : 1 ≤ x) (hk : k < l.length) : ints (pre ++ [(p, x.toNat)]) = l.take (k + 1) := by
  have e : l[k]? = some ((p : Int), x) := by
    rw [List.getElem?_eq_getElem hk]
    rw [List.getD, List.getElem?_eq_getElem hk] at hx
    simpa using hx
  rw [List.take_add_one, e, ← h]
  simp [ints]
  omega

theorem ints_len {pre : List (Nat × Nat)} {l : List (Int × Int)} {k : Nat} (h : ints pre = l.take k) (hk : k ≤ l.length) : pre.length = k := by
  have h1 := ints_length pre
  rw [h, List.length_take] at h1
  omega

theorem ints_first {pre : List (Nat × Nat)} {l : List (Int × Int)} {k j : Nat} (h : ints pre = l.take k) (hj : j < k) (hk : k ≤ l.length) : ((pre.getD j (0, 0)).1 : Int) = (l.getD j (0, 0)).1 := by
  have h1 := ints_getD pre j
  rw [h] at h1
  have h2 : (l.take k).getD j (0, 0) = l.getD j (0, 0) := by
    simp only [List.getD, List.getElem?_take, hj, if_true]
  rw [h2] at h1
  rw [h1]

theorem box_cells {W W' : World} {t : TypeId} {a b : Value} (h : Below (W.alloc (.cells #[a, b] t)).heap.size (W.alloc (.cells #[a, b] t)) W') :
    W'.cell? ⟨W.heap.size, 0, none⟩ = some a ∧ W'.cell? ⟨W.heap.size, 1, none⟩ = some b := by
  have hb := BoxC.new W t #[a, b]
  have c0 := hb.cell 0
  have c1 := hb.cell 1
  exact ⟨(h.cell (p := ⟨W.heap.size, 0, none⟩) (by simp)).trans c0, (h.cell (p := ⟨W.heap.size, 1, none⟩) (by simp)).trans c1⟩

theorem measI {q : Nat} {x : Int} (h : (q : Int) < x) : (x - ((q : Int) + 1)).toNat < (x - (q : Int)).toNat := by omega

theorem add_block (ad : Addr) (i : Nat) : (ad.add i).block = ad.block := by
  unfold Addr.add; split <;> rfl

theorem measK {k n : Nat} (h : k < n) : ((n : Int) - ((k : Int) + 1)).toNat < ((n : Int) - (k : Int)).toNat := by omega

set_option maxRecDepth 100000 in
set_option maxHeartbeats 400000 in
theorem uwalk (m : Nat) (hm1 : 1 ≤ m) (hm2 : m ≤ 1048576) (bo : Option Addr) (cb : Nat) (l : List (Int × Int)) (hl : l.length ≤ 9223372036854775807) (w : World) (hrow : PRow w bo l) (hblk : ∀ ad, bo = some ad → l = [] ∨ ad.block < w.heap.size)
    (hK : ∀ j, j < l.length → (l.getD j (0, 0)).2 ≤ 9223372036854775807) :
    Calls Try.prog 8 #[.int .i64 (m : Int), .slice bo l.length cb] w fun e w' => e = .returned (.bool true) ∧ Below w.heap.size w w' := by
  go_enter Try.func8, Try.ntmps8
  go_wp2_with (first
    | (go_at_call 12; refine (Factor_yes m hm1 hm2 _).mono ?_; rintro e w1 ⟨f, v, rfl, hF, hown, hB⟩; obtain ⟨ao, ca, rfl, hrowF⟩ := prow_of_owns hown; have hblkF := owns_block' hown; have HF := hid hF; clear hF hown; rw [ints_length])
    | (go_at_call 22; refine (kmodulus_yes _ (by omega) (by omega) _).mono ?_; rintro e w' ⟨rfl, hw⟩; subst w'))
  have hflen := fac_len HF.out hm2
  go_loopw [7, 29] (fun pr i wr => ∃ (k P : Nat), pr = .int .i64 (P : Int) ∧ i = .int .i64 (k : Int) ∧ k ≤ f.length ∧ P ≤ m ∧ Hid (P = pd (f.take k)) ∧ Below w1.heap.size w1 wr) (fun pr i wr => ((f.length : Int) - intOf i).toNat)
  case atStart => exact ⟨0, 1, rfl, rfl, by omega, by omega, rfl, Below.refl _ _⟩
  case round =>
    obtain ⟨k, P, rfl, rfl, hk, hPm, hP, hBr⟩ := hrel
    by_cases hgo : k < f.length
    · have hgo' : (k : Int) < (f.length : Int) := by omega
      rcases ao with _ | ad
      · exact (prow_none hrowF (by rw [ints_length]; exact hgo)).elim
      · have hrowR := prow_below hrowF hBr (fun ad' e => .inr (hblkF ad' e).2)
        obtain ⟨c1, c2⟩ := prow_at hrowR hgo
        obtain ⟨hpr, hk1⟩ := elem_facts HF.out hgo
        have hle := elem_le HF.out hm1 hgo
        have hexp := elem_exp HF.out hm2 hgo
        have hri := elem_rise HF.out hgo
        have hin := fun j => inner_le (j := j) HF.out hgo
        have hpt := pd_take hgo
        obtain ⟨x, hx⟩ : ∃ x, f.getD k (0, 0) = x := ⟨_, rfl⟩
        rw [hx] at c1 c2 hpr hk1 hle hexp hri hin hpt
        have hprB := (prB_iff x.1).2 hpr
        have hx2 := hpr.1
        have hPP : Hid (pd (f.take (k + 1)) = pd (f.take k) * x.1 ^ x.2) := hpt
        have hI : Hid (∀ j, j ≤ x.2 → pd (f.take k) * x.1 ^ j ≤ m) := hin
        clear hpr hx hpt hin
        have hK1 : decide ((x.2 : Int) < 1) = false := decide_eq_false (by omega)
        by_cases hk0 : k = 0
        · subst hk0
          rw [show ad.add (0 * 2) = ad from rfl] at c1 c2
          go_wp2_with (go_at_call 9; refine (Is_yes x.1 (by omega) (by omega) _).mono ?_; rw [hprB]; rintro e w2 ⟨rfl, hg2⟩; obtain ⟨q1, q2⟩ := box_cells hg2; have hB1 := below_trans (hBr.alloc hBr.size _) hg2)
          refine wp_region_quiet_lit (by kernel_rfl) (by kernel_rfl) ?_
          repeat (go_big_quiet_step (fail))
          refine wpQuiet_nil ?_
          intro _ hw1
          obtain ⟨nq, hw2⟩ := hw1
          subst hw2
          have hB2 := below_drewN hB1 nq
          go_wp2
          go_loop [7, 12] (fun pr kk => ∃ (q R : Nat), pr = .int .i64 (R : Int) ∧ kk = .int .i64 (q : Int) ∧ q ≤ x.2 ∧ R ≤ m ∧ Hid (R = pd (f.take 0) * x.1 ^ q)) (fun pr kk => ((x.2 : Int) - intOf kk).toNat)
          case atStart => exact ⟨0, P, rfl, rfl, by omega, hPm, by show P = _; rw [Nat.pow_zero, Nat.mul_one]; exact hP.out⟩
          case round =>
            obtain ⟨q, R, rfl, rfl, hq, hRm, hR⟩ := hrel
            by_cases hqg : q < x.2
            · have hqg' : (q : Int) < (x.2 : Int) := by omega
              have hRm' : (R : Int) ≤ (m : Int) := by omega
              have hb1 : R * x.1 ≤ m := by
                have := hI.out (q + 1) (by omega)
                rw [Nat.pow_succ, ← Nat.mul_assoc, ← hR.out] at this
                exact this
              have hb2 : (R : Int) * (x.1 : Int) ≤ 1048576 := by have h := Int.ofNat_le.2 hb1; rw [Int.natCast_mul] at h; omega
              have hb3 : 0 ≤ (R : Int) * (x.1 : Int) := by exact_mod_cast Nat.zero_le (R * x.1)
              have hR2 : Hid (R * x.1 = pd (f.take 0) * x.1 ^ (q + 1)) := by
                show R * x.1 = _
                rw [Nat.pow_succ, ← Nat.mul_assoc, ← hR.out]
              go_wp2
              go_round
              case rel => exact ⟨q + 1, R * x.1, by simp, by simp, by omega, hb1, hR2⟩
              case measure => exact measK hqg
            · have hqg' : ¬ (q : Int) < (x.2 : Int) := by omega
              have hqe : q = x.2 := by omega
              have hR2 : Hid (R = pd (f.take (0 + 1))) := by
                show R = _
                rw [hPP.out, ← hqe]; exact hR.out
              go_wp2
              go_roundw
              case rel => exact ⟨0 + 1, R, rfl, by simp, by omega, hRm, hR2, hB2⟩
              case measure => exact measK hgo
        · obtain ⟨j, rfl⟩ : ∃ j, k = j + 1 := ⟨k - 1, by omega⟩
          have hri2 := hri (by omega)
          rw [Nat.add_sub_cancel] at hri2
          have hj : j < f.length := by omega
          obtain ⟨p1, _⟩ := prow_at hrowR hj
          obtain ⟨y, hy⟩ : ∃ y, f.getD j (0, 0) = y := ⟨_, rfl⟩
          rw [hy] at p1 hri2
          have hge : decide ((x.1 : Int) ≤ (y.1 : Int)) = false := decide_eq_false (by omega)
          have hblk2 := (hblkF ad rfl).2
          clear hy hri
          go_wp2_with (go_at_call 9; refine (Is_yes x.1 (by omega) (by omega) _).mono ?_; rw [hprB]; rintro e w2 ⟨rfl, hg2⟩; obtain ⟨q1, q2⟩ := box_cells hg2; have hB1 := below_trans (hBr.alloc hBr.size _) hg2; have p1' := ((below_trans ((Below.refl _ wr).alloc (Nat.le_refl _) _) hg2).cell (p := ad.add (j * 2)) (by rw [add_block]; have := hBr.size; omega)).trans p1)
          refine wp_region_quiet_lit (by kernel_rfl) (by kernel_rfl) ?_
          repeat (go_big_quiet_step (fail))
          refine wpQuiet_nil ?_
          intro _ hw1
          obtain ⟨nq, hw2⟩ := hw1
          subst hw2
          have hB2 := below_drewN hB1 nq
          go_wp2
          go_loop [7, 12] (fun pr kk => ∃ (q R : Nat), pr = .int .i64 (R : Int) ∧ kk = .int .i64 (q : Int) ∧ q ≤ x.2 ∧ R ≤ m ∧ Hid (R = pd (f.take (j + 1)) * x.1 ^ q)) (fun pr kk => ((x.2 : Int) - intOf kk).toNat)
          case atStart => exact ⟨0, P, rfl, rfl, by omega, hPm, by show P = _; rw [Nat.pow_zero, Nat.mul_one]; exact hP.out⟩
          case round =>
            obtain ⟨q, R, rfl, rfl, hq, hRm, hR⟩ := hrel
            by_cases hqg : q < x.2
            · have hqg' : (q : Int) < (x.2 : Int) := by omega
              have hRm' : (R : Int) ≤ (m : Int) := by omega
              have hb1 : R * x.1 ≤ m := by
                have := hI.out (q + 1) (by omega)
                rw [Nat.pow_succ, ← Nat.mul_assoc, ← hR.out] at this
                exact this
              have hb2 : (R : Int) * (x.1 : Int) ≤ 1048576 := by have h := Int.ofNat_le.2 hb1; rw [Int.natCast_mul] at h; omega
              have hb3 : 0 ≤ (R : Int) * (x.1 : Int) := by exact_mod_cast Nat.zero_le (R * x.1)
              have hR2 : Hid (R * x.1 = pd (f.take (j + 1)) * x.1 ^ (q + 1)) := by
                show R * x.1 = _
                rw [Nat.pow_succ, ← Nat.mul_assoc, ← hR.out]
              go_wp2
              go_round
              case rel => exact ⟨q + 1, R * x.1, by simp, by simp, by omega, hb1, hR2⟩
              case measure => exact measK hqg
            · have hqg' : ¬ (q : Int) < (x.2 : Int) := by omega
              have hqe : q = x.2 := by omega
              have hR2 : Hid (R = pd (f.take (j + 1 + 1))) := by
                show R = _
                rw [hPP.out, ← hqe]; exact hR.out
              go_wp2
              go_roundw
              case rel => exact ⟨j + 1 + 1, R, rfl, by simp, by omega, hRm, hR2, hB2⟩
              case measure => exact measK hgo
    · have hgo' : ¬ (k : Int) < (f.length : Int) := by omega
      have hPe : m = P := by
        have h1 := hP.out
        rw [show k = f.length by omega, List.take_length, HF.out.2.2] at h1
        exact h1.symm
      subst hPe
      obtain ⟨wA, rfl⟩ : ∃ wA, wA = wr := ⟨_, rfl⟩
      have hrow2 := prow_below hrow (below_trans hB hBr) hblk
      have hblk2 : ∀ ad, bo = some ad → l = [] ∨ ad.block < wA.heap.size := fun ad e => (hblk ad e).imp id (fun h => by have := (below_trans hB hBr).size; omega)
      have hrowF2 := prow_below hrowF hBr (fun ad' e => .inr (hblkF ad' e).2)
      have hblkF2 : ∀ ad, ao = some ad → ad.block < wA.heap.size := fun ad e => by have := (hblkF ad e).2; have := hBr.size; omega
      clear hP hPm
      go_wp2
      go_loopw [13, 91] (fun o i ws => ∃ (k2 O : Nat) (pre : List (Nat × Nat)), o = .int .i64 (O : Int) ∧ i = .int .i64 (k2 : Int) ∧ k2 ≤ l.length ∧ 1 ≤ O ∧ O ≤ 1099511627776 ∧ Hid (ints pre = l.take k2) ∧ Hid (Rising pre) ∧ Hid (O = pd pre ∨ m < O) ∧ Below wA.heap.size wA ws) (fun o i ws => ((l.length : Int) - intOf i).toNat)
      case atStart => exact ⟨0, 1, [], rfl, rfl, by omega, by omega, by omega, rfl, good_nil, Or.inl rfl, Below.refl _ _⟩
      case round =>
        obtain ⟨k2, O, pre, rfl, rfl, hk2, hO1, hO2, hpre, hgood, hprod, hBs⟩ := hrel
        by_cases hg2 : k2 < l.length
        · have hg2' : (k2 : Int) < (l.length : Int) := by omega
          rcases bo with _ | bd
          · exact (prow_none hrow hg2).elim
          · have hrowS := prow_below hrow2 hBs hblk2
            obtain ⟨d1, d2⟩ := prow_at' hrowS hg2
            have hKx := hK k2 hg2
            obtain ⟨x1, x2, hx⟩ : ∃ x1 x2, l.getD k2 (0, 0) = (x1, x2) := ⟨_, _, rfl⟩
            rw [hx] at d1 d2 hKx
            dsimp only at d1 d2 hKx
            have hHX : Hid (l.getD k2 (0, 0) = (x1, x2)) := hx
            clear hx
            by_cases e1 : x1 < 2
            · have g1 : decide (x1 < 2) = true := decide_eq_true e1
              clear e1
              go_wp2
              refine wp_region_quiet_lit (by kernel_rfl) (by kernel_rfl) ?_
              repeat (go_big_quiet_step (fail))
              refine wpQuiet_nil ?_
              intro _ hw1
              obtain ⟨nq, hw2⟩ := hw1
              subst hw2
              go_wp2
              go_ret
              exact ⟨rfl, below_trans (below_trans hB hBr) (below_drewN (hBs.alloc hBs.size _) _)⟩
            · have g1 : decide (x1 < 2) = false := decide_eq_false e1
              by_cases e2 : (m : Int) < x1
              · have g2 : decide ((m : Int) < x1) = true := decide_eq_true e2
                go_wp2
                refine wp_region_quiet_lit (by kernel_rfl) (by kernel_rfl) ?_
                repeat (go_big_quiet_step (fail))
                refine wpQuiet_nil ?_
                intro _ hw1
                obtain ⟨nq, hw2⟩ := hw1
                subst hw2
                go_wp2
                go_ret
                exact ⟨rfl, below_trans (below_trans hB hBr) (below_drewN (hBs.alloc hBs.size _) _)⟩
              · have g2 : decide ((m : Int) < x1) = false := decide_eq_false e2
                obtain ⟨p, rfl⟩ : ∃ p : Nat, x1 = (p : Int) := ⟨x1.toNat, by omega⟩
                have hp2 : 2 ≤ p := by omega
                have hpm : p ≤ m := by omega
                have g3 : decide (m < p) = false := decide_eq_false (by omega)
                have cI := fun w => refIs_any p (by omega) w
                cases hpB : prB p with
                | false =>
                  rw [hpB] at cI
                  go_wp2
                  refine wp_region_quiet_lit (by kernel_rfl) (by kernel_rfl) ?_
                  repeat (go_big_quiet_step ((go_at_call 11; exact Calls.quiet_of_same (cI _))))
                  refine wpQuiet_nil ?_
                  intro _ hw1
                  obtain ⟨nq, hw2⟩ := hw1
                  subst hw2
                  go_wp2
                  go_ret
                  exact ⟨rfl, below_trans (below_trans hB hBr) (below_drewN (hBs.alloc hBs.size _) _)⟩
                | true =>
                  rw [hpB] at cI
                  have hpr : Hid (Pr p) := (prB_iff p).1 hpB
                  by_cases e4 : x2 < 1
                  · have g4 : decide (x2 < 1) = true := decide_eq_true e4
                    go_wp2
                    refine wp_region_quiet_lit (by kernel_rfl) (by kernel_rfl) ?_
                    repeat (go_big_quiet_step ((go_at_call 11; exact Calls.quiet_of_same (cI _))))
                    refine wpQuiet_nil ?_
                    intro _ hw1
                    obtain ⟨nq, hw2⟩ := hw1
                    subst hw2
                    go_wp2
                    go_ret
                    exact ⟨rfl, below_trans (below_trans hB hBr) (below_drewN (hBs.alloc hBs.size _) _)⟩
                  · have g4 : decide (x2 < 1) = false := decide_eq_false e4
                    have hpre2 : Hid (ints (pre ++ [(p, x2.toNat)]) = l.take (k2 + 1)) := ints_snoc hpre.out hHX.out (by omega) hg2
                    by_cases hk0 : k2 = 0
                    · subst hk0
                      rw [show bd.add (0 * 2) = bd from rfl] at d1 d2
                      have hgood2 : Hid (Rising (pre ++ [(p, x2.toNat)])) := good_snoc hgood.out hpr.out (by omega) (fun h => by have := ints_len hpre.out hk2; omega)
                      go_wp2
                      refine wp_region_quiet_lit (by kernel_rfl) (by kernel_rfl) ?_
                      repeat (go_big_quiet_step ((go_at_call 11; exact Calls.quiet_of_same (cI _))))
                      refine wpQuiet_nil ?_
                      intro _ hw1
                      obtain ⟨nq, hw2⟩ := hw1
                      subst hw2
                      go_wp2
                      go_loop [13, 16] (fun o kk => ∃ (q R : Nat), o = .int .i64 (R : Int) ∧ kk = .int .i64 (q : Int) ∧ (q : Int) ≤ x2 ∧ 1 ≤ R ∧ R ≤ 1099511627776 ∧ Hid (R = pd pre * p ^ q ∨ m < R)) (fun o kk => (x2 - intOf kk).toNat)
                      case atStart => exact ⟨0, O, rfl, rfl, by omega, hO1, hO2, by show O = _ ∨ _; rw [Nat.pow_zero, Nat.mul_one]; exact hprod.out⟩
                      case round =>
                        obtain ⟨q, R, rfl, rfl, hq, hR1, hR2, hR⟩ := hrel
                        by_cases hqg : (q : Int) < x2
                        · by_cases hRm : R ≤ m
                          · have hRm' : (R : Int) ≤ (m : Int) := by omega
                            have hRe : R = pd pre * p ^ q := hR.out.resolve_right (by omega)
                            have hb1 : R * p ≤ 1048576 * 1048576 := Nat.mul_le_mul (by omega) (by omega)
                            have hb0 : 1 ≤ R * p := Nat.mul_le_mul hR1 (show 1 ≤ p by omega)
                            have hb2 : (R : Int) * (p : Int) ≤ 1099511627776 := by have h := Int.ofNat_le.2 hb1; rw [Int.natCast_mul] at h; omega
                            have hb3 : 0 ≤ (R : Int) * (p : Int) := by exact_mod_cast Nat.zero_le (R * p)
                            have hRn : Hid (R * p = pd pre * p ^ (q + 1) ∨ m < R * p) := Or.inl (by rw [Nat.pow_succ, ← Nat.mul_assoc, ← hRe])
                            clear hRe
                            go_wp2
                            go_round
                            case rel => exact ⟨q + 1, R * p, by simp, by simp, by omega, hb0, by omega, hRn⟩
                            case measure => exact measI hqg
                          · have hRm' : ¬ (R : Int) ≤ (m : Int) := by omega
                            have hfin : Hid (R = pd (pre ++ [(p, x2.toNat)]) ∨ m < R) := Or.inr (by omega)
                            go_wp2
                            go_roundw
                            case rel => exact ⟨0 + 1, R, pre ++ [(p, x2.toNat)], rfl, by simp, by omega, hR1, hR2, hpre2, hgood2, hfin, below_drewN (hBs.alloc hBs.size _) _⟩
                            case measure => exact measK hg2
                        · have hqe : (q : Int) = x2 := by omega
                          have hfin : Hid (R = pd (pre ++ [(p, x2.toNat)]) ∨ m < R) := by
                            show _ ∨ _
                            rw [pd_snoc, ← hqe, Int.toNat_natCast]; exact hR.out
                          go_wp2
                          go_roundw
                          case rel => exact ⟨0 + 1, R, pre ++ [(p, x2.toNat)], rfl, by simp, by omega, hR1, hR2, hpre2, hgood2, hfin, below_drewN (hBs.alloc hBs.size _) _⟩
                          case measure => exact measK hg2
                    · obtain ⟨j, rfl⟩ : ∃ j, k2 = j + 1 := ⟨k2 - 1, by omega⟩
                      obtain ⟨d3, _⟩ := prow_at' hrowS (show j < l.length by omega)
                      have hyl := ints_first hpre.out (show j < j + 1 by omega) hk2
                      obtain ⟨y, hy⟩ : ∃ y, (l.getD j (0, 0)).1 = y := ⟨_, rfl⟩
                      rw [hy] at d3 hyl
                      have hbd : bd.block < wr.heap.size := by
                        rcases hblk2 bd rfl with e | e
                        · subst e; simp at hg2
                        · have := hBs.size; omega
                      have d3' := (((Below.refl _ wr).alloc (Nat.le_refl _) (.cells #[.int .i64 (p : Int), .int .i64 x2] 44)).cell (p := bd.add (j * 2)) (by rw [add_block]; exact hbd)).trans d3
                      by_cases e6 : (p : Int) ≤ y
                      · have g6 : decide ((p : Int) ≤ y) = true := decide_eq_true e6
                        clear hy hyl
                        go_wp2
                        refine wp_region_quiet_lit (by kernel_rfl) (by kernel_rfl) ?_
                        repeat (go_big_quiet_step ((go_at_call 11; exact Calls.quiet_of_same (cI _))))
                        refine wpQuiet_nil ?_
                        intro _ hw1
                        obtain ⟨nq, hw2⟩ := hw1
                        subst hw2
                        go_wp2
                        go_ret
                        exact ⟨rfl, below_trans (below_trans hB hBr) (below_drewN (hBs.alloc hBs.size _) _)⟩
                      · have g6 : decide ((p : Int) ≤ y) = false := decide_eq_false e6
                        have hgood2 : Hid (Rising (pre ++ [(p, x2.toNat)])) := good_snoc hgood.out hpr.out (by omega) (fun h => by
                          have h1 := ints_len hpre.out hk2
                          rw [h1, Nat.add_sub_cancel]; omega)
                        clear hy hyl
                        go_wp2
                        refine wp_region_quiet_lit (by kernel_rfl) (by kernel_rfl) ?_
                        repeat (go_big_quiet_step ((go_at_call 11; exact Calls.quiet_of_same (cI _))))
                        refine wpQuiet_nil ?_
                        intro _ hw1
                        obtain ⟨nq, hw2⟩ := hw1
                        subst hw2
                        go_wp2
                        go_loop [13, 16] (fun o kk => ∃ (q R : Nat), o = .int .i64 (R : Int) ∧ kk = .int .i64 (q : Int) ∧ (q : Int) ≤ x2 ∧ 1 ≤ R ∧ R ≤ 1099511627776 ∧ Hid (R = pd pre * p ^ q ∨ m < R)) (fun o kk => (x2 - intOf kk).toNat)
                        case atStart => exact ⟨0, O, rfl, rfl, by omega, hO1, hO2, by show O = _ ∨ _; rw [Nat.pow_zero, Nat.mul_one]; exact hprod.out⟩
                        case round =>
                          obtain ⟨q, R, rfl, rfl, hq, hR1, hR2, hR⟩ := hrel
                          by_cases hqg : (q : Int) < x2
                          · by_cases hRm : R ≤ m
                            · have hRm' : (R : Int) ≤ (m : Int) := by omega
                              have hRe : R = pd pre * p ^ q := hR.out.resolve_right (by omega)
                              have hb1 : R * p ≤ 1048576 * 1048576 := Nat.mul_le_mul (by omega) (by omega)
                              have hb0 : 1 ≤ R * p := Nat.mul_le_mul hR1 (show 1 ≤ p by omega)
                              have hb2 : (R : Int) * (p : Int) ≤ 1099511627776 := by have h := Int.ofNat_le.2 hb1; rw [Int.natCast_mul] at h; omega
                              have hb3 : 0 ≤ (R : Int) * (p : Int) := by exact_mod_cast Nat.zero_le (R * p)
                              have hRn : Hid (R * p = pd pre * p ^ (q + 1) ∨ m < R * p) := Or.inl (by rw [Nat.pow_succ, ← Nat.mul_assoc, ← hRe])
                              clear hRe
                              go_wp2
                              go_round
                              case rel => exact ⟨q + 1, R * p, by simp, by simp, by omega, hb0, by omega, hRn⟩
                              case measure => exact measI hqg
                            · have hRm' : ¬ (R : Int) ≤ (m : Int) := by omega
                              have hfin : Hid (R = pd (pre ++ [(p, x2.toNat)]) ∨ m < R) := Or.inr (by omega)
                              go_wp2
                              go_roundw
                              case rel => exact ⟨j + 1 + 1, R, pre ++ [(p, x2.toNat)], rfl, by simp, by omega, hR1, hR2, hpre2, hgood2, hfin, below_drewN (hBs.alloc hBs.size _) _⟩
                              case measure => exact measK hg2
                          · have hqe : (q : Int) = x2 := by omega
                            have hfin : Hid (R = pd (pre ++ [(p, x2.toNat)]) ∨ m < R) := by
                              show _ ∨ _
                              rw [pd_snoc, ← hqe, Int.toNat_natCast]; exact hR.out
                            go_wp2
                            go_roundw
                            case rel => exact ⟨j + 1 + 1, R, pre ++ [(p, x2.toNat)], rfl, by simp, by omega, hR1, hR2, hpre2, hgood2, hfin, below_drewN (hBs.alloc hBs.size _) _⟩
                            case measure => exact measK hg2
        · have hg2' : ¬ (k2 : Int) < (l.length : Int) := by omega
          have hpl : ints pre = l := by
            have h1 := hpre.out
            rw [show k2 = l.length by omega, List.take_length] at h1
            exact h1
          have hrowS := prow_below hrow2 hBs hblk2
          have hrowFS := prow_below hrowF2 hBs (fun ad' e => .inr (hblkF2 ad' e))
          by_cases hO : O = m
          · subst hO
            have hOF : Fac O pre := ⟨hgood.out.1, hgood.out.2, (hprod.out.resolve_right (by omega)).symm⟩
            have hlf : l = ints f := by rw [← hpl, hOF.unique HF.out]
            have cP := fun w h1 h2 => Powers_any bo ao cb ca l (ints f) hl (fac_ints HF.out hm2) w h1 h2
            rw [ints_length, decide_eq_true hlf] at cP
            have HC := hid (cP _ hrowS hrowFS)
            clear hpl hOF hlf cP
            go_wp2_with (go_at_call 13; refine HC.out.mono ?_; rintro e w9 ⟨rfl, kq, rfl⟩)
            go_ret
            exact ⟨rfl, below_trans (below_trans hB hBr) (below_drewN hBs _)⟩
          · have hO' : ((O : Int) != (m : Int)) = true := by
              have : ¬ (O : Int) = (m : Int) := by omega
              simp [this]
            have hO2' : ¬ (O : Int) = (m : Int) := by omega
            clear hpl
            go_wp2
            go_ret
            exact ⟨rfl, below_trans (below_trans hB hBr) hBs⟩

end Go.Proofs.Ytlbmhhkhemhfaaa.Calls14
