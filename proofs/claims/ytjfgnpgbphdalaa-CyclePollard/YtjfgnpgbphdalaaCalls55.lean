/-
  What the document's own numbers are: walks, rounds and what two have in common.
-/
import Derived.Test.YtjfgnpgbphdalaaCalls54
import Derived.Test.YtjfgnpgbphdalaaCalls11
import Derived.OwnWalk
import Derived.Laws.OwnMore
namespace Go.Proofs.Ytjfgnpgbphdalaa.Calls55
set_option linter.unusedVariables false
open Go.ChangeShapes Go.WideShapes Go.ChangeAt Go.RowKit Go.Proofs.Ytjfgnpgbphdalaa.Num Go.Proofs.Ytjfgnpgbphdalaa.Num13 Go.Proofs.Ytjfgnpgbphdalaa.Num18 Go.Proofs.Ytjfgnpgbphdalaa.Num33 Go.Proofs.Ytjfgnpgbphdalaa.Calls8 Go.Proofs.Ytjfgnpgbphdalaa.Calls9 Go.Proofs.Ytjfgnpgbphdalaa.Calls11 Go.Proofs.Ytjfgnpgbphdalaa.Calls19 Go.Proofs.Ytjfgnpgbphdalaa.Calls20 Go.Proofs.Ytjfgnpgbphdalaa.Calls54
open Go.Proofs.Ytjfgnpgbphdalaa.Math (gg gg_abs)
open Go.Proofs.Ytjfgnpgbphdalaa.Calls4 (refGcd_any)

theorem quiet_at {P : Program} {f : FuncId} {args : Array Value} {w : World} {d n : Nat} {v : Value} (h : Calls P f args (w.drewN (d + n)) fun e w' => e = .returned v ∧ w' = w.drewN (d + n)) :
    Calls P f args (w.drewN (d + n)) fun e w'' => e = .returned v ∧ ∃ m, w'' = w.drewN (d + m) := h.mono fun _ _ ⟨he, hm⟩ => ⟨he, n, hm⟩

theorem both_two (a b : Int) (w : World) :
    Calls Try.prog 9 #[.int .i64 a, .int .i64 b] w fun e w' => e = .returned (.int .i64 (if Nr a ∧ Nr b then 0 else 2)) ∧ w' = w := by
  by_cases h : Nr a ∧ Nr b
  · rw [if_pos h]
    obtain ⟨⟨h1, h2⟩, h3, h4⟩ := h
    go_enter Try.func9, Try.ntmps9
    go_wp2_with (go_at_call 22; refine (Far_no _ _ (by omega) (by omega)).mono ?_; rintro e w' ⟨rfl, hw⟩; subst w')
    go_ret
    exact ⟨rfl, rfl⟩
  · rw [if_neg h]
    by_cases ha : Nr a
    · have cA := fun w => Far_no a w ha.1 ha.2
      have cB := fun w => Far_yes b w (far_of (fun hb => h ⟨ha, hb⟩))
      clear h ha
      go_enter Try.func9, Try.ntmps9
      go_wp2_with (first | (go_at_call 22; refine (cA _).mono ?_; rintro e w' ⟨rfl, hw⟩; subst w'; clear cA) | (go_at_call 22; refine (cB _).mono ?_; rintro e w' ⟨rfl, hw⟩; subst w'))
      go_ret
      exact ⟨rfl, rfl⟩
    · have cA := fun w => Far_yes a w (far_of ha)
      clear h ha
      go_enter Try.func9, Try.ntmps9
      go_wp2_with (go_at_call 22; refine (cA _).mono ?_; rintro e w' ⟨rfl, hw⟩; subst w')
      go_ret
      exact ⟨rfl, rfl⟩

set_option maxRecDepth 100000 in
theorem Walk_any (c x : Int) (n k : Nat) (hn1 : 1 ≤ n) (hn : n ≤ 1048576) (hk : k ≤ 1048576) (w : World) :
    Calls Try.prog 16 #[.int .i64 c, .int .i64 (n : Int), .int .i64 x, .int .i64 (k : Int)] w fun e w' => e = .returned (.int .i64 ((wk (rs c n) n (rs x n) k : Nat) : Int)) ∧ ∃ d, w' = w.drewN d := by
  have cC := fun w => refMod_at c n w hn1 hn
  have cX := fun w => refMod_at x n w hn1 hn
  have lc := rs_lt c hn1
  have lx := rs_lt x hn1
  have hn0 : ¬ (n : Int) = 0 := by omega
  generalize rs c n = c' at *
  generalize rs x n = x' at *
  go_enter Try.func16, Try.ntmps16
  go_wp2_with (go_at_call 23; refine (cX _).mono ?_; rintro e w' ⟨rfl, hw⟩; subst w')
  go_loopw [2, 9] (fun u i wr => ∃ j a : Nat, u = .int .i64 (a : Int) ∧ i = .int .i64 (j : Int) ∧ j ≤ k ∧ a < n ∧ Hid (a = wk c' n x' j) ∧ ∃ d, wr = w.drewN d) (fun u i wr => k - (intOf i).toNat)
  case atStart => exact ⟨0, x', rfl, rfl, by omega, lx, rfl, 0, rfl⟩
  case round =>
    obtain ⟨j, a, rfl, rfl, hjk, ha, hA, d, hd⟩ := hrel
    subst hd
    by_cases hlt : j < k
    · have hlt' : (j : Int) < (k : Int) := by omega
      obtain ⟨b1, b2⟩ := mul_bd ha ha hn
      have l1 := nx_lt c' a hn1
      have hE := hid (nx_two_cast c' n a)
      have hm1 : 0 ≤ (a : Int) * (a : Int) % (n : Int) := Int.emod_nonneg _ hn0
      have hm2 : (a : Int) * (a : Int) % (n : Int) < (n : Int) := Int.emod_lt_of_pos _ (by omega)
      go_wp2
      go_quiet ((go_at_call 23; exact quiet_at (cC _)))
      go_wp2
      go_roundw
      case rel => exact ⟨j + 1, nx c' n a, by rw [hE.out], by simp, by omega, l1, by show _ = _; rw [hA.out]; rfl, _, rfl⟩
      case measure => simp [intOf]; omega
    · have hlt' : ¬ (j : Int) < (k : Int) := by omega
      obtain rfl : j = k := by omega
      go_wp2
      go_ret
      exact ⟨ret_int (by rw [hA.out]), d, rfl⟩

theorem rs_small {a n : Nat} (h : a < n) : rs (a : Int) n = a := by rw [rs_nat, Nat.mod_eq_of_lt h]

theorem Walk_b (c x : Int) (n k : Nat) (hn1 : 1 ≤ n) (hn : n ≤ 1048576) (hk : k ≤ 1048576) (w : World) :
    Calls Try.prog 16 #[.int .i64 c, .int .i64 (n : Int), .int .i64 x, .int .i64 (k : Int)] w fun e w' => e = .returned (.int .i64 ((wk (rs c n) n (rs x n) k : Nat) : Int)) ∧ Below w.heap.size w w' :=
  (Walk_any c x n k hn1 hn hk w).mono fun e w' ⟨h1, d, h2⟩ => ⟨h1, by subst h2; exact below_drewN (Below.refl _ _) _⟩

/-- From a number that is below n: one step. -/
theorem Walk_one (c : Int) (n a : Nat) (hn1 : 1 ≤ n) (hn : n ≤ 1048576) (ha : a < n) (w : World) :
    Calls Try.prog 16 #[.int .i64 c, .int .i64 (n : Int), .int .i64 (a : Int), .int .i64 1] w fun e w' => e = .returned (.int .i64 ((nx (rs c n) n a : Nat) : Int)) ∧ Below w.heap.size w w' := by
  have h := Walk_b c (a : Int) n 1 hn1 hn (by omega) w
  rw [rs_small ha] at h
  exact h

theorem Walk_two (c : Int) (n a : Nat) (hn1 : 1 ≤ n) (hn : n ≤ 1048576) (ha : a < n) (w : World) :
    Calls Try.prog 16 #[.int .i64 c, .int .i64 (n : Int), .int .i64 (a : Int), .int .i64 2] w fun e w' => e = .returned (.int .i64 ((nx (rs c n) n (nx (rs c n) n a) : Nat) : Int)) ∧ Below w.heap.size w w' := by
  have h := Walk_b c (a : Int) n 2 hn1 hn (by omega) w
  rw [rs_small ha] at h
  exact h

/-- A row of n numbers. -/
def vs (n : Nat) (v : Nat → Nat) : List Value := (List.range n).map (fun y => Value.int .i64 (v y : Int))

theorem vs_get {n y : Nat} (v : Nat → Nat) (h : y < n) : (vs n v)[y]? = some (.int .i64 (v y : Int)) := by simp [vs, h]

theorem vs_set (n y q : Nat) (v : Nat → Nat) : (vs n v).set y (.int .i64 (q : Int)) = vs n (fun z => if z = y then q else v z) := by
  apply List.ext_getElem?
  intro j
  rw [List.getElem?_set]
  by_cases hj : j < n
  · rw [vs_get _ hj, vs_get _ hj]
    by_cases e : y = j
    · subst e; simp [vs, hj]
    · rw [if_neg e, if_neg (fun e' => e e'.symm)]
  · have h1 : ∀ v, (vs n v)[j]? = none := fun v => by simp [vs]; omega
    rw [h1, h1]
    by_cases e : y = j
    · subst e; simp [vs, hj]
    · rw [if_neg e]

theorem vs_zero (n : Nat) : (madeCells (Value.int .i64 0).cells (n * 1)).toList = vs n (fun _ => 0) := by
  simp [madeCells, vs, Value.cells, Nat.mod_one]

theorem infoI : (Try.prog.info? 2).map (fun i => (i.zero, i.size, i.bytes)) = some (some (.int .i64 0), 1, 8) := by kernel_rfl

theorem info_ex : ∃ i, Try.prog.info? 2 = some i ∧ i.zero = some (.int .i64 0) ∧ i.size = 1 ∧ i.bytes = 8 := by
  have h := infoI
  cases e : Try.prog.info? 2 with
  | none => rw [e] at h; simp at h
  | some i => rw [e] at h; simp at h; exact ⟨i, rfl, h.1, h.2.1, h.2.2⟩

set_option maxRecDepth 100000 in
theorem refCycle_any (c x : Int) (n t s : Nat) (hn1 : 1 ≤ n) (hn : n ≤ 1048576) (hR : Rho (nx (rs c n) n) (rs x n) t s) (hts : t + s ≤ n) (w : World) :
    Calls Try.prog 11 #[.int .i64 c, .int .i64 (n : Int), .int .i64 x] w fun e w' => e = .returned (.tuple #[.int .i64 (t : Int), .int .i64 (s : Int)]) ∧ Below w.heap.size w w' := by
  have cX := fun w => refMod_at x n w hn1 hn
  have cW := fun a (ha : a < n) w => Walk_one c n a hn1 hn ha w
  have lx := rs_lt x hn1
  obtain ⟨i2, hi1, hi2, hi3, hi4⟩ := info_ex
  have HR := hid hR
  have hs1 := hR.pos
  clear hR
  generalize rs c n = c' at *
  generalize rs x n = x' at *
  go_enter Try.func11, Try.ntmps11
  go_wp2_with (first
    | (at_make; refine wpList_make_full _ rfl _ _ 40 rfl w.heap.size 2 i2 (.int .i64 0) 1 Try.underlying40 hi1 hi2 hi3 .i64 .i64 (n : Int) (n : Int) n rfl rfl rfl rfl (by rw [hi4]; omega) (by unfold maxLen; omega) (Nat.le_refl _) ?_; intro w1 hown1 hgrow1)
    | (go_at_call 23; refine (cX _).mono ?_; rintro e w' ⟨rfl, hw⟩; subst w'))
  have hrow0 : Hid (w1.ownsRow w.heap.size 2 1 (.slice (some ⟨w.heap.size, 0, none⟩) n n) n (vs n (fun _ => 0))) := by
    rw [← vs_zero n]; exact hown1
  have hB1 : Below w.heap.size w w1 := (Below.refl _ w).grown hgrow1 (Nat.le_refl _) (fun j e => by cases e)
  clear hown1 hgrow1 cX hi1 hi2 hi3 hi4
  go_loopw [2, 9] (fun u i wr => ∃ (k a : Nat) (v : Nat → Nat), u = .int .i64 (a : Int) ∧ i = .int .i64 ((k : Int) + 1) ∧ k ≤ t + s ∧ a < n ∧ Hid (a = wk c' n x' k) ∧ Hid (Wn c' n x' k v) ∧ Hid (wr.ownsRow w.heap.size 2 1 (.slice (some ⟨w.heap.size, 0, none⟩) n n) n (vs n v)) ∧ Below w.heap.size w wr) (fun u i wr => t + s + 1 - (intOf i).toNat)
  case atStart => exact ⟨0, x', _, rfl, rfl, by omega, lx, rfl, Wn.start _ _ _, hrow0, hB1⟩
  case round =>
    obtain ⟨k, a, v, rfl, rfl, hk, ha, hA, hV, hrow, hB⟩ := hrel
    have hcond : (k : Int) + 1 ≤ (n : Int) + 1 := by omega
    have ha' : (a : Int) < (n : Int) := by omega
    have hcell := (World.ownsRow.cellAt hrow.out a (by omega)).trans (vs_get v ha)
    by_cases hlt : k < t + s
    · obtain ⟨hv0, hN⟩ := hV.out.next HR.out hlt
      rw [← hA.out] at hv0 hN
      rw [hv0] at hcell
      have HN := hid hN
      obtain ⟨so, sg⟩ := hrow.out.stored a (.int .i64 ((k + 1 : Nat) : Int))
      rw [vs_set] at so
      rw [show ((k + 1 : Nat) : Int) = (k : Int) + 1 by omega] at so sg
      have SO := hid so
      have hBs : Hid (Below w.heap.size w (wr.setCell ⟨w.heap.size, a, none⟩ (.int .i64 ((k : Int) + 1)))) := hB.grown sg hB.size (fun j e => by cases e; exact Nat.le_refl _)
      have hfr : wr.frozen? ⟨w.heap.size, a, none⟩ = false := by
        rcases hrow.out.2 with ⟨h', _⟩ | ⟨g', cap', cur, h', hb, hg, _⟩
        · cases h'
        · have e : w.heap.size = g' := by simpa using (Value.slice.inj h').1
          subst e
          simp [World.frozen?, hg]
      have l1 := nx_lt c' a hn1
      clear hv0 hN so sg
      go_wp2_with (go_at_call 16; refine (cW _ ha _).mono ?_; rintro e w2 ⟨rfl, hB2⟩)
      go_roundw
      case rel => exact ⟨k + 1, nx c' n a, _, rfl, by simp, by omega, l1, by show _ = _; rw [hA.out]; rfl, HN.out, owns_below SO.out hB2, below_trans hBs.out hB2⟩
      case measure => simp [intOf]; omega
    · obtain rfl : k = t + s := by omega
      have hv := hV.out.done HR.out
      rw [← hA.out] at hv
      rw [hv, show ((t + 1 : Nat) : Int) = (t : Int) + 1 by omega] at hcell
      clear hv
      go_wp2
      go_quiet (fail)
      go_wp2
      go_ret2
      exact ⟨by simp; omega, below_drewN hB _⟩

set_option maxRecDepth 100000 in
theorem refSplit_any (c x : Int) (n m : Nat) (hn1 : 2 ≤ n) (hn : n ≤ 1048576) (hm : Fst (rs c n) n (rs x n) m) (hmn : m ≤ n) (w : World) :
    Calls Try.prog 13 #[.int .i64 c, .int .i64 (n : Int), .int .i64 x] w fun e w' => e = .returned (.tuple #[.int .i64 (m : Int), .int .i64 (cm (rs c n) n (rs x n) m)]) ∧ Below w.heap.size w w' := by
  have cX := fun w => refMod_at x n w (by omega) hn
  have cW := fun a (ha : a < n) w => Walk_one c n a (by omega) hn ha w
  have cV := fun a (ha : a < n) w => Walk_two c n a (by omega) hn ha w
  have lx := rs_lt x (show 1 ≤ n by omega)
  have HM := hid hm
  have hm1 := hm.pos
  clear hm
  generalize rs c n = c' at *
  generalize rs x n = x' at *
  go_enter Try.func13, Try.ntmps13
  go_wp2_with (go_at_call 23; refine (cX _).mono ?_; rintro e w' ⟨rfl, hw⟩; subst w')
  clear cX
  go_loopw [8, 9, 10] (fun u v i wr => ∃ k a b : Nat, u = .int .i64 (a : Int) ∧ v = .int .i64 (b : Int) ∧ i = .int .i64 ((k : Int) + 1) ∧ k < m ∧ a < n ∧ b < n ∧ Hid (a = wk c' n x' k) ∧ Hid (b = wk c' n x' (2 * k)) ∧ Below w.heap.size w wr) (fun u v i wr => m - (intOf i).toNat)
  case atStart => exact ⟨0, x', x', rfl, rfl, rfl, by omega, lx, lx, rfl, rfl, Below.refl _ _⟩
  case round =>
    obtain ⟨k, a, b, rfl, rfl, rfl, hk, ha, hb, hA, hB', hB⟩ := hrel
    have hcond : (k : Int) + 1 ≤ 2 * (n : Int) := by omega
    have l1 := nx_lt c' a (show 1 ≤ n by omega)
    have l2 := nx_lt c' b (show 1 ≤ n by omega)
    have l3 := nx_lt c' (nx c' n b) (show 1 ≤ n by omega)
    have cG := fun w => refGcd_any (((nx c' n a : Nat) : Int) - ((nx c' n (nx c' n b) : Nat) : Int)) (n : Int) w (by omega) (by omega) (by omega) (by omega)
    have hg : gg (((nx c' n a : Nat) : Int) - ((nx c' n (nx c' n b) : Nat) : Int)) (n : Int) = cm c' n x' (k + 1) := by
      rw [← cm_turn, hA.out, hB'.out]; rfl
    rw [hg] at cG
    clear hg
    have hp := cm_pos (c := c') (x := x') (show 1 ≤ n by omega) (k + 1)
    by_cases hlt : k + 1 < m
    · have h1 := HM.out.least (k + 1) (by omega) hlt
      rw [h1] at cG
      clear h1 hp
      go_wp2_with (first
        | (go_at_call 16; (first | (refine (cW _ ha _).mono ?_; clear cW; rintro e w2 ⟨rfl, hB2⟩) | (refine (cV _ hb _).mono ?_; rintro e w3 ⟨rfl, hB3⟩)))
        | (go_at_call 25; refine (cG _).mono ?_; rintro e w' ⟨rfl, hw⟩; subst w'))
      go_roundw
      case rel => exact ⟨k + 1, nx c' n a, nx c' n (nx c' n b), rfl, rfl, by simp, by omega, l1, l3, by show _ = _; rw [hA.out]; rfl, by show _ = _; rw [hB'.out]; rfl, below_trans (below_trans hB hB2) hB3⟩
      case measure => simp [intOf]; omega
    · obtain rfl : m = k + 1 := by omega
      have h1 := HM.out.ne
      obtain ⟨g, hgg⟩ : ∃ g, g = cm c' n x' (k + 1) := ⟨_, rfl⟩
      rw [← hgg] at cG hp h1
      have HG := hid hgg
      have hgt : 1 < g := by omega
      clear hp h1 hgg
      go_wp2_with (first
        | (go_at_call 16; (first | (refine (cW _ ha _).mono ?_; clear cW; rintro e w2 ⟨rfl, hB2⟩) | (refine (cV _ hb _).mono ?_; rintro e w3 ⟨rfl, hB3⟩)))
        | (go_at_call 25; refine (cG _).mono ?_; rintro e w' ⟨rfl, hw⟩; subst w'))
      go_ret2
      exact ⟨by simp [HG.out], below_trans (below_trans hB hB2) hB3⟩

/-- The statements' own gate. -/
theorem gate2 (a b m : Int) : ∃ c1 c2 : Int, (∀ w, Calls Try.prog 9 #[.int .i64 a, .int .i64 b] w fun e w' => e = .returned (.int .i64 c1) ∧ w' = w) ∧ (∀ w, Calls Try.prog 10 #[.int .i64 m] w fun e w' => e = .returned (.int .i64 c2) ∧ w' = w) ∧
    (∀ w, Calls Try.prog 8 #[.int .i64 c1, .int .i64 c2] w fun e w' => e = .returned (.int .i64 (if ((Nr a ∧ Nr b) ∧ Md m) then 0 else 2)) ∧ w' = w) := by
  by_cases h1 : Nr a ∧ Nr b
  · have cB : ∀ w, Calls Try.prog 9 #[.int .i64 a, .int .i64 b] w fun e w' => e = .returned (.int .i64 0) ∧ w' = w := fun w => by
      have := both_two a b w
      rwa [if_pos h1] at this
    by_cases h2 : Md m
    · refine ⟨0, 0, cB, fun w => modulus_yes m h2.1 h2.2 w, fun w => ?_⟩
      rw [if_pos (show (Nr a ∧ Nr b) ∧ Md m from ⟨h1, h2⟩)]
      simpa using first_any 0 0 w
    · refine ⟨0, 2, cB, fun w => modulus_no m h2 w, fun w => ?_⟩
      rw [if_neg (show ¬ ((Nr a ∧ Nr b) ∧ Md m) from fun h => h2 h.2)]
      simpa using first_any 0 2 w
  · have cB : ∀ w, Calls Try.prog 9 #[.int .i64 a, .int .i64 b] w fun e w' => e = .returned (.int .i64 2) ∧ w' = w := fun w => by
      have := both_two a b w
      rwa [if_neg h1] at this
    by_cases h2 : Md m
    · refine ⟨2, 0, cB, fun w => modulus_yes m h2.1 h2.2 w, fun w => ?_⟩
      rw [if_neg (show ¬ ((Nr a ∧ Nr b) ∧ Md m) from fun h => h1 h.1)]
      simpa using first_any 2 0 w
    · refine ⟨2, 2, cB, fun w => modulus_no m h2 w, fun w => ?_⟩
      rw [if_neg (show ¬ ((Nr a ∧ Nr b) ∧ Md m) from fun h => h1 h.1)]
      simpa using first_any 2 2 w

end Go.Proofs.Ytjfgnpgbphdalaa.Calls55
