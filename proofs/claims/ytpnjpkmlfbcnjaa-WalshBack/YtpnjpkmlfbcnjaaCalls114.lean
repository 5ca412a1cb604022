/-
  The document's waves and sums of products, one by one.
-/
import Derived.Test.YtpnjpkmlfbcnjaaCalls110
import Derived.Test.YtpnjpkmlfbcnjaaNum58
namespace Go.Proofs.Ytpnjpkmlfbcnjaa.Calls114
set_option linter.unusedVariables false
open Go.ChangeShapes Go.WideShapes Go.ChangeAt Go.RowKit Go.Deep Go.Proofs.Ytpnjpkmlfbcnjaa.Base Go.Proofs.Ytpnjpkmlfbcnjaa.Base2 Go.Proofs.Ytpnjpkmlfbcnjaa.Num34 Go.Proofs.Ytpnjpkmlfbcnjaa.Base4 Go.Proofs.Ytpnjpkmlfbcnjaa.Base6 Go.Proofs.Ytpnjpkmlfbcnjaa.Num41 Go.Proofs.Ytpnjpkmlfbcnjaa.Num42 Go.Proofs.Ytpnjpkmlfbcnjaa.Num57 Go.Proofs.Ytpnjpkmlfbcnjaa.Num58 Go.Proofs.Ytpnjpkmlfbcnjaa.Calls110

theorem and_32 : ∀ u : Nat, u < 32 → ∀ x : Nat, x < 32 → bits .and .i64 (u : Int) (x : Int) = ((u &&& x : Nat) : Int) ∧ u &&& x < 32 := by decide +kernel

set_option maxRecDepth 100000 in
set_option maxHeartbeats 1000000 in
theorem refWaves_any (n N f : Nat) (hf : f < 4294967296) (hn : n ≤ 5) (hN : N = 2 ^ n) (w : World) :
    Calls Try.prog 11 #[.int .i64 (n : Int), .int .u32 (f : Int)] w fun e w' => RetL (mk N (wf n f)) e w' ∧ Below w.heap.size w w' := by
  obtain ⟨i0, hi, hz0, hz1, hz2⟩ := infoN_ex
  have hNN := pow_n hn hN
  have hP : (2 : Int) ^ n = (N : Int) := by rw [hN]; simp
  have hst := hid (fun u (hu : u < N) m => ws_step (f := f) hn (show u < 2 ^ n by rw [← hN]; exact hu) m)
  have hend := hid (fun u => ws_end n f u)
  rw [← hN] at hend
  have cB := fun x (hx : x < N) w => bit_any f x hf (by omega) w
  have cO := fun u x (hu : u < N) (hx : x < N) w => refOnes_any (u &&& x) (and_32 u (by omega) x (by omega)).2 w
  clear hN
  go_enter Try.func11, Try.ntmps11
  go_wp2
  go_loopw [5, 6] (fun v i wr => ∃ u : Nat, i = .int .i64 (u : Int) ∧ u ≤ N ∧ Hid (wr.ownsRow w.heap.size 3 1 v u (ivals (mk u (wf n f)))) ∧ Hid (Below w.heap.size w wr)) (fun v i wr => ((N : Int) - intOf i).toNat)
  case atStart => exact ⟨0, rfl, by omega, World.ownsRow_nil _ _ _ _, Below.refl _ _⟩
  case round =>
    obtain ⟨u, rfl, hu, HO, HB⟩ := hrel
    by_cases hgo : u < N
    · have hgo' : (u : Int) < (N : Int) := by omega
      have hsn : Hid (ivals (mk (u + 1) (wf n f)) = ivals (mk u (wf n f)) ++ [.int .i64 (wf n f u)]) := ivals_succ u _
      obtain ⟨W1, hW1⟩ : ∃ W1, W1 = wr := ⟨_, rfl⟩
      rw [← hW1] at HO HB ⊢
      clear hW1
      have hBs := HB.out.size
      go_wp2
      go_loopw [7, 8] (fun s i wr => ∃ x : Nat, s = .int .i64 (ws n f u x) ∧ i = .int .i64 (x : Int) ∧ x ≤ N ∧ -(x : Int) ≤ ws n f u x ∧ ws n f u x ≤ x ∧ Hid (wr = W1)) (fun s i wr => ((N : Int) - intOf i).toNat)
      case atStart => exact ⟨0, rfl, rfl, by omega, by show -(0 : Int) ≤ 0; omega, by show (0 : Int) ≤ 0; omega, rfl⟩
      case round =>
        obtain ⟨x, rfl, rfl, hx, hw1, hw2, hW⟩ := hrel
        by_cases hgx : x < N
        · have hgx' : (x : Int) < (N : Int) := by omega
          have c1 := fun w => cB x hgx w
          have c2 := fun w => cO u x hgo hgx w
          obtain ⟨ha, hal⟩ := and_32 u (by omega) x (by omega)
          obtain ⟨s1, s2⟩ := hst.out u hgo x
          have hb := bt_lt f x
          have ho := on_le 5 (u &&& x)
          have S1 := hid s1
          have S2 := hid s2
          clear s1 s2 cB cO
          generalize u &&& x = y at *
          generalize on 5 y = o at *
          generalize bt f x = b at *
          by_cases hz : (b + o) % 2 = 0
          · have e := hid (S1.out hz)
            have hz' : (((b : Int) + (o : Int)) % 2 == 0) = true := by simp; omega
            go_wp2_with (first
              | (go_at_call 20; refine (c1 _).mono ?_; rintro e w' ⟨rfl, hw⟩; subst w')
              | (go_at_call 19; refine (c2 _).mono ?_; rintro e w' ⟨rfl, hw⟩; subst w'))
            go_roundw
            case rel => exact ⟨x + 1, by rw [e.out], by simp, by omega, by rw [e.out]; omega, by rw [e.out]; omega, hW⟩
            case measure => exact measK hgx
          · have e := hid (S2.out hz)
            have hz' : (((b : Int) + (o : Int)) % 2 == 0) = false := by simp; omega
            go_wp2_with (first
              | (go_at_call 20; refine (c1 _).mono ?_; rintro e w' ⟨rfl, hw⟩; subst w')
              | (go_at_call 19; refine (c2 _).mono ?_; rintro e w' ⟨rfl, hw⟩; subst w'))
            go_roundw
            case rel => exact ⟨x + 1, by rw [e.out], by simp, by omega, by rw [e.out]; omega, by rw [e.out]; omega, hW⟩
            case measure => exact measK hgx
        · have hgx' : ¬ (x : Int) < (N : Int) := by omega
          obtain rfl : x = N := by omega
          rw [hend.out u]
          obtain ⟨W2, hW2⟩ : ∃ W2, W2 = wr := ⟨_, rfl⟩
          rw [hend.out u] at hw1 hw2
          have hwr := hW.out
          subst hwr
          clear hW2
          generalize wf n f u = z at *
          go_wp2_with (at_builtin; refine wpList_append_own _ rfl _ _ 23 rfl w.heap.size 3 i0 (.int .i64 0) 1 8 Try.underlying23 hi hz0 hz1 hz2 rfl (by decide) _ _ _ rfl (HO.out.alloc _) ⟨wr.heap.size, 0, none⟩ 1 1 [.int .i64 z] rfl rfl one_cell (by simp [Value.oneCell']) (by unfold maxLen; omega) (by omega) (by simp; omega) ?_; intro v' w3 hown' hgrow _; have HO3 := hid hown'; have HB3 := hid (below_snoc HB.out (Nat.le_refl _) HO.out hgrow); clear hown' hgrow)
          go_roundw
          case rel => exact ⟨u + 1, by simp, by omega, by show World.ownsRow _ _ _ _ _ _ _; rw [hsn.out]; exact HO3.out, HB3⟩
          case measure => exact measK hgo
    · have hgo' : ¬ (u : Int) < (N : Int) := by omega
      obtain rfl : u = N := by omega
      obtain ⟨bo, cb, hv, hlb, hr⟩ := irow_owns HO.out
      have hR := hid hr
      have hC := hid hlb
      subst hv
      clear hr hlb
      rw [mk_length]
      go_wp2
      go_ret
      exact ⟨⟨bo, cb, by rw [mk_length]; rfl, hC.out, hR.out⟩, HB.out⟩

end Go.Proofs.Ytpnjpkmlfbcnjaa.Calls114
