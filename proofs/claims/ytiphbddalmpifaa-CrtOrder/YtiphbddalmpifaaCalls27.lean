/-
  The document's own road for many rests: the limits, whether each two can be fitted, whether a number fits one.
-/
import Derived.Test.YtiphbddalmpifaaCalls26
namespace Go.Proofs.Ytiphbddalmpifaa.Calls27
set_option linter.unusedVariables false
open Go.ChangeShapes Go.WideShapes Go.ChangeAt Go.RowKit Go.Proofs.Ytiphbddalmpifaa.Base Go.Proofs.Ytiphbddalmpifaa.Num14 Go.Proofs.Ytiphbddalmpifaa.Num27 Go.Proofs.Ytiphbddalmpifaa.Calls24 Go.Proofs.Ytiphbddalmpifaa.Calls25 Go.Proofs.Ytiphbddalmpifaa.Calls26
open Go.Proofs.Ytiphbddalmpifaa.Math (gg)
open Go.Proofs.Ytiphbddalmpifaa.Calls1 (Far_yes Far_no refMod_any)
open Go.Proofs.Ytiphbddalmpifaa.Calls4 (refGcd_any)

theorem RestsCheck_large (bo : Option Addr) (cb : Nat) (l : List (Int × Int)) (hl : 8 < l.length) (w : World) :
    Calls Try.prog 7 #[.slice bo l.length cb] w fun e w' => e = .returned (.int .i64 1) ∧ Below w.heap.size w w' := by
  have hl' : 8 < (l.length : Int) := by omega
  clear hl
  go_enter Try.func7, Try.ntmps7
  go_wp2
  go_ret
  exact ⟨rfl, Below.refl _ _⟩

/-- What RestsCheck returns of no more than eight. -/
def Checked (l : List (Int × Int)) (e : Ending) : Prop := (InR l ∧ e = .returned (.int .i64 0)) ∨ (¬ InR l ∧ e = .returned (.int .i64 2))

set_option maxRecDepth 100000 in
theorem RestsCheck_any (bo : Option Addr) (cb : Nat) (l : List (Int × Int)) (hl : l.length ≤ 8) (w : World) (hrow : PRow w bo l) (hblk : Lies w bo l) :
    Calls Try.prog 7 #[.slice bo l.length cb] w fun e w' => Checked l e ∧ Below w.heap.size w w' := by
  have hl' : ¬ 8 < (l.length : Int) := by omega
  go_enter Try.func7, Try.ntmps7
  go_wp2
  go_loopw [13] (fun i wr => ∃ k : Nat, i = .int .i64 (k : Int) ∧ k ≤ l.length ∧ Hid (Firsts l k) ∧ Below w.heap.size w wr) (fun i wr => ((l.length : Int) - intOf i).toNat)
  case atStart => exact ⟨0, rfl, by omega, fun j hj => by omega, Below.refl _ _⟩
  case round =>
    obtain ⟨k, rfl, hk, hF, hBr⟩ := hrel
    by_cases hgo : k < l.length
    · have hgo' : (k : Int) < (l.length : Int) := by omega
      rcases bo with _ | ad
      · exact (prow_none hrow hgo).elim
      · obtain ⟨c1, c2⟩ := prow_at (prow_below hrow hBr hblk) hgo
        obtain ⟨x, hx⟩ : ∃ x, l.getD k (0, 0) = x := ⟨_, rfl⟩
        rw [hx] at c1 c2
        have HX := hid hx
        clear hx
        by_cases hok : OkR x
        · have hF2 := hid (hF.out.next (by rw [HX.out]; exact hok))
          obtain ⟨o1, o2, o3, o4⟩ := hok
          go_wp2_with (go_at_call 16; refine (Far_no _ _ o3 o4).mono ?_; rintro e w2 ⟨rfl, hw⟩; subst w2)
          go_roundw
          case rel => exact ⟨k + 1, by simp, by omega, hF2, hBr.trans (((Below.refl _ _).alloc (Nat.le_refl _) _).mono hBr.size)⟩
          case measure => exact measK hgo
        · have hno : Hid (¬ InR l) := fun h => hok (by rw [← HX.out]; exact h.each k hgo)
          have hB2 := fun o => hBr.trans (((Below.refl _ wr).alloc (Nat.le_refl _) o).mono hBr.size)
          by_cases o1 : 1 ≤ x.2
          · by_cases o2 : x.2 ≤ 1048576
            · have o3 : x.1 < -2147483648 ∨ 2147483648 < x.1 := by
                by_cases o3 : -2147483648 ≤ x.1
                · by_cases o4 : x.1 ≤ 2147483648
                  · exact absurd ⟨o1, o2, o3, o4⟩ hok
                  · right; omega
                · left; omega
              have HO := hid o3
              clear hok o3
              go_wp2_with (go_at_call 16; refine (Far_yes _ _ HO.out).mono ?_; rintro e w2 ⟨rfl, hw⟩; subst w2)
              go_ret
              exact ⟨.inr ⟨hno.out, rfl⟩, hB2 _⟩
            · clear hok
              go_wp2
              go_ret
              exact ⟨.inr ⟨hno.out, rfl⟩, hB2 _⟩
          · clear hok
            go_wp2
            go_ret
            exact ⟨.inr ⟨hno.out, rfl⟩, hB2 _⟩
    · have hgo' : ¬ (k : Int) < (l.length : Int) := by omega
      have e : k = l.length := by omega
      have hA : Hid (∀ j, j < l.length → OkR (l.getD j (0, 0))) := by rw [← e]; exact hF.out
      clear e
      go_wp2
      go_loopw [5, 33] (fun c i wr => ∃ k m : Nat, c = .int .i64 (m : Int) ∧ i = .int .i64 (k : Int) ∧ k ≤ l.length ∧ 1 ≤ m ∧ m ≤ 2147483648 ∧ Hid (m = lc (nats l) k) ∧ Below w.heap.size w wr) (fun c i wr => ((l.length : Int) - intOf i).toNat)
      case atStart => exact ⟨0, 1, rfl, rfl, by omega, by omega, by omega, rfl, hBr⟩
      case round =>
        obtain ⟨k2, m, rfl, rfl, hk2, hm1, hm2, hm, hBs⟩ := hrel
        clear hgo hgo' hk hF
        by_cases hgo : k2 < l.length
        · have hgo' : (k2 : Int) < (l.length : Int) := by omega
          rcases bo with _ | ad
          · exact (prow_none hrow hgo).elim
          · obtain ⟨c1, c2⟩ := prow_at (prow_below hrow hBs hblk) hgo
            obtain ⟨x, hx⟩ : ∃ x, l.getD k2 (0, 0) = x := ⟨_, rfl⟩
            have hok := hA.out k2 hgo
            rw [hx] at c1 c2 hok
            obtain ⟨n, hn⟩ : ∃ n : Nat, x.2 = (n : Int) := ⟨x.2.toNat, by have := hok.1; omega⟩
            rw [hn] at c2
            have ho1 := hok.1
            have ho2 := hok.2.1
            rw [hn] at ho1 ho2
            have hlc : lc (nats l) (k2 + 1) = Nat.lcm m n := by rw [lc_next hgo (a := x.1) (n := n) (by rw [hx, ← hn]), hm.out]
            have cL := fun w => refLcm_n m n w hm1 hm2 (by omega) (by omega)
            have HLC := hid hlc
            have hp : 1 ≤ Nat.lcm m n := Nat.lcm_pos hm1 (by omega)
            clear hok hn hlc hx
            by_cases hbig : Nat.lcm m n ≤ 2147483648
            · have hbig' : ((Nat.lcm m n : Nat) : Int) ≤ 2147483648 := by omega
              go_wp2_with (go_at_call 9; refine (cL _).mono ?_; rintro e w3 ⟨rfl, hB3⟩)
              go_roundw
              case rel => exact ⟨k2 + 1, Nat.lcm m n, rfl, by simp, by omega, hp, hbig, HLC.out.symm, hBs.trans ((below_trans ((Below.refl _ _).alloc (Nat.le_refl _) _) hB3).mono hBs.size)⟩
              case measure => exact measK hgo
            · have hbig' : ¬ ((Nat.lcm m n : Nat) : Int) ≤ 2147483648 := by omega
              have hno : Hid (¬ InR l) := fun h => hbig (by rw [← HLC.out]; exact h.lc_le (by omega))
              clear hbig
              go_wp2_with (go_at_call 9; refine (cL _).mono ?_; rintro e w3 ⟨rfl, hB3⟩)
              go_ret
              exact ⟨.inr ⟨hno.out, rfl⟩, hBs.trans ((below_trans ((Below.refl _ _).alloc (Nat.le_refl _) _) hB3).mono hBs.size)⟩
        · have hgo' : ¬ (k2 : Int) < (l.length : Int) := by omega
          have e : k2 = l.length := by omega
          have hin : Hid (InR l) := ⟨hA.out, by rw [← e, ← hm.out]; exact hm2⟩
          clear e
          go_wp2
          go_ret
          exact ⟨.inl ⟨hin.out, rfl⟩, hBs⟩

theorem RestsCheck_yes (bo : Option Addr) (cb : Nat) (l : List (Int × Int)) (hl : l.length ≤ 8) (w : World) (hrow : PRow w bo l) (hblk : Lies w bo l) (h : InR l) :
    Calls Try.prog 7 #[.slice bo l.length cb] w fun e w' => e = .returned (.int .i64 0) ∧ Below w.heap.size w w' :=
  (RestsCheck_any bo cb l hl w hrow hblk).mono fun e w' ⟨h1, h2⟩ => ⟨(h1.resolve_right (fun h3 => h3.1 h)).2, h2⟩

theorem RestsCheck_no (bo : Option Addr) (cb : Nat) (l : List (Int × Int)) (hl : l.length ≤ 8) (w : World) (hrow : PRow w bo l) (hblk : Lies w bo l) (h : ¬ InR l) :
    Calls Try.prog 7 #[.slice bo l.length cb] w fun e w' => e = .returned (.int .i64 2) ∧ Below w.heap.size w w' :=
  (RestsCheck_any bo cb l hl w hrow hblk).mono fun e w' ⟨h1, h2⟩ => ⟨(h1.resolve_left (fun h3 => h h3.1)).2, h2⟩

theorem fits_any (x a : Int) (n : Nat) (w : World) (hn1 : 1 ≤ n) (hn2 : n ≤ 2147483648) (hx1 : -2147483648 ≤ x) (hx2 : x ≤ 2147483648) (ha1 : -2147483648 ≤ a) (ha2 : a ≤ 2147483648) :
    Calls Try.prog 13 #[.int .i64 x, .agg #[.int .i64 a, .int .i64 (n : Int)]] w fun e w' => Says (Fits x (a, n)) e ∧ Below w.heap.size w w' := by
  have cM := fun w => refMod_any (x - a) (n : Int) w (by omega) (by omega)
  by_cases h : Fits x (a, n)
  · have e : ((x - a) % (n : Int) == 0) = true := by
      have : (x - a) % (n : Int) = 0 := Int.emod_eq_zero_of_dvd h
      rw [this]; rfl
    have H := hid h
    clear h
    go_enter Try.func13, Try.ntmps13
    go_wp2_with (go_at_call 10; refine (cM _).mono ?_; rintro e w2 ⟨rfl, hw⟩; subst w2)
    go_ret
    exact ⟨Says.yes H.out, (Below.refl _ _).alloc (Nat.le_refl _) _⟩
  · have e : ((x - a) % (n : Int) == 0) = false := by
      rw [beq_eq_false_iff_ne]
      exact fun h2 => h (Int.dvd_of_emod_eq_zero h2)
    have H := hid h
    clear h
    go_enter Try.func13, Try.ntmps13
    go_wp2_with (go_at_call 10; refine (cM _).mono ?_; rintro e w2 ⟨rfl, hw⟩; subst w2)
    go_ret
    exact ⟨Says.no H.out, (Below.refl _ _).alloc (Nat.le_refl _) _⟩

end Go.Proofs.Ytiphbddalmpifaa.Calls27
