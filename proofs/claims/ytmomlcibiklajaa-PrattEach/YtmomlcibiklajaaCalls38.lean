/-
  What Check of package pratt answers.
-/
import Derived.Test.YtmomlcibiklajaaCalls37
namespace Go.Proofs.Ytmomlcibiklajaa.Calls38
set_option linter.unusedVariables false
open Go.ChangeShapes Go.WideShapes Go.ChangeAt Go.RowKit Go.Deep Go.Proofs.Ytmomlcibiklajaa.Base Go.Proofs.Ytmomlcibiklajaa.Num13 Go.Proofs.Ytmomlcibiklajaa.Num31 Go.Proofs.Ytmomlcibiklajaa.Calls35 Go.Proofs.Ytmomlcibiklajaa.Calls36 Go.Proofs.Ytmomlcibiklajaa.Calls37

theorem Check_large (ao : Option Addr) (cap n : Nat) (h : 64 < n) (w : World) :
    Calls Try.prog 7 #[.slice ao n cap] w fun e w' => e = .returned (.tuple #[.bool false, .int .i64 1]) ∧ w' = w := by
  have h' : (64 : Int) < (n : Int) := by omega
  go_enter Try.func7, Try.ntmps7
  go_wp2
  go_ret2
  exact ⟨rfl, rfl⟩

/-- Whether all lines hold, as Check says it. -/
def Checked (ls : List Ln) (e : Ending) : Prop := ∃ b : Bool, (b = true ↔ AllHold ls) ∧ e = .returned (.tuple #[.bool b, .int .i64 0])

theorem take_two {ls : List Ln} {k : Nat} (h : ∀ j, j < k → Hold (ls.take j) (ls.getD j Ln0)) (hk : k ≤ ls.length) : ∀ y ∈ ls.take k, 2 ≤ y.N := fun y hy => by
  obtain ⟨j, hj, e⟩ := List.getElem_of_mem hy
  rw [List.length_take] at hj
  have h2 := (h j (by omega)).two
  rw [← e, List.getElem_take]
  simpa [List.getD, show j < ls.length by omega] using h2

set_option maxRecDepth 100000 in
set_option maxHeartbeats 1000000 in
theorem Check_any (ao : Option Addr) (cap : Nat) (ls : List Ln) (hl : ls.length ≤ 64) (hcap : ls.length ≤ cap) (w : World) (hrow : LRow w ao ls) :
    Calls Try.prog 7 #[.slice ao ls.length cap] w fun e w' => Checked ls e ∧ Below w.heap.size w w' := by
  obtain ⟨n, hn⟩ : ∃ n, n = ls.length := ⟨_, rfl⟩
  have HN : Hid (n = ls.length) := hn
  rw [← hn] at hl hcap ⊢
  clear hn
  go_enter Try.func7, Try.ntmps7
  go_wp2
  go_loopw [11] (fun i wr => ∃ k : Nat, i = .int .i64 (k : Int) ∧ k ≤ n ∧ Hid (∀ j, j < k → Hold (ls.take j) (ls.getD j Ln0)) ∧ Below w.heap.size w wr) (fun i wr => ((n : Int) - intOf i).toNat)
  case atStart => exact ⟨0, rfl, by omega, fun j hj => by omega, Below.refl _ _⟩
  case round =>
    obtain ⟨k, rfl, hk, hold, hB⟩ := hrel
    by_cases hgo : k < n
    · have hgo' : (k : Int) < (n : Int) := by omega
      have hkl : Hid (k < ls.length) := by have := HN.out; show k < ls.length; omega
      rcases ao with _ | ad
      · exact (lrow_none hrow hkl.out).elim
      · obtain ⟨c1, c2, fo, cf, c3, hrF, hFl⟩ := (lrow_below hrow hB (Nat.le_refl _)).2 ad rfl k hkl.out
        have hkc : k ≤ cap := by omega
        have hlt : (ls.take k).length = k := by rw [List.length_take]; have := HN.out; omega
        obtain ⟨x, hx⟩ : ∃ x, ls.getD k Ln0 = x := ⟨_, rfl⟩
        rw [hx] at c1 c2 c3 hrF hFl
        have HX := hid hx
        clear hx
        have hsay : ∃ b : Bool, b = true ↔ Hold (ls.take k) x := by
          rcases Classical.em (Hold (ls.take k) x) with h | h
          · exact ⟨true, fun _ => h, fun _ => rfl⟩
          · exact ⟨false, fun e => (by cases e), fun e => absurd e h⟩
        obtain ⟨b, hb⟩ := hsay
        have cH := fun W (hBW : Below wr.heap.size wr W) => holds_any x fo cf (some ad) cap (ls.take k) (by omega) (take_two hold.out (by have := HN.out; omega)) hFl W (irow_below hrF hBW (Nat.le_refl _)) (lrow_below (lrow_take (lrow_below hrow hB (Nat.le_refl _)) k) hBW (Nat.le_refl _)) b hb
        rw [hlt] at cH
        have HFL := hid hFl
        clear hlt hrF hFl
        obtain ⟨N, G, F⟩ := x
        simp only at c1 c2 c3 cH
        have HBB := hid hb
        clear hb
        have hba : ∀ o : Obj, Below wr.heap.size wr (wr.alloc o) := fun o => (Below.refl _ wr).alloc (Nat.le_refl _) o
        cases b with
        | true =>
          have hold2 : Hid (∀ j, j < k + 1 → Hold (ls.take j) (ls.getD j Ln0)) := fun j hj => by
            by_cases e : j = k
            · subst e; rw [HX.out]; exact HBB.out.1 rfl
            · exact hold.out j (by omega)
          go_wp2
          go_region_with (go_at_call 15; refine (cH _ (by first | exact hba _ | exact (hba _).drew | exact below_drewN (hba _) _)).mono ?_; rintro e w2 ⟨rfl, hB2⟩)
          all_goals (
            go_wp2
            go_roundw
            case rel => exact ⟨k + 1, by simp, by omega, hold2, by first | exact below_trans (below_trans hB (hba _)) hB2 | exact below_trans (below_trans hB (hba _).drew) hB2 | exact below_trans (below_trans hB (below_drewN (hba _) _)) hB2⟩
            case measure => exact measK hgo)
        | false =>
          have hno : Hid (¬ AllHold ls) := fun h => by
            have h1 := h k hkl.out
            rw [HX.out] at h1
            cases HBB.out.2 h1
          go_wp2
          go_region_with (go_at_call 15; refine (cH _ (by first | exact hba _ | exact (hba _).drew | exact below_drewN (hba _) _)).mono ?_; rintro e w2 ⟨rfl, hB2⟩)
          all_goals (
            go_wp2
            go_ret2
            exact ⟨⟨false, ⟨fun e => (by cases e), fun e => absurd e hno.out⟩, rfl⟩, by first | exact below_trans (below_trans hB (hba _)) hB2 | exact below_trans (below_trans hB (hba _).drew) hB2 | exact below_trans (below_trans hB (below_drewN (hba _) _)) hB2⟩)
    · have hgo' : ¬ (k : Int) < (n : Int) := by omega
      have hall : Hid (AllHold ls) := fun i hi => hold.out i (by have := HN.out; omega)
      go_wp2
      go_ret2
      exact ⟨⟨true, ⟨fun _ => hall.out, fun _ => rfl⟩, rfl⟩, hB⟩

end Go.Proofs.Ytmomlcibiklajaa.Calls38
