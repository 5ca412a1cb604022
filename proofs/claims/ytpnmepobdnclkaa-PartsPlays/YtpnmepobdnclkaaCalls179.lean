/-
  Two tables that read alike are the same, by the document.
-/
import Derived.Test.YtpnmepobdnclkaaCalls177
import Derived.Test.YtpnmepobdnclkaaBase5
import Derived.Deep.RegionWith
namespace Go.Proofs.Ytpnmepobdnclkaa.Calls179
set_option linter.unusedVariables false
open Go.ChangeShapes Go.WideShapes Go.ChangeAt Go.RowKit Go.Deep Go.Proofs.Ytpnmepobdnclkaa.Base Go.Proofs.Ytpnmepobdnclkaa.Base2 Go.Proofs.Ytpnmepobdnclkaa.Num16 Go.Proofs.Ytpnmepobdnclkaa.Num34 Go.Proofs.Ytpnmepobdnclkaa.Base4 Go.Proofs.Ytpnmepobdnclkaa.Base5 Go.Proofs.Ytpnmepobdnclkaa.Calls61

theorem ratb {w W : World} {a : Addr} {l : List Int} (h : RAt w a l) (hB : Below w.heap.size w W) : RAt W a l := rat_below h hB (Nat.le_refl _)

set_option maxRecDepth 100000 in
theorem Table_same (ao bo : Option Addr) (ca cb : Nat) (L : List (List Int)) (hL : L.length ≤ 4096) (w : World) (ra : RRow w ao L) (rb : RRow w bo L) :
    Calls Try.prog 17 #[.slice ao L.length ca, .slice bo L.length cb] w fun e w' => e = .returned (.bool true) ∧ Below w.heap.size w w' := by
  obtain ⟨n, hn⟩ : ∃ n, n = L.length := ⟨_, rfl⟩
  have HN : Hid (n = L.length) := hn
  have HA := hid ra
  have HB := hid rb
  rw [← hn] at hL ⊢
  clear hn ra rb
  have hnn : ((n : Int) != (n : Int)) = false := by simp
  go_enter Try.func17, Try.ntmps17
  go_wp2
  go_loopw [5] (fun i wr => ∃ k : Nat, i = .int .i64 (k : Int) ∧ k ≤ n ∧ Hid (Below w.heap.size w wr)) (fun i wr => ((n : Int) - intOf i).toNat)
  case atStart => exact ⟨0, rfl, by omega, Below.refl _ _⟩
  case round =>
    obtain ⟨k, rfl, hk, hBr⟩ := hrel
    by_cases hgo : k < n
    · have hgo' : (k : Int) < (n : Int) := by omega
      have hkl : Hid (k < L.length) := by have := HN.out; show k < L.length; omega
      rcases ao with _ | ad
      · exact (rrow_none HA.out hkl.out).elim
      · rcases bo with _ | bd
        · exact (rrow_none HB.out hkl.out).elim
        · obtain ⟨xo, xc, c1, r1, k1, m1⟩ := ratb (HA.out.2 ad rfl k hkl.out) hBr.out
          obtain ⟨yo, yc, c2, r2, k2, m2⟩ := ratb (HB.out.2 bd rfl k hkl.out) hBr.out
          have cL := fun W (hBW : Below wr.heap.size wr W) => Longs_same xo yo xc yc (rw' L k) m1 W (irow_below r1 hBW (Nat.le_refl _)) (irow_below r2 hBW (Nat.le_refl _))
          generalize (rw' L k).length = q at *
          clear r1 r2
          have hba : Below wr.heap.size wr wr := Below.refl _ _
          go_wp2
          go_region_with (go_at_call 14; refine (cL _ (by first | exact hba | exact hba.drew | exact below_drewN hba _)).mono ?_; rintro e w2 ⟨rfl, hB2⟩)
          all_goals (
            go_wp2
            go_roundw
            case rel => exact ⟨k + 1, by simp, by omega, by first | exact below_trans hBr.out hB2 | exact below_trans hBr.out.drew hB2 | exact below_trans (below_drewN hBr.out _) hB2⟩
            case measure => exact measK hgo)
    · have hgo' : ¬ (k : Int) < (n : Int) := by omega
      go_wp2
      go_ret
      exact ⟨rfl, hBr.out⟩

end Go.Proofs.Ytpnmepobdnclkaa.Calls179
