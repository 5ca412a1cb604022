/-
  The document's Lines: two proofs that read alike are the same.
-/
import Derived.Test.YtmomlcibiklajaaCalls36
namespace Go.Proofs.Ytmomlcibiklajaa.Calls48
set_option linter.unusedVariables false
open Go.ChangeShapes Go.WideShapes Go.ChangeAt Go.RowKit Go.Deep Go.Proofs.Ytmomlcibiklajaa.Base Go.Proofs.Ytmomlcibiklajaa.Num31 Go.Proofs.Ytmomlcibiklajaa.Calls35 Go.Proofs.Ytmomlcibiklajaa.Calls36

set_option maxRecDepth 100000 in
set_option maxHeartbeats 2000000 in
theorem Lines_same (ao bo : Option Addr) (ca cb : Nat) (ls : List Ln) (hl : ls.length ≤ 1048576) (w : World) (ha : LRow w ao ls) (hb : LRow w bo ls) :
    Calls Try.prog 12 #[.slice ao ls.length ca, .slice bo ls.length cb] w fun e w' => e = .returned (.bool true) ∧ ∃ k, w' = w.drewN k := by
  obtain ⟨n, hn⟩ : ∃ n, n = ls.length := ⟨_, rfl⟩
  have HN : Hid (n = ls.length) := hn
  rw [← hn] at hl ⊢
  clear hn
  go_enter Try.func12, Try.ntmps12
  go_wp2
  go_loopw [5] (fun i wr => ∃ k : Nat, i = .int .i64 (k : Int) ∧ k ≤ n ∧ ∃ d, wr = w.drewN d) (fun i wr => ((n : Int) - intOf i).toNat)
  case atStart => exact ⟨0, rfl, by omega, 0, rfl⟩
  case round =>
    obtain ⟨k, rfl, hk, d, rfl⟩ := hrel
    by_cases hgo : k < n
    · have hgo' : (k : Int) < (n : Int) := by omega
      have hk0 : (0 : Int) ≤ (k : Int) := by omega
      have hkl : Hid (k < ls.length) := by have := HN.out; show k < ls.length; omega
      rcases ao with _ | ad
      · exact (lrow_none ha hkl.out).elim
      rcases bo with _ | bd
      · exact (lrow_none hb hkl.out).elim
      obtain ⟨c1, c2, fo, cf, c3, hr, hFl⟩ := ha.2 ad rfl k hkl.out
      obtain ⟨e1, e2, go, cg, e3, hs, _⟩ := hb.2 bd rfl k hkl.out
      obtain ⟨x, hx⟩ : ∃ x, ls.getD k Ln0 = x := ⟨_, rfl⟩
      rw [hx] at c1 c2 c3 hr hFl e1 e2 e3 hs
      clear hx
      obtain ⟨N, G, F⟩ := x
      simp only at c1 c2 c3 hr hFl e1 e2 e3 hs
      obtain ⟨L, hL⟩ : ∃ L, L = F.length := ⟨_, rfl⟩
      have HL : Hid (L = F.length) := hL
      rw [← hL] at c3 e3 hFl
      have HR := hid hr
      have HS := hid hs
      clear hL hr hs
      go_wp2
      go_quiet (fail)
      go_wp2
      go_loopw [6] (fun i wr => ∃ j : Nat, i = .int .i64 (j : Int) ∧ j ≤ L ∧ ∃ d, wr = w.drewN d) (fun i wr => ((L : Int) - intOf i).toNat)
      case atStart => exact ⟨0, rfl, by omega, _, World.drewN_drewN _ _ _⟩
      case round =>
        obtain ⟨j, rfl, hj, d2, rfl⟩ := hrel
        by_cases hjo : j < L
        · have hjo' : (j : Int) < (L : Int) := by omega
          have hj0 : (0 : Int) ≤ (j : Int) := by omega
          have hjl : Hid (j < F.length) := by have := HL.out; show j < F.length; omega
          rcases fo with _ | fd
          · exact (irow_none HR.out hjl.out).elim
          rcases go with _ | gd
          · exact (irow_none HS.out hjl.out).elim
          have x1 := HR.out.2 fd rfl j hjl.out
          have x2 := HS.out.2 gd rfl j hjl.out
          obtain ⟨y, hy⟩ : ∃ y, F.getD j 0 = y := ⟨_, rfl⟩
          rw [hy] at x1 x2
          clear hy
          go_wp2
          go_quiet (fail)
          go_wp2
          go_roundw
          case rel => exact ⟨j + 1, by simp, by omega, _, rfl⟩
          case measure => exact measK hjo
        · have hjo' : ¬ (j : Int) < (L : Int) := by omega
          go_wp2
          go_roundw
          case rel => exact ⟨k + 1, by simp, by omega, _, rfl⟩
          case measure => exact measK hgo
    · have hgo' : ¬ (k : Int) < (n : Int) := by omega
      go_wp2
      go_ret
      exact ⟨rfl, d, rfl⟩

end Go.Proofs.Ytmomlcibiklajaa.Calls48
