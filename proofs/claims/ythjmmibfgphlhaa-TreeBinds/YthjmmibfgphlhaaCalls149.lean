/-
  MERKLE: the two texts that are told are not the same.
-/
import Derived.Test.YthjmmibfgphlhaaCalls148
import Derived.Test.YthjmmibfgphlhaaCalls145
namespace Go.Proofs.Ythjmmibfgphlhaa.Calls149
set_option linter.unusedVariables false
open Go.ChangeShapes Go.WideShapes Go.ChangeAt Go.RowKit Go.Deep Go.Proofs.Ythjmmibfgphlhaa.Base Go.Proofs.Ythjmmibfgphlhaa.Base2 Go.Proofs.Ythjmmibfgphlhaa.Base7 Go.Proofs.Ythjmmibfgphlhaa.Base8 Go.Proofs.Ythjmmibfgphlhaa.Base9 Go.Proofs.Ythjmmibfgphlhaa.Num55 Go.Proofs.Ythjmmibfgphlhaa.Num60 Go.Proofs.Ythjmmibfgphlhaa.Calls126 Go.Proofs.Ythjmmibfgphlhaa.Calls128 Go.Proofs.Ythjmmibfgphlhaa.Calls133 Go.Proofs.Ythjmmibfgphlhaa.Calls134 Go.Proofs.Ythjmmibfgphlhaa.Calls135 Go.Proofs.Ythjmmibfgphlhaa.Calls141 Go.Proofs.Ythjmmibfgphlhaa.Calls142 Go.Proofs.Ythjmmibfgphlhaa.Calls143 Go.Proofs.Ythjmmibfgphlhaa.Calls144 Go.Proofs.Ythjmmibfgphlhaa.Calls147 Go.Proofs.Ythjmmibfgphlhaa.Calls148

theorem near_node {p : List Nat} (h : ¬ FarP p) (j : Nat) : yb p j < 65536 := by
  by_cases hj : j < p.length
  · rcases Nat.lt_or_ge 65535 (yb p j) with e | e
    · exact absurd ⟨_, yb_mem hj, e⟩ h
    · omega
  · have : yb p j = 0 := by simp [yb, List.getD, List.getElem?_eq_none (Nat.le_of_not_lt hj)]
    omega

theorem clash_ne {n i h s : Nat} {p a q b : List Nat} (hp : ¬ FarP p) (hq : ¬ FarP q) (hab : a ≠ b) (hs : Fst (wl n i p a h) (wl n i q b h) (us n i h + 1) s) : yr (wl n i p a h) s ≠ yr (wl n i q b h) s := by
  have hs1 := hs.1
  obtain ⟨r, hr, hpos⟩ := pos_ex (n := n) (i := i) h s (by omega)
  rcases hpos with ⟨rfl, rfl⟩ | ⟨k, rfl, hN, rfl⟩
  · rw [wl_zero, wl_zero]
    exact fun e => hab (lft_inj e)
  · have hne := hs.2.2 (us n i k) (by omega)
    have pre : ∀ (p a : List Nat), sum (yr (wl n i p a h) (us n i k)) = kn n i p a k := fun p a => by
      have e1 := wl_end n i p a k
      have e2 := wl_pre (n := n) (i := i) (k := k) (p := p) (a := a) (j := us n i k) (by omega) (h - k)
      rw [show k + (h - k) = h by omega] at e2
      rw [e2, e1]
    rw [pre, pre] at hne
    rw [wl_at hr hN, wl_at hr hN]
    intro e
    have hkt : ∀ (p a : List Nat), kt n i p a k = if ix i k % 2 = 1 then prt (yb p (us n i k)) (kn n i p a k) else prt (kn n i p a k) (yb p (us n i k)) := fun _ _ => rfl
    rw [hkt, hkt] at e
    by_cases g : ix i k % 2 = 1
    · rw [if_pos g, if_pos g] at e
      exact hne (prt_inj (near_node hp _) (kn_lt _ _ _ _ _) (near_node hq _) (kn_lt _ _ _ _ _) e).2
    · rw [if_neg g, if_neg g] at e
      exact hne (prt_inj (kn_lt _ _ _ _ _) (near_node hp _) (kn_lt _ _ _ _ _) (near_node hq _) e).1

end Go.Proofs.Ythjmmibfgphlhaa.Calls149
