/-
  The document's proof of a leaf; two rows of nodes held against each other.
-/
import Derived.Test.YthjmmibfgphlhaaCalls139
namespace Go.Proofs.Ythjmmibfgphlhaa.Calls140
set_option linter.unusedVariables false
open Go.ChangeShapes Go.WideShapes Go.ChangeAt Go.RowKit Go.Deep Go.Proofs.Ythjmmibfgphlhaa.Base Go.Proofs.Ythjmmibfgphlhaa.Base2 Go.Proofs.Ythjmmibfgphlhaa.Base7 Go.Proofs.Ythjmmibfgphlhaa.Base8 Go.Proofs.Ythjmmibfgphlhaa.Base9 Go.Proofs.Ythjmmibfgphlhaa.Num55 Go.Proofs.Ythjmmibfgphlhaa.Num60 Go.Proofs.Ythjmmibfgphlhaa.Calls126 Go.Proofs.Ythjmmibfgphlhaa.Calls128 Go.Proofs.Ythjmmibfgphlhaa.Calls133 Go.Proofs.Ythjmmibfgphlhaa.Calls134 Go.Proofs.Ythjmmibfgphlhaa.Calls135 Go.Proofs.Ythjmmibfgphlhaa.Calls136 Go.Proofs.Ythjmmibfgphlhaa.Calls137 Go.Proofs.Ythjmmibfgphlhaa.Calls138 Go.Proofs.Ythjmmibfgphlhaa.Calls139

/-- The call has returned nodes. -/
def RetU (l : List Nat) (e : Ending) (w' : World) : Prop := ∃ bo cb, e = .returned (.slice bo l.length cb) ∧ l.length ≤ cb ∧ URow w' bo l

/-- On the way through the rows. -/
def PrR (L : List (List Nat)) (i0 h : Nat) (w : World) (i l r : Value) (wr : World) : Prop :=
  ∃ k q u : Nat, ∃ vn : Value, i = .int .i64 (q : Int) ∧ r = .int .i64 (k : Int) ∧ vn = l ∧ k ≤ h ∧ q ≤ 64 ∧ u ≤ k ∧ Hid (q = ix i0 k) ∧ Hid (wr.ownsRow w.heap.size 23 1 vn u (uv (pf L.length i0 (lf L) k))) ∧ Hid (Below w.heap.size w wr)

set_option maxRecDepth 100000 in
set_option maxHeartbeats 2000000 in
theorem refProve_any (lo : Option Addr) (lc : Nat) (L : List (List Nat)) (hL : Lf L) (i0 : Nat) (hi0 : i0 < L.length) (h : Nat) (h6 : h ≤ 6) (ht : Top L.length h) (w : World) (hrow : YRows w lo L) :
    Calls Try.prog 15 #[.slice lo L.length lc, .int .i64 (i0 : Int)] w fun e w' => RetU (pf L.length i0 (lf L) h) e w' ∧ Below w.heap.size w w' := by
  obtain ⟨i1, hi, hz0, hz1, hz2⟩ := infoU32
  have h64 := hL.few
  have cH := hid (fun w' => refHeight_any L.length h h64 h6 ht w')
  have cM := hid (fun k (hk : k ≤ h) w' => refMany_any L.length k h64 (by omega) w')
  have cN := hid (fun k i (hk : k ≤ h) (hi : i < mn L.length k) w' (hB : Below w.heap.size w w') => refNode_any lo lc L hL k i (by omega) hi w' (yrb hrow hB))
  have hix := hid (fun k => ix_lt hi0 k)
  have hm64 := hid (fun k => mn_le64 h64 k)
  have hot := hid (fun k => need_iff (n := L.length) (i := i0) (k := k) hi0)
  have h0 : PrR L i0 h w (.int .i64 (i0 : Int)) (.slice none 0 0) (.int .i64 ((0 : Nat) : Int)) w := ⟨0, i0, 0, _, rfl, rfl, rfl, by omega, by omega, by omega, rfl, World.ownsRow_nil _ _ _ _, Below.refl _ _⟩
  have hlt := hid (fun k i => nd_lt (n := L.length) (L := lf L) (fun _ => sum_lt _) k i)
  clear hrow ht hL hi0
  go_enter Try.func15, Try.ntmps15
  go_wp2
  go_loopw [1, 5, 6] (fun i l r wr => PrR L i0 h w i l r wr) (fun i l r wr => ((h : Int) - intOf r).toNat)
  case atStart => exact h0
  case round =>
    obtain ⟨k, q, u, vn, rfl, rfl, hvn, hk, hq, hu, HQ, HO, HB⟩ := hrel
    subst hvn
    by_cases hgo : k < h
    · have hgo' : (k : Int) < (h : Int) := by omega
      have cM2 := cM.out k hk
      have hm := hm64.out k
      have hqm := hix.out k
      have hne := hot.out k
      have hb : ot i0 k = bsd q := by rw [ot_bsd, ← HQ.out]
      rw [hb] at hne
      rw [← HQ.out] at hqm
      have hq2 : Hid (q / 2 = ix i0 (k + 1)) := by show _ = ix i0 k / 2; rw [← HQ.out]
      have hsz := HB.out.size
      by_cases hN : bsd q < mn L.length k
      · have hNd := hne.2 hN
        have hsn := hid (show uv (pf L.length i0 (lf L) (k + 1)) = uv (pf L.length i0 (lf L) k) ++ [.int .u32 ((nd sum L.length (lf L) k (bsd q) : Nat) : Int)] by rw [pf_need hNd, uv_snoc, hb])
        have cD := cN.out k (bsd q) hk hN
        have hnl := hlt.out k (bsd q)
        generalize nd sum L.length (lf L) k (bsd q) = s at *
        generalize mn L.length k = m at *
        have hN' : ((bsd q : Nat) : Int) < (m : Int) := by omega
        obtain ⟨n, hn⟩ : ∃ n, n = L.length := ⟨_, rfl⟩
        rw [← hn] at cM2 cD cH h64 ⊢
        clear hn hb hne hNd HQ
        by_cases hp : q % 2 = 1
        · have e : bsd q = q - 1 := if_pos hp
          have hqe : ((q - 1 : Nat) : Int) = (q : Int) - 1 := by omega
          rw [e] at hN hN' cD
          rw [hqe] at hN' cD
          have t1 : ((q : Int)).tmod 2 = 1 := by rw [Int.tmod_eq_emod_of_nonneg (by omega)]; omega
          have t2 : (q : Int) % 2 = 1 := by omega
          have hq1 : 1 ≤ q := by omega
          clear hqe e hp
          go_wp2_with (first
            | (go_at_call 12; refine (cH.out _).mono ?_; rintro e w1 ⟨rfl, hw⟩; subst w1)
            | (go_at_call 28; refine (cM2 _).mono ?_; rintro e w1 ⟨rfl, hw⟩; subst w1)
            | (go_at_call 11; refine (cD _ HB.out).mono ?_; rintro e w3 ⟨rfl, hB3⟩; have HO3 := hid (v_below HO.out hB3); have HB3 := hid (below_trans HB.out hB3); have hsz3 := HB3.out.size; clear hB3)
            | (at_builtin; refine wpList_append_own _ rfl _ _ 31 rfl w.heap.size 23 i1 (.int .u32 0) 1 4 Try.underlying31 hi hz0 hz1 hz2 rfl (by decide) vn u _ rfl (HO3.out.alloc _) ⟨w3.heap.size, 0, none⟩ 1 1 [.int .u32 (s : Int)] rfl rfl v_one (by simp [Value.oneCell']) (by unfold maxLen; omega) (by omega) (by simp; omega) ?_; intro v' w5 hown5 hgrow5 _; have HO5 := hid hown5; have HB5 := hid (v_snoc HB3.out (Nat.le_refl _) HO3.out hgrow5); clear hown5 hgrow5))
          go_roundw
          case rel => exact ⟨k + 1, q / 2, u + 1, _, by simp, by simp, rfl, by omega, by omega, by omega, hq2, by show World.ownsRow _ _ _ _ _ _ _; rw [hsn.out]; exact HO5.out, HB5⟩
          case measure => exact measK hgo
        · have e : bsd q = q + 1 := if_neg hp
          have hqe : ((q + 1 : Nat) : Int) = (q : Int) + 1 := by omega
          rw [e] at hN hN' cD
          rw [hqe] at hN' cD
          have t1 : ¬ ((q : Int)).tmod 2 = 1 := by rw [Int.tmod_eq_emod_of_nonneg (by omega)]; omega
          have t2 : ¬ (q : Int) % 2 = 1 := by omega
          clear hqe e hp
          go_wp2_with (first
            | (go_at_call 12; refine (cH.out _).mono ?_; rintro e w1 ⟨rfl, hw⟩; subst w1)
            | (go_at_call 28; refine (cM2 _).mono ?_; rintro e w1 ⟨rfl, hw⟩; subst w1)
            | (go_at_call 11; refine (cD _ HB.out).mono ?_; rintro e w3 ⟨rfl, hB3⟩; have HO3 := hid (v_below HO.out hB3); have HB3 := hid (below_trans HB.out hB3); have hsz3 := HB3.out.size; clear hB3)
            | (at_builtin; refine wpList_append_own _ rfl _ _ 31 rfl w.heap.size 23 i1 (.int .u32 0) 1 4 Try.underlying31 hi hz0 hz1 hz2 rfl (by decide) vn u _ rfl (HO3.out.alloc _) ⟨w3.heap.size, 0, none⟩ 1 1 [.int .u32 (s : Int)] rfl rfl v_one (by simp [Value.oneCell']) (by unfold maxLen; omega) (by omega) (by simp; omega) ?_; intro v' w5 hown5 hgrow5 _; have HO5 := hid hown5; have HB5 := hid (v_snoc HB3.out (Nat.le_refl _) HO3.out hgrow5); clear hown5 hgrow5))
          go_roundw
          case rel => exact ⟨k + 1, q / 2, u + 1, _, by simp, by simp, rfl, by omega, by omega, by omega, hq2, by show World.ownsRow _ _ _ _ _ _ _; rw [hsn.out]; exact HO5.out, HB5⟩
          case measure => exact measK hgo
      · have hNd : ¬ Need L.length i0 k := fun h => hN (hne.1 h)
        have hsn : Hid (pf L.length i0 (lf L) (k + 1) = pf L.length i0 (lf L) k) := pf_not hNd
        have hp : ¬ q % 2 = 1 := fun e => by
          have : bsd q = q - 1 := if_pos e
          omega
        have e : bsd q = q + 1 := if_neg hp
        rw [e] at hN
        generalize mn L.length k = m at *
        have hN' : ¬ (q : Int) + 1 < (m : Int) := by omega
        have t1 : ¬ ((q : Int)).tmod 2 = 1 := by rw [Int.tmod_eq_emod_of_nonneg (by omega)]; omega
        have t2 : ¬ (q : Int) % 2 = 1 := by omega
        obtain ⟨n, hn⟩ : ∃ n, n = L.length := ⟨_, rfl⟩
        rw [← hn] at cM2 cH h64 ⊢
        clear hn hb hne hNd HQ e hp cN
        go_wp2_with (first
          | (go_at_call 12; refine (cH.out _).mono ?_; rintro e w1 ⟨rfl, hw⟩; subst w1)
          | (go_at_call 28; refine (cM2 _).mono ?_; rintro e w1 ⟨rfl, hw⟩; subst w1))
        go_roundw
        case rel => exact ⟨k + 1, q / 2, u, _, by simp, by simp, rfl, by omega, by omega, by omega, hq2, by show World.ownsRow _ _ _ _ _ _ _; rw [hsn.out]; exact HO.out, HB⟩
        case measure => exact measK hgo
    · have hgo' : ¬ (k : Int) < (h : Int) := by omega
      obtain rfl : k = h := by omega
      obtain ⟨l, hl⟩ : ∃ l, l = pf L.length i0 (lf L) k := ⟨_, rfl⟩
      have HLl := hid hl
      rw [← hl] at HO
      have hfin := hid (u_owns HO.out)
      obtain ⟨n, hn⟩ : ∃ n, n = L.length := ⟨_, rfl⟩
      rw [← hn] at cH h64 ⊢
      clear hl hn cN cM hlt
      go_wp2_with (go_at_call 12; refine (cH.out _).mono ?_; rintro e w1 ⟨rfl, hw⟩; subst w1)
      go_ret
      obtain ⟨ao, ca, e1, e2, e3⟩ := hfin.out
      exact ⟨by rw [← HLl.out]; exact ⟨ao, ca, by rw [← e1]; rfl, e2, e3⟩, HB.out⟩

set_option maxRecDepth 100000 in
set_option maxHeartbeats 1000000 in
theorem nodes_same (ao bo : Option Addr) (ca cb : Nat) (l : List Nat) (hl : l.length ≤ 9223372036854775807) (w : World) (ra : URow w ao l) (rb : URow w bo l) :
    Calls Try.prog 14 #[.slice ao l.length ca, .slice bo l.length cb] w fun e w' => e = .returned (.bool true) ∧ Below w.heap.size w w' := by
  have HA := hid (fun (w' : World) (h : Below w.heap.size w w') => urow_below ra h)
  have HB := hid (fun (w' : World) (h : Below w.heap.size w w') => urow_below rb h)
  obtain ⟨N, hN⟩ : ∃ N, N = l.length := ⟨_, rfl⟩
  have HN := hid hN
  rw [← hN] at hl ⊢
  clear hN ra rb
  go_enter Try.func14, Try.ntmps14
  go_wp2
  go_loopw [5] (fun i wr => ∃ k : Nat, i = .int .i64 (k : Int) ∧ k ≤ N ∧ Hid (Below w.heap.size w wr)) (fun i wr => ((N : Int) - intOf i).toNat)
  case atStart => exact ⟨0, rfl, by omega, Below.refl _ _⟩
  case round =>
    obtain ⟨k, rfl, hk, hW⟩ := hrel
    by_cases hgo : k < N
    · have hgo' : (k : Int) < (N : Int) := by omega
      rcases ao with _ | ad
      · exact (urow_none (HA.out _ hW.out) (j := k) (by rw [← HN.out]; exact hgo)).elim
      rcases bo with _ | bd
      · exact (urow_none (HB.out _ hW.out) (j := k) (by rw [← HN.out]; exact hgo)).elim
      have c1 := urow_cell (HA.out _ hW.out) (j := k) (by rw [← HN.out]; exact hgo)
      have c2 := urow_cell (HB.out _ hW.out) (j := k) (by rw [← HN.out]; exact hgo)
      generalize yb l k = x at *
      have hx1 : (x != x) = false := by simp
      go_wp2_with go_region
      go_roundw
      case rel => exact ⟨k + 1, by simp, by omega, hW.out.drew⟩
      case measure => exact measK hgo
    · have hgo' : ¬ (k : Int) < (N : Int) := by omega
      go_wp2
      go_ret
      exact ⟨rfl, hW.out⟩

end Go.Proofs.Ythjmmibfgphlhaa.Calls140
