/-
  The root of leafs: package tree's and the document's.
-/
import Derived.Test.YthjmmibfgphlhaaCalls136
namespace Go.Proofs.Ythjmmibfgphlhaa.Calls137
set_option linter.unusedVariables false
open Go.ChangeShapes Go.WideShapes Go.ChangeAt Go.RowKit Go.Deep Go.Proofs.Ythjmmibfgphlhaa.Base Go.Proofs.Ythjmmibfgphlhaa.Base2 Go.Proofs.Ythjmmibfgphlhaa.Base7 Go.Proofs.Ythjmmibfgphlhaa.Base8 Go.Proofs.Ythjmmibfgphlhaa.Base9 Go.Proofs.Ythjmmibfgphlhaa.Num55 Go.Proofs.Ythjmmibfgphlhaa.Num60 Go.Proofs.Ythjmmibfgphlhaa.Calls126 Go.Proofs.Ythjmmibfgphlhaa.Calls128 Go.Proofs.Ythjmmibfgphlhaa.Calls133 Go.Proofs.Ythjmmibfgphlhaa.Calls134 Go.Proofs.Ythjmmibfgphlhaa.Calls135 Go.Proofs.Ythjmmibfgphlhaa.Calls136

theorem own_at {W W' : World} {b G cap : Nat} {r : List Nat} (h : OwnU W b G cap r) (e : W'.heap[G]? = W.heap[G]?) : OwnU W' b G cap r := by
  refine ⟨h.1, ?_⟩
  rcases h.2 with ⟨h', _⟩ | ⟨g', cap', cur, h', hb, hg, rest⟩
  · simp at h'
  · simp only [Value.slice.injEq, Option.some.injEq, Addr.mk.injEq, and_true, true_and] at h'
    obtain ⟨rfl, rfl⟩ := h'
    exact .inr ⟨G, cap, cur, rfl, hb, e.trans hg, rest⟩

set_option maxRecDepth 100000 in
theorem root1_any (B1 G m cap : Nat) (x y : Nat) (hm : 1 ≤ m) (w : World) (c0 : w.cell? ⟨G, 0, none⟩ = some (.int .u32 (x : Int))) (d0 : w.cell? ⟨B1, 0, none⟩ = some (.int .u32 (y : Int))) (f0 : w.frozen? ⟨B1, 0, none⟩ = false) :
    Calls Try.prog 26 #[.slice (some ⟨G, 0, none⟩) m cap, .pointer (some ⟨B1, 0, none⟩)] w fun e w' => e = .returned (.tuple #[]) ∧ w' = w.setCell ⟨B1, 0, none⟩ (.int .u32 (x : Int)) := by
  have hm' : (0 : Int) < (m : Int) := by omega
  have hm2 : 0 < m := by omega
  go_enter Try.func26, Try.ntmps26
  go_wp2
  first | go_end0 | refine bodyPost_ret (results_none rfl _ _ _) rfl ?_
  exact ⟨rfl, rfl⟩

/-- What is known of the root's box behind so many rows. -/
def JR (L : List (List Nat)) (B0 B1 : Nat) (k b : Nat) (W : World) : Prop :=
  B0 ≤ B1 ∧ B1 < b ∧ ∃ x : Nat, BoxC W B1 23 #[.int .u32 (x : Int)] ∧ ∀ j, k = j + 1 → x = yb (rws L j) 0

theorem jr_stays (L : List (List Nat)) (B0 B1 : Nat) : Stays (JR L B0 B1) := fun k b W W' ⟨h1, h2, x, h3, h4⟩ hb hB => ⟨h1, h2, x, h3.below hB h2, h4⟩

theorem root_takes (L : List (List Nat)) (hL : 1 ≤ L.length) (h B0 B1 : Nat) : Takes 26 #[.pointer (some ⟨B1, 0, none⟩)] L h B0 (JR L B0 B1) := by
  intro k b W G cap hk ⟨h1, h2, x, h3, h4⟩ hb hO
  have hl : 1 ≤ (rws L k).length := by rw [rws_length]; exact mn_pos hL k
  have c0 := urow_cell hO.row.1 (j := 0) (by omega)
  rw [zero_addr] at c0
  refine (root1_any B1 G (rws L k).length cap (yb (rws L k) 0) x hl W c0 (h3.cell 0) (h3.frozen 0)).mono ?_
  rintro e W' ⟨rfl, rfl⟩
  have hG := hO.lt
  have hne : G ≠ B1 := by omega
  have hs : (W.setCell ⟨B1, 0, none⟩ (.int .u32 ((yb (rws L k) 0 : Nat) : Int))).heap.size = W.heap.size := by simp
  refine ⟨rfl, ⟨h1, by rw [hs]; exact h3.lt, _, by simpa using h3.set 0 (.int .u32 ((yb (rws L k) 0 : Nat) : Int)), fun j hj => ?_⟩, own_at hO (Below.heap_setCell _ _ _ _ hne), v_set (Below.refl _ _) h1 0 _⟩
  obtain rfl : k = j := by omega
  rfl

/-- The root. -/
def rt (L : List (List Nat)) (h : Nat) : Nat := nd sum L.length (lf L) h 0

theorem rt_at {L : List (List Nat)} {h : Nat} (ht : Top L.length h) : yb (rws L h) 0 = rt L h := by
  unfold rws rw
  rw [yb_mu (by rw [ht.1]; omega)]
  rfl

theorem rt_lt (L : List (List Nat)) (h : Nat) : rt L h < 65536 := nd_lt (fun _ => sum_lt _) _ _

set_option maxRecDepth 100000 in
theorem Root_bad (lo : Option Addr) (lc : Nat) (L : List (List Nat)) (c : Int) (hc : LfC L c) (h0 : c ≠ 0) (hl : L.length ≤ 9223372036854775807) (w : World) (hrow : YRows w lo L) :
    Calls Try.prog 9 #[.slice lo L.length lc] w fun e w' => e = .returned (.tuple #[.int .u32 0, .int .i64 c]) ∧ w' = w := by
  have cC := checkLeafs_any lo lc L c hc hl w hrow
  generalize L.length = n at *
  clear hc hrow
  go_enter Try.func9, Try.ntmps9
  go_wp2_with (go_at_call 24; refine cC.mono ?_; rintro e w1 ⟨rfl, hw⟩; subst w1)
  go_ret2
  exact ⟨rfl, rfl⟩

set_option maxRecDepth 100000 in
set_option maxHeartbeats 1000000 in
theorem Root_yes (lo : Option Addr) (lc : Nat) (L : List (List Nat)) (hc : LfC L 0) (h : Nat) (ht : Top L.length h) (w : World) (hrow : YRows w lo L) :
    Calls Try.prog 9 #[.slice lo L.length lc] w fun e w' => e = .returned (.tuple #[.int .u32 ((rt L h : Nat) : Int), .int .i64 0]) ∧ Below w.heap.size w w' := by
  have hL := hc.ok
  have hl64 := hL.few
  have cC := checkLeafs_any lo lc L 0 hc (by omega) w hrow
  have hB1 : Below w.heap.size w (w.alloc (.cells #[.int .u32 0] 23)) := (Below.refl _ w).alloc (Nat.le_refl _) _
  have cR := hid (rows_any 26 #[.pointer (some ⟨w.heap.size, 0, none⟩)] (enters_of Try.func26 (by decide) rfl) lo lc L hL h w.heap.size ht (JR L w.heap.size w.heap.size) _
    (yrb hrow hB1) (by simp) ⟨Nat.le_refl _, by simp, 0, BoxC.new w 23 #[.int .u32 0], fun j hj => by omega⟩ (jr_stays _ _ _) (root_takes L hL.one _ _ _))
  have HBw := hid hB1
  have hrt := hid (rt_at ht)
  generalize rt L h = R at *
  clear hc hrow hB1 hl64
  go_enter Try.func9, Try.ntmps9
  go_wp2_with (first
    | (go_at_call 24; refine cC.mono ?_; rintro e w1 ⟨rfl, hw⟩; subst w1)
    | (go_at_call 25; refine cR.out.mono ?_; rintro e w2 ⟨rfl, hJ, hB⟩; obtain ⟨_, _, x, hbx, hx⟩ := hJ; have HX := hid (hx h rfl); have c0 := hbx.cell 0; have HB := hid (HBw.out.trans hB); clear hB hx hbx))
  go_ret2
  exact ⟨by rw [← hrt.out, ← HX.out]; rfl, HB.out⟩

/-! ### the document's nodes -/

theorem nd_pair {n : Nat} {L : Nat → Nat} {k i : Nat} (h : 2 * i + 1 < mn n k) : nd sum n L (k + 1) i = sum (prt (nd sum n L k (2 * i)) (nd sum n L k (2 * i + 1))) := if_pos h

theorem nd_left {n : Nat} {L : Nat → Nat} {k i : Nat} (h : ¬ 2 * i + 1 < mn n k) : nd sum n L (k + 1) i = nd sum n L k (2 * i) := if_neg h

set_option maxRecDepth 100000 in
set_option maxHeartbeats 2000000 in
theorem refNode_any (lo : Option Addr) (lc : Nat) (L : List (List Nat)) (hL : Lf L) : ∀ (k i : Nat), k ≤ 6 → i < mn L.length k → ∀ (w : World), YRows w lo L →
    Calls Try.prog 11 #[.slice lo L.length lc, .int .i64 (k : Int), .int .i64 (i : Int)] w fun e w' => e = .returned (.int .i64 ((nd sum L.length (lf L) k i : Nat) : Int)) ∧ Below w.heap.size w w'
  | 0, i, _, hi, w, hrow => by
    have hi' : i < L.length := hi
    have h64 := hL.few
    rcases lo with _ | ad
    · exact (yrows_none hrow hi').elim
    obtain ⟨bo, cc, c1, hr1, hby, _, _⟩ := hrow.2 ad rfl i hi'
    have hsh := hL.short _ (yr_mem hi')
    rw [show nd sum L.length (lf L) 0 i = sum (lft (yr L i)) from rfl]
    generalize yr L i = q at *
    have cL := hid (refLeafText_any bo cc q hsh w hr1)
    have hql := lft_length q
    have hqb := lft_byt hby
    clear hby hr1
    generalize lft q = t at *
    have cN := hid (fun bo c w' (h : YRow w' bo t) => refSum_any bo c t (by omega) hqb w' h)
    generalize sum t = s at *
    have hi3 : (i : Int) < (L.length : Int) := by omega
    have hi4 : (0 : Int) ≤ (i : Int) := by omega
    generalize L.length = n at *
    clear hql hqb hsh hrow hi
    go_enter Try.func11, Try.ntmps11
    go_wp2_with (first
      | (go_at_call 27; refine cL.out.mono ?_; rintro e w3 ⟨⟨b3, c3, rfl, hcb, hr⟩, hB3⟩; have HR3 := hid hr; have HB3 := hid hB3; clear hr hB3 hcb)
      | (go_at_call 22; refine (cN.out b3 c3 _ HR3.out).mono ?_; rintro e w4 ⟨rfl, hB4⟩; have HB4 := hid (below_trans HB3.out hB4); clear hB4))
    go_ret
    exact ⟨rfl, HB4.out⟩
  | k + 1, i, hk, hi, w, hrow => by
    have h64 := hL.few
    have hm64 := mn_le64 h64 k
    have hi2 : 2 * i < mn L.length k := by
      have : i < (mn L.length k + 1) / 2 := hi
      omega
    have cM := refMany_any L.length k h64 (by omega) w
    have HR := hid hrow
    have hk1 : (((k + 1 : Nat) : Int)) - 1 = (k : Int) := by omega
    by_cases hp : 2 * i + 1 < mn L.length k
    · have cA := hid (refNode_any lo lc L hL k (2 * i) (by omega) hi2 w hrow)
      have cB := hid (fun w' (h : Below w.heap.size w w') => refNode_any lo lc L hL k (2 * i + 1) (by omega) hp w' (yrb hrow h))
      rw [nd_pair hp]
      have ha : nd sum L.length (lf L) k (2 * i) < 65536 := nd_lt (fun _ => sum_lt _) _ _
      have hb : nd sum L.length (lf L) k (2 * i + 1) < 65536 := nd_lt (fun _ => sum_lt _) _ _
      generalize nd sum L.length (lf L) k (2 * i) = a at *
      generalize nd sum L.length (lf L) k (2 * i + 1) = b at *
      have cP := hid (fun w' => refPairText_any a b (by omega) (by omega) w')
      have hpl := prt_length a b
      have hpb := prt_byt a b
      generalize prt a b = t at *
      have cS := hid (fun bo c w' (h : YRow w' bo t) => refSum_any bo c t (by omega) hpb w' h)
      generalize sum t = s at *
      rw [Int.natCast_add, Int.natCast_mul] at cB
      rw [Int.natCast_mul] at cA
      have hp' : ¬ ((mn L.length k : Nat) : Int) ≤ 2 * (i : Int) + 1 := by omega
      generalize mn L.length k = m at *
      generalize L.length = n at *
      clear hpl hpb hrow hi ha hb hk1
      go_enter Try.func11, Try.ntmps11
      go_wp2_with (first
        | (go_at_call 28; refine cM.mono ?_; rintro e w1 ⟨rfl, hw⟩; subst w1)
        | (go_at_call 11; refine cA.out.mono ?_; clear cA; rintro e w2 ⟨rfl, hB2⟩; have HB2 := hid hB2; clear hB2)
        | (go_at_call 11; refine (cB.out _ HB2.out).mono ?_; clear cB; rintro e w3 ⟨rfl, hB3⟩; have HB3 := hid (below_trans HB2.out hB3); clear hB3)
        | (go_at_call 29; refine (cP.out _).mono ?_; rintro e w4 ⟨⟨b4, c4, rfl, hcb, hr⟩, hB4⟩; have HR4 := hid hr; have HB4 := hid (below_trans HB3.out hB4); clear hr hB4 hcb)
        | (go_at_call 22; refine (cS.out b4 c4 _ HR4.out).mono ?_; rintro e w5 ⟨rfl, hB5⟩; have HB5 := hid (below_trans HB4.out hB5); clear hB5))
      go_ret
      exact ⟨rfl, HB5.out⟩
    · have cA := hid (refNode_any lo lc L hL k (2 * i) (by omega) hi2 w hrow)
      rw [nd_left hp]
      generalize nd sum L.length (lf L) k (2 * i) = a at *
      rw [Int.natCast_mul] at cA
      have hp' : ((mn L.length k : Nat) : Int) ≤ 2 * (i : Int) + 1 := by omega
      generalize mn L.length k = m at *
      generalize L.length = n at *
      clear hrow hi hk1
      go_enter Try.func11, Try.ntmps11
      go_wp2_with (first
        | (go_at_call 28; refine cM.mono ?_; rintro e w1 ⟨rfl, hw⟩; subst w1)
        | (go_at_call 11; refine cA.out.mono ?_; clear cA; rintro e w2 ⟨rfl, hB2⟩; have HB2 := hid hB2; clear hB2))
      go_ret
      exact ⟨rfl, HB2.out⟩

end Go.Proofs.Ythjmmibfgphlhaa.Calls137
