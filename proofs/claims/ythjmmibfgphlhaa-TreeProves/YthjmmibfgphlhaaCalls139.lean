/-
  The proof of a leaf, whole: package tree's and the document's.
-/
import Derived.Test.YthjmmibfgphlhaaCalls138
namespace Go.Proofs.Ythjmmibfgphlhaa.Calls139
set_option linter.unusedVariables false
open Go.ChangeShapes Go.WideShapes Go.ChangeAt Go.RowKit Go.Deep Go.Proofs.Ythjmmibfgphlhaa.Base Go.Proofs.Ythjmmibfgphlhaa.Base2 Go.Proofs.Ythjmmibfgphlhaa.Base7 Go.Proofs.Ythjmmibfgphlhaa.Base8 Go.Proofs.Ythjmmibfgphlhaa.Base9 Go.Proofs.Ythjmmibfgphlhaa.Num55 Go.Proofs.Ythjmmibfgphlhaa.Num60 Go.Proofs.Ythjmmibfgphlhaa.Calls126 Go.Proofs.Ythjmmibfgphlhaa.Calls128 Go.Proofs.Ythjmmibfgphlhaa.Calls133 Go.Proofs.Ythjmmibfgphlhaa.Calls134 Go.Proofs.Ythjmmibfgphlhaa.Calls135 Go.Proofs.Ythjmmibfgphlhaa.Calls136 Go.Proofs.Ythjmmibfgphlhaa.Calls137 Go.Proofs.Ythjmmibfgphlhaa.Calls138

/-- What is known of the two boxes behind so many rows. -/
def JP (L : List (List Nat)) (i B0 B1 B2 : Nat) (k b : Nat) (W : World) : Prop :=
  B0 ≤ B1 ∧ B1 < B2 ∧ B2 < b ∧ ∃ v, BoxC W B1 31 #[v] ∧ BoxC W B2 3 #[.int .i64 ((ix i k : Nat) : Int)] ∧ W.ownsRow (B2 + 1) 23 1 v (us L.length i k) (uv (pf L.length i (lf L) k)) ∧ ∀ g, v.ownBlock = some g → g < b

theorem jp_stays (L : List (List Nat)) (i B0 B1 B2 : Nat) : Stays (JP L i B0 B1 B2) := fun k b W W' ⟨h1, h2, h3, v, h4, h5, h6, h7⟩ hb hB =>
  ⟨h1, h2, h3, v, h4.below hB (by omega), h5.below hB h3, owns_at h6 (fun g hg => hB.block g (h7 g hg)), h7⟩

theorem jp_left {L : List (List Nat)} {i B0 B1 B2 b G cap q' k k' : Nat} {ys : List Value} {r : List Nat} {W W' : World} (h1 : B0 ≤ B1) (h2 : B1 < B2) (hL : BehP B0 B1 B2 b G cap q' k' ys r W W') (e1 : q' = ix i (k + 1)) (e2 : k' = us L.length i (k + 1)) (e3 : ys = uv (pf L.length i (lf L) (k + 1))) :
    JP L i B0 B1 B2 (k + 1) W'.heap.size W' ∧ OwnU W' b G cap r ∧ Below B0 W W' := by
  obtain ⟨v', a1, a2, a3, a4, a5⟩ := hL
  subst e1 e2 e3
  exact ⟨⟨h1, h2, a2.lt, v', a1, a2, a3, fun g hg => (a3.lt g hg).2⟩, a4, a5⟩

theorem prove_takes (L : List (List Nat)) (hl : L.length ≤ 64) (i : Nat) (hi : i < L.length) (h B0 B1 B2 : Nat) (h6 : h ≤ 6) : Takes 30 #[.pointer (some ⟨B2, 0, none⟩), .pointer (some ⟨B1, 0, none⟩)] L h B0 (JP L i B0 B1 B2) := by
  intro k b W G cap hk ⟨h1, h2, h3, v, h4, h5, h6', h7⟩ hb hO
  have hx := ix_lt hi k
  have hm := mn_le64 hl k
  have hu := us_le (n := L.length) (i := i) k
  have hLay : Lay W B0 B1 B2 b G cap v (ix i k) (us L.length i k) (uv (pf L.length i (lf L) k)) (rws L k) := ⟨h1, h2, h3, h4, h5, h6', h7, hO⟩
  rcases need_dec L.length i k with e | e
  · have ho := ot_lt hi e
    refine (prove1_yes B0 B1 B2 b G cap v (ix i k) (us L.length i k) _ (rws L k) W hLay (by omega) (by omega) (by rw [rws_length]; exact ho)).mono ?_
    rintro en W' ⟨rfl, hL'⟩
    refine ⟨rfl, jp_left h1 h2 hL' rfl (us_need e).symm ?_⟩
    rw [pf_need e, uv_snoc]
    have : yb (rws L k) (bsd (ix i k)) = nd sum L.length (lf L) k (ot i k) := yb_mu ho
    rw [this]
  · have ho : mn L.length k ≤ ot i k := by
      rcases Nat.lt_or_ge (ot i k) (mn L.length k) with g | g
      · exact absurd ((need_iff hi).2 g) e
      · exact g
    refine (prove1_not B0 B1 B2 b G cap v (ix i k) (us L.length i k) _ (rws L k) W hLay (by omega) (by rw [rws_length]; exact ho)).mono ?_
    rintro en W' ⟨rfl, hL'⟩
    refine ⟨rfl, jp_left h1 h2 hL' rfl (us_not e).symm ?_⟩
    rw [pf_not e]

/-- The call has returned nodes, and no error. -/
def RetUE (l : List Nat) (e : Ending) (w' : World) : Prop := ∃ bo cb, e = .returned (.tuple #[.slice bo l.length cb, .int .i64 0]) ∧ l.length ≤ cb ∧ URow w' bo l

set_option maxRecDepth 100000 in
theorem Prove_bad (lo : Option Addr) (lc : Nat) (L : List (List Nat)) (c i : Int) (hc : LfC L c) (h0 : c ≠ 0) (hl : L.length ≤ 9223372036854775807) (w : World) (hrow : YRows w lo L) :
    Calls Try.prog 13 #[.slice lo L.length lc, .int .i64 i] w fun e w' => e = .returned (.tuple #[.slice none 0 0, .int .i64 c]) ∧ w' = w := by
  have cC := checkLeafs_any lo lc L c hc hl w hrow
  generalize L.length = n at *
  clear hc hrow
  go_enter Try.func13, Try.ntmps13
  go_wp2_with (go_at_call 24; refine cC.mono ?_; rintro e w1 ⟨rfl, hw⟩; subst w1)
  go_ret2
  exact ⟨rfl, rfl⟩

set_option maxRecDepth 100000 in
theorem Prove_arg (lo : Option Addr) (lc : Nat) (L : List (List Nat)) (i : Int) (hc : LfC L 0) (hi : i < 0 ∨ (L.length : Int) ≤ i) (w : World) (hrow : YRows w lo L) :
    Calls Try.prog 13 #[.slice lo L.length lc, .int .i64 i] w fun e w' => e = .returned (.tuple #[.slice none 0 0, .int .i64 3]) ∧ w' = w := by
  have cC := checkLeafs_any lo lc L 0 hc (by have := hc.ok.few; omega) w hrow
  generalize L.length = n at *
  clear hc hrow
  by_cases h1 : i < 0
  · have d1 : decide (i < 0) = true := decide_eq_true h1
    clear hi
    go_enter Try.func13, Try.ntmps13
    go_wp2_with (go_at_call 24; refine cC.mono ?_; rintro e w1 ⟨rfl, hw⟩; subst w1)
    go_ret2
    exact ⟨rfl, rfl⟩
  · have d1 : decide (i < 0) = false := decide_eq_false h1
    have h2 : (n : Int) ≤ i := by omega
    have d2 : decide ((n : Int) ≤ i) = true := decide_eq_true h2
    clear hi
    go_enter Try.func13, Try.ntmps13
    go_wp2_with (go_at_call 24; refine cC.mono ?_; rintro e w1 ⟨rfl, hw⟩; subst w1)
    go_ret2
    exact ⟨rfl, rfl⟩

set_option maxRecDepth 100000 in
set_option maxHeartbeats 1000000 in
theorem Prove_yes (lo : Option Addr) (lc : Nat) (L : List (List Nat)) (i : Nat) (hc : LfC L 0) (hi : i < L.length) (h : Nat) (h6 : h ≤ 6) (ht : Top L.length h) (w : World) (hrow : YRows w lo L) :
    Calls Try.prog 13 #[.slice lo L.length lc, .int .i64 (i : Int)] w fun e w' => RetUE (pf L.length i (lf L) h) e w' ∧ Below w.heap.size w w' := by
  have hL := hc.ok
  have hl64 := hL.few
  have cC := checkLeafs_any lo lc L 0 hc (by omega) w hrow
  have hB1 : Below w.heap.size w (w.alloc (.cells #[.slice none 0 0] 31)) := (Below.refl _ w).alloc (Nat.le_refl _) _
  have hB2 : Below w.heap.size w ((w.alloc (.cells #[.slice none 0 0] 31)).alloc (.cells #[.int .i64 (i : Int)] 3)) := hB1.alloc hB1.size _
  have hbox2 := BoxC.new (w.alloc (.cells #[.slice none 0 0] 31)) 3 #[.int .i64 (i : Int)]
  rw [World.size_alloc] at hbox2
  have cR := hid (rows_any 30 #[.pointer (some ⟨w.heap.size + 1, 0, none⟩), .pointer (some ⟨w.heap.size, 0, none⟩)] (enters_of Try.func30 (by decide) rfl) lo lc L hL h w.heap.size ht (JP L i w.heap.size w.heap.size (w.heap.size + 1)) _
    (yrb hrow hB2) (by simp; omega) ⟨Nat.le_refl _, by omega, by simp, .slice none 0 0, (BoxC.new w 31 #[.slice none 0 0]).alloc _, hbox2, World.ownsRow_nil _ _ _ _, fun g hg => by simp [Value.ownBlock] at hg⟩ (jp_stays _ _ _ _ _) (prove_takes L hl64 i hi h _ _ _ h6))
  have HBw := hid hB2
  have hpt := hid (pf_top (L := lf L) hi ht)
  have hi0 : ¬ (i : Int) < 0 := by omega
  have d1 : decide ((i : Int) < 0) = false := decide_eq_false hi0
  have hi1 : ¬ (L.length : Int) ≤ (i : Int) := by omega
  have d2 : decide ((L.length : Int) ≤ (i : Int)) = false := decide_eq_false hi1
  obtain ⟨l, hl⟩ : ∃ l, l = pf L.length i (lf L) h := ⟨_, rfl⟩
  rw [← hl] at hpt ⊢
  clear hc hrow hB1 hB2 hl64 hbox2 hl
  go_enter Try.func13, Try.ntmps13
  go_wp2_with (first
    | (go_at_call 24; refine cC.mono ?_; rintro e w1 ⟨rfl, hw⟩; subst w1)
    | (go_at_call 25; refine cR.out.mono ?_; rintro e w2 ⟨rfl, hJ, hB⟩; obtain ⟨_, _, _, v, hbx, _, hown, _⟩ := hJ; rw [hpt.out] at hown; obtain ⟨ao, ca, hv, hca, hur⟩ := u_owns hown; have c0 := hbx.cell 0; have HB := hid (HBw.out.trans hB); have HU := hid hur; have HC := hid hca; have HV := hid hv; clear hB hbx hown hur hca hv))
  go_ret2
  exact ⟨⟨ao, ca, by rw [← HV.out]; rfl, HC.out, HU.out⟩, HB.out⟩

end Go.Proofs.Ythjmmibfgphlhaa.Calls139
