/-
  The document's side of gates: how many parties may be, what is taken of what is drawn, all values.
-/
import Derived.Test.YtpnmepobdnclkaaCalls176
import Derived.Test.YtpnmepobdnclkaaCalls61
namespace Go.Proofs.Ytpnmepobdnclkaa.Calls177
set_option linter.unusedVariables false
open Go.ChangeShapes Go.WideShapes Go.ChangeAt Go.RowKit Go.Deep Go.Proofs.Ytpnmepobdnclkaa.Base Go.Proofs.Ytpnmepobdnclkaa.Base2 Go.Proofs.Ytpnmepobdnclkaa.Num Go.Proofs.Ytpnmepobdnclkaa.Num13 Go.Proofs.Ytpnmepobdnclkaa.Num16 Go.Proofs.Ytpnmepobdnclkaa.Num17 Go.Proofs.Ytpnmepobdnclkaa.Num34 Go.Proofs.Ytpnmepobdnclkaa.Num35 Go.Proofs.Ytpnmepobdnclkaa.Num61 Go.Proofs.Ytpnmepobdnclkaa.Num69 Go.Proofs.Ytpnmepobdnclkaa.Base4 Go.Proofs.Ytpnmepobdnclkaa.Base10 Go.Proofs.Ytpnmepobdnclkaa.Calls56 Go.Proofs.Ytpnmepobdnclkaa.Calls57 Go.Proofs.Ytpnmepobdnclkaa.Calls61 Go.Proofs.Ytpnmepobdnclkaa.Calls176
open Go.Proofs.Ytpnmepobdnclkaa.Calls71 (al)
open Go.Proofs.Ytpnmepobdnclkaa.Calls87 (ib)
open Go.Proofs.Ytpnmepobdnclkaa.Calls90 (InM)
open Go.Proofs.Ytpnmepobdnclkaa.Calls19 (refMod_at)
open Go.Proofs.Ytpnmepobdnclkaa.Calls58 (mul_bd)

/-- The code of t: 2 t + 1 parties, by a prime. -/
def TC (p t c : Int) : Prop := (¬ (0 ≤ t ∧ t ≤ 4 ∧ 2 * t + 1 < p) ∧ c = 2) ∨ ((0 ≤ t ∧ t ≤ 4 ∧ 2 * t + 1 < p) ∧ c = 0)

theorem tc_ex (p t : Int) : ∃ c, TC p t c := by
  by_cases h : 0 ≤ t ∧ t ≤ 4 ∧ 2 * t + 1 < p
  · exact ⟨0, .inr ⟨h, rfl⟩⟩
  · exact ⟨2, .inl ⟨h, rfl⟩⟩

theorem TC.ok {p t : Int} (h : TC p t 0) : 0 ≤ t ∧ t ≤ 4 ∧ 2 * t + 1 < p := by
  rcases h with ⟨_, h⟩ | ⟨h, _⟩
  · omega
  · exact h

theorem TC.two {p t c : Int} (h : TC p t c) (h0 : c ≠ 0) : c = 2 := by
  rcases h with ⟨_, h⟩ | ⟨_, h⟩ <;> omega

theorem refPartiesCheck_any (p t c : Int) (hc : TC p t c) (w : World) :
    Calls Try.prog 10 #[.int .i64 p, .int .i64 t] w fun e w' => e = .returned (.int .i64 c) ∧ w' = w := by
  rcases hc with ⟨h, rfl⟩ | ⟨⟨h1, h2, h3⟩, rfl⟩
  · by_cases t1 : t < 0
    · go_enter Try.func10, Try.ntmps10
      go_wp2
      go_ret
      exact ⟨rfl, rfl⟩
    · have t1' : decide (t < 0) = false := by simpa using t1
      by_cases t2 : 4 < t
      · go_enter Try.func10, Try.ntmps10
        go_wp2
        go_ret
        exact ⟨rfl, rfl⟩
      · have t2' : decide (4 < t) = false := by simp; omega
        have t3 : p ≤ 2 * t + 1 := by omega
        go_enter Try.func10, Try.ntmps10
        go_wp2
        go_ret
        exact ⟨rfl, rfl⟩
  · have t1' : decide (t < 0) = false := by simp; omega
    have t2' : decide (4 < t) = false := by simp; omega
    have t3' : decide (p ≤ 2 * t + 1) = false := by simp; omega
    go_enter Try.func10, Try.ntmps10
    go_wp2
    go_ret
    exact ⟨rfl, rfl⟩

set_option maxRecDepth 100000 in
theorem refTaken_any (ro : Option Addr) (cr : Nat) (R : List Int) (hR : R.length ≤ 9223372036854775807) (u t : Nat) (hu : u ≤ 1048576) (ht : t ≤ 4) (w : World) (hrow : IRow w ro R) :
    Calls Try.prog 32 #[.slice ro R.length cr, .int .i64 (u : Int), .int .i64 (t : Int)] w fun e w' => RetL (tk R u t) e w' ∧ Below w.heap.size w w' := by
  obtain ⟨i0, hi, hz0, hz1, hz2⟩ := info_ex
  obtain ⟨N, hN⟩ : ∃ N, N = R.length := ⟨_, rfl⟩
  have HN : Hid (N = R.length) := hN
  have HR := hid hrow
  have hlen : Hid ((tk R u t).length = t) := tk_length _ _ _
  obtain ⟨f, hf⟩ : ∃ f : Nat → Int, f = fun i => co R (u + i) := ⟨_, rfl⟩
  have HF : Hid (∀ i, f i = co R (u + i)) := fun i => by rw [hf]
  have HT : Hid (tk R u t = mk t f) := by show _ = _; rw [hf]; rfl
  rw [← hN] at hR ⊢
  clear hN hrow hf
  go_enter Try.func32, Try.ntmps32
  go_wp2
  go_loopw [7, 8] (fun v x wr => ∃ k : Nat, x = .int .i64 ((u : Int) + (k : Int)) ∧ k ≤ t ∧ Hid (wr.ownsRow w.heap.size 2 1 v k (ivals (mk k f))) ∧ Hid (Below w.heap.size w wr)) (fun v x wr => ((u : Int) + (t : Int) - intOf x).toNat)
  case atStart => exact ⟨0, by simp, by omega, World.ownsRow_nil _ _ _ _, Below.refl _ _⟩
  case round =>
    obtain ⟨k, rfl, hk, hown, hB⟩ := hrel
    have hss := hB.out.size
    by_cases hgo : k < t
    · have hgo' : (u : Int) + (k : Int) < (u : Int) + (t : Int) := by omega
      obtain ⟨X, hX⟩ : ∃ X : Nat, X = u + k := ⟨_, rfl⟩
      have HX := hid hX
      have hXi : (u : Int) + (k : Int) = (X : Int) := by omega
      have hXb : X ≤ 1048580 := by omega
      have hsn : Hid (ivals (mk (k + 1) f) = ivals (mk k f) ++ [.int .i64 (co R X)]) := by show _ = _; rw [mk_succ, ivals_snoc, HF.out, hX]
      have hnx : Hid ((X : Int) + 1 = (u : Int) + ((k + 1 : Nat) : Int)) := by show _ = _; omega
      have hm : Hid (((u : Int) + (t : Int) - ((X : Int) + 1)).toNat < ((u : Int) + (t : Int) - (X : Int)).toNat) := by show _ < _; omega
      rw [hXi] at hgo' ⊢
      clear hX hXi
      by_cases hx : X < N
      · have hx' : (X : Int) < (N : Int) := by omega
        have hxl : Hid (X < R.length) := by have := HN.out; show X < R.length; omega
        rcases ro with _ | ad
        · exact (irow_none HR.out hxl.out).elim
        · have d0 := (ib HR.out hB.out).2 ad rfl X hxl.out
          generalize co R X = x at *
          go_wp2_with (at_builtin; refine wpList_append_own _ rfl _ _ 22 rfl w.heap.size 2 i0 (.int .i64 0) 1 8 Try.underlying22 hi hz0 hz1 hz2 rfl (by decide) _ _ _ rfl (hown.out.alloc _) ⟨wr.heap.size, 0, none⟩ 1 1 [.int .i64 x] rfl rfl one_cell (by simp [Value.oneCell']) (by unfold maxLen; omega) (by omega) (by simp; omega) ?_; intro v' w1 hown' hgrow _)
          go_roundw
          case rel => exact ⟨k + 1, by rw [hnx.out], by omega, by show World.ownsRow _ _ _ _ _ _ _; rw [hsn.out]; exact hown', owns_grown_below hB.out rfl hown.out hgrow⟩
          case measure => exact hm.out
      · have hx' : decide ((X : Int) < (N : Int)) = false := by simp; omega
        have h0 : co R X = 0 := by unfold co; rw [List.getD_eq_getElem?_getD, List.getElem?_eq_none (by have := HN.out; omega)]; rfl
        rw [h0] at hsn
        go_wp2_with (at_builtin; refine wpList_append_own _ rfl _ _ 22 rfl w.heap.size 2 i0 (.int .i64 0) 1 8 Try.underlying22 hi hz0 hz1 hz2 rfl (by decide) _ _ _ rfl (hown.out.alloc _) ⟨wr.heap.size, 0, none⟩ 1 1 [.int .i64 0] rfl rfl one_cell (by simp [Value.oneCell']) (by unfold maxLen; omega) (by omega) (by simp; omega) ?_; intro v' w1 hown' hgrow _)
        go_roundw
        case rel => exact ⟨k + 1, by rw [hnx.out], by omega, by show World.ownsRow _ _ _ _ _ _ _; rw [hsn.out]; exact hown', owns_grown_below hB.out rfl hown.out hgrow⟩
        case measure => exact hm.out
    · have hgo' : ¬ (u : Int) + (k : Int) < (u : Int) + (t : Int) := by omega
      obtain rfl : k = t := by omega
      obtain ⟨vo, vc, rfl, hcap, hr⟩ := irow_owns hown.out
      have H3 := hid hr
      rw [mk_length] at hcap ⊢
      clear hr
      go_wp2
      go_ret
      refine ⟨⟨vo, vc, ?_, ?_, ?_⟩, hB.out⟩
      · rw [hlen.out]; rfl
      · rw [hlen.out]; exact hcap
      · rw [HT.out]; exact H3.out

theorem vst_bd {P : Nat} (hP : 1 ≤ P) {l : List Int} (hl : InM (P : Int) l l.length) {F : Nat → Nat → Int} {k : Nat} (hk : GOk (P : Int) l.length F k) (vs : List Int) : 0 ≤ vst P l F vs k ∧ vst P l F vs k < (P : Int) := by
  unfold vst
  rcases hk with ⟨e, a, ha, ha'⟩ | ⟨e, h2⟩ | ⟨e, a, b, ha, hb, _⟩ | ⟨e, a, b, ha, hb, _⟩
  · rw [if_pos e, ha]; exact hl _ (by omega)
  · rw [if_neg (by omega), if_pos e]; exact h2
  · rw [if_neg (by omega), if_neg (by omega), if_pos e]; exact mod_bd (by omega) _
  · rw [if_neg (by omega), if_neg (by omega), if_neg (by omega)]; exact mod_bd (by omega) _

theorem clr_bd {P : Nat} (hP : 1 ≤ P) {l : List Int} (hl : InM (P : Int) l l.length) {F : Nat → Nat → Int} : ∀ {n : Nat}, (∀ i, i < n → GOk (P : Int) l.length F i) → ∀ i, i < n → 0 ≤ co (clr P l F n) i ∧ co (clr P l F n) i < (P : Int)
  | 0, _ => fun i hi => absurd hi (by omega)
  | n + 1, h => fun i hi => by
    by_cases e : i = n
    · subst e; rw [clr_at]; exact vst_bd hP hl (h i (by omega)) _
    · have h1 := clr_keep (P := P) (l := l) (F := F) (k := n) (i := i) (by omega) 1
      rw [h1]
      exact clr_bd hP hl (fun i hi => h i (by omega)) i (by omega)

theorem vst_in {P : Nat} {l : List Int} {F : Nat → Nat → Int} {k a : Nat} (e : F k 0 = 1) (ha : F k 1 = (a : Int)) (vs : List Int) : vst P l F vs k = co l a := by unfold vst; rw [if_pos e, ha]; simp
theorem vst_co {P : Nat} {l : List Int} {F : Nat → Nat → Int} {k : Nat} (e : F k 0 = 2) (vs : List Int) : vst P l F vs k = F k 3 := by unfold vst; rw [if_neg (by omega), if_pos e]
theorem vst_add {P : Nat} {l : List Int} {F : Nat → Nat → Int} {k a b : Nat} (e : F k 0 = 3) (ha : F k 1 = (a : Int)) (hb : F k 2 = (b : Int)) (vs : List Int) : vst P l F vs k = (co vs a + co vs b) % (P : Int) := by unfold vst; rw [if_neg (by omega), if_neg (by omega), if_pos e, ha, hb]; simp
theorem vst_mul {P : Nat} {l : List Int} {F : Nat → Nat → Int} {k a b : Nat} (e : F k 0 = 4) (ha : F k 1 = (a : Int)) (hb : F k 2 = (b : Int)) (vs : List Int) : vst P l F vs k = co vs a * co vs b % (P : Int) := by unfold vst; rw [if_neg (by omega), if_neg (by omega), if_neg (by omega), ha, hb]; simp

theorem clr_vals (P : Nat) (l : List Int) (F : Nat → Nat → Int) (k : Nat) : ivals (clr P l F (k + 1)) = ivals (clr P l F k) ++ [.int .i64 (vst P l F (clr P l F k) k)] := ivals_snoc _ _

/-- A number that is put behind the row, with a gate's box ahead of it. -/
theorem new_cell {wr : World} {vs : Array Value} {t : TypeId} {z : Int} : ∀ j u, ([.int .i64 z] : List Value)[j]? = some u → ((wr.alloc (.cells vs t)).alloc (.cells #[.int .i64 z] 2)).cell? ((⟨wr.heap.size + 1, 0, none⟩ : Addr).add j) = some u := by
  have h := one_cell (W := wr.alloc (.cells vs t)) (t := 2) (a := .int .i64 z)
  rw [World.size_alloc] at h
  exact h

theorem grown2 {w wr w2 : World} {v : Value} {k : Nat} {xs : List Value} {o o2 : Obj} (hB : Below w.heap.size w wr) (hown : wr.ownsRow w.heap.size 2 1 v k xs) (hgrow : ((wr.alloc o).alloc o2).grownBy w2 v.ownBlock) : Below w.heap.size w w2 :=
  owns_grown_below (al hB o) rfl (hown.alloc o) hgrow

theorem grown2d {w wr w2 : World} {v : Value} {k d : Nat} {xs : List Value} {o o2 : Obj} (hB : Below w.heap.size w wr) (hown : wr.ownsRow w.heap.size 2 1 v k xs) (hgrow : (((wr.alloc o).drewN d).alloc o2).grownBy w2 v.ownBlock) : Below w.heap.size w w2 := by
  have h : ((wr.alloc o).drewN d).ownsRow w.heap.size 2 1 v k xs := hown.alloc o
  exact owns_grown_below (below_drewN (al hB o) d) rfl h hgrow

end Go.Proofs.Ytpnmepobdnclkaa.Calls177
