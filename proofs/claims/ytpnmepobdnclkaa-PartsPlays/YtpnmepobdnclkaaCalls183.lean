/-
  Package parts: the values of all gates.
-/
import Derived.Test.YtpnmepobdnclkaaCalls182
import Derived.Test.YtpnmepobdnclkaaCalls59
import Derived.Test.YtpnmepobdnclkaaCalls62
import Derived.Deep.RegionHeld3
import Derived.Deep.RegionWith
namespace Go.Proofs.Ytpnmepobdnclkaa.Calls183
set_option linter.unusedVariables false
open Go.ChangeShapes Go.WideShapes Go.ChangeAt Go.RowKit Go.Deep Go.Proofs.Ytpnmepobdnclkaa.Base Go.Proofs.Ytpnmepobdnclkaa.Base2 Go.Proofs.Ytpnmepobdnclkaa.Num Go.Proofs.Ytpnmepobdnclkaa.Num13 Go.Proofs.Ytpnmepobdnclkaa.Num16 Go.Proofs.Ytpnmepobdnclkaa.Num17 Go.Proofs.Ytpnmepobdnclkaa.Num34 Go.Proofs.Ytpnmepobdnclkaa.Num35 Go.Proofs.Ytpnmepobdnclkaa.Num69 Go.Proofs.Ytpnmepobdnclkaa.Base4 Go.Proofs.Ytpnmepobdnclkaa.Base10 Go.Proofs.Ytpnmepobdnclkaa.Calls56 Go.Proofs.Ytpnmepobdnclkaa.Calls57 Go.Proofs.Ytpnmepobdnclkaa.Calls176 Go.Proofs.Ytpnmepobdnclkaa.Calls177 Go.Proofs.Ytpnmepobdnclkaa.Calls182
open Go.Proofs.Ytpnmepobdnclkaa.Calls71 (al)
open Go.Proofs.Ytpnmepobdnclkaa.Calls87 (ib)
open Go.Proofs.Ytpnmepobdnclkaa.Calls90 (InM)
open Go.Proofs.Ytpnmepobdnclkaa.Calls58 (mul_bd below_set)
open Go.Proofs.Ytpnmepobdnclkaa.Calls59 (own1_made)
open Go.Proofs.Ytpnmepobdnclkaa.Calls62 (RetE)

/-- What is written, up to k. -/
def fz (f : Nat → Int) (k j : Nat) : Int := if j < k then f j else 0

theorem fz_zero (f : Nat → Int) : fz f 0 = fun _ => 0 := by funext j; unfold fz; rw [if_neg (by omega)]
theorem fz_at {f : Nat → Int} {k j : Nat} (h : j < k) : fz f k j = f j := if_pos h
theorem fz_off {f : Nat → Int} {k j : Nat} (h : k ≤ j) : fz f k j = 0 := if_neg (by omega)
theorem fz_next (f : Nat → Int) (k : Nat) : up1 (fz f k) k (f k) = fz f (k + 1) := by
  funext j
  unfold up1 fz
  by_cases e : j = k
  · rw [if_pos e, if_pos (by omega), e]
  · rw [if_neg e]
    by_cases h : j < k
    · rw [if_pos h, if_pos (by omega)]
    · rw [if_neg h, if_neg (by omega)]
theorem fz_done (f : Nat → Int) (n : Nat) : mk n (fz f n) = mk n f := mk_congr fun j hj => fz_at hj

theorem wrap_in (x : Int) (h1 : -9223372036854775808 ≤ x) (h2 : x ≤ 9223372036854775807) : IntKind.i64.wrap x = x := by
  rw [IntKind.wrap_i64]; omega

theorem alloc_b (w : World) (o : Obj) : Below w.heap.size w (w.alloc o) := (Below.refl _ _).alloc (Nat.le_refl _) o

/-- A gate's box, as it is made. -/
theorem box_new (wr : World) (a b c d : Value) (t : TypeId) : (wr.alloc (.cells #[a, b, c, d] t)).cell? ⟨wr.heap.size, 0, none⟩ = some a ∧ (wr.alloc (.cells #[a, b, c, d] t)).cell? ⟨wr.heap.size, 1, none⟩ = some b ∧ (wr.alloc (.cells #[a, b, c, d] t)).cell? ⟨wr.heap.size, 2, none⟩ = some c ∧ (wr.alloc (.cells #[a, b, c, d] t)).cell? ⟨wr.heap.size, 3, none⟩ = some d := by
  have h := BoxC.new wr t #[a, b, c, d]
  exact ⟨h.cell 0, h.cell 1, h.cell 2, h.cell 3⟩

theorem Clear_bad (p : Int) (go lo : Option Addr) (n cg cl : Nat) (F : Nat → Nat → Int) (l : List Int) (c : Int) (hc : GC p n F l c) (h0 : c ≠ 0) (w : World) (hrow : IRow w lo l) (hg : GRow w go 4 n F) :
    Calls Try.prog 12 #[.int .i64 p, .slice go n cg, .slice lo l.length cl] w fun e w' => e = .returned (.tuple #[.slice none 0 0, .int .i64 c]) ∧ Below w.heap.size w w' := by
  have cC := check_any p go lo n cg cl F l c hc w hrow hg
  have h1 : (c != 0) = true := by simpa using h0
  have h2 : (c == 0) = false := by simpa using h0
  generalize l.length = nl at *
  clear hc hrow hg
  go_enter Try.func12, Try.ntmps12
  go_wp2_with (go_at_call 25; refine cC.mono ?_; rintro e w1 ⟨rfl, hB⟩)
  go_ret2
  exact ⟨rfl, hB⟩

/-- The values, one by one. -/
theorem clr_is {P : Nat} {l : List Int} {F : Nat → Nat → Int} {n k : Nat} (hk : k < n) : co (clr P l F n) k = vst P l F (clr P l F k) k := by
  have h := clr_keep (P := P) (l := l) (F := F) (k := k + 1) (i := k) (by omega) (n - (k + 1))
  rw [show k + 1 + (n - (k + 1)) = n by omega] at h
  rw [h, clr_at]

theorem clr_old {P : Nat} {l : List Int} {F : Nat → Nat → Int} {n k a : Nat} (hk : k ≤ n) (ha : a < k) : co (clr P l F k) a = co (clr P l F n) a := by
  have h := clr_keep (P := P) (l := l) (F := F) (k := k) (i := a) ha (n - k)
  rw [show k + (n - k) = n by omega] at h
  exact h.symm

set_option maxRecDepth 100000 in
set_option maxHeartbeats 2000000 in
theorem Clear_yes (P : Nat) (hP : 2 ≤ P) (hP2 : P ≤ 251) (go lo : Option Addr) (n cg cl : Nat) (F : Nat → Nat → Int) (l : List Int) (hG0 : GC (P : Int) n F l 0) (w : World) (hrow : IRow w lo l) (hg : GRow w go 4 n F) :
    Calls Try.prog 12 #[.int .i64 (P : Int), .slice go n cg, .slice lo l.length cl] w fun e w' => RetE (clr P l F n) e w' ∧ Below w.heap.size w w' := by
  obtain ⟨i0, hi, hz0, hz1, hz2⟩ := info_ex
  have cC := check_any (P : Int) go lo n cg cl F l 0 hG0 w hrow hg
  obtain ⟨_, hn, hl, hI, hG⟩ := hG0.ok
  obtain ⟨N, hN⟩ : ∃ N, N = l.length := ⟨_, rfl⟩
  have HN : Hid (N = l.length) := hN
  have HR := hid hrow
  have HG := hid hg
  have HK := hid hG
  obtain ⟨f, hf⟩ : ∃ f, f = co (clr P l F n) := ⟨_, rfl⟩
  have HBd : Hid (∀ i, i < n → 0 ≤ f i ∧ f i < (P : Int)) := by rw [hf]; exact clr_bd (by omega) hI hG
  have HV1 : Hid (∀ k a, k < n → F k 0 = 1 → F k 1 = ((a : Nat) : Int) → f k = co l a) := fun k a hk e ha => by rw [hf, clr_is hk, vst_in e ha]
  have HV2 : Hid (∀ k, k < n → F k 0 = 2 → f k = F k 3) := fun k hk e => by rw [hf, clr_is hk, vst_co e]
  have HV3 : Hid (∀ k a b, k < n → F k 0 = 3 → F k 1 = ((a : Nat) : Int) → F k 2 = ((b : Nat) : Int) → a < k → b < k → f k = (f a + f b) % (P : Int)) := fun k a b hk e ha hb hak hbk => by
    rw [hf, clr_is hk, vst_add e ha hb, clr_old (Nat.le_of_lt hk) hak, clr_old (Nat.le_of_lt hk) hbk]
  have HV4 : Hid (∀ k a b, k < n → F k 0 = 4 → F k 1 = ((a : Nat) : Int) → F k 2 = ((b : Nat) : Int) → a < k → b < k → f k = f a * f b % (P : Int)) := fun k a b hk e ha hb hak hbk => by
    rw [hf, clr_is hk, vst_mul e ha hb, clr_old (Nat.le_of_lt hk) hak, clr_old (Nat.le_of_lt hk) hbk]
  have hdone : Hid (mk n f = clr P l F n) := by
    show _ = _
    have h1 := clr_length P l F n
    rw [hf]
    have h2 := mk_of (clr P l F n)
    rwa [h1] at h2
  have hlen : Hid ((clr P l F n).length = n) := clr_length _ _ _ _
  have hp0 : ¬ (P : Int) = 0 := by omega
  rw [← hN] at hl cC ⊢
  clear hN hrow hg hG hI hG0 hf
  go_enter Try.func12, Try.ntmps12
  go_wp2_with (first
    | (go_at_call 25; refine cC.mono ?_; rintro e w0 ⟨rfl, hB0⟩; have HB0 := hid hB0; clear hB0)
    | (at_make; refine wpList_make_full _ rfl _ _ 22 rfl w0.heap.size 2 i0 (.int .i64 0) 1 Try.underlying22 hi hz0 hz1 .i64 .i64 (n : Int) (n : Int) n rfl rfl rfl rfl (by rw [hz2]; omega) (by unfold maxLen; omega) (Nat.le_refl _) ?_; intro w1 hown1 hgrow1; have hB1 : Hid (Below w0.heap.size w0 w1) := (Below.refl _ w0).grown hgrow1 (Nat.le_refl _) (fun j e => by cases e); have O1 := hid (own1_made hown1); have hB12 := hid (below_trans HB0.out hB1.out); clear hown1 hgrow1))
  obtain ⟨g, hg⟩ : ∃ g, g = w0.heap.size := ⟨_, rfl⟩
  have HGs := hid (HB0.out.size)
  have O2 : Hid (Own1 w1 w0.heap.size g n n (fz f 0)) := by rw [hg, fz_zero]; exact O1.out
  rw [← hg]
  clear hi hz0 hz1 hz2 O1 hB1 hg
  go_loopw [24] (fun i wr => ∃ k : Nat, i = .int .i64 (k : Int) ∧ k ≤ n ∧ Hid (Own1 wr w0.heap.size g n n (fz f k)) ∧ Hid (Below w.heap.size w wr)) (fun i wr => ((n : Int) - intOf i).toNat)
  case atStart => exact ⟨0, rfl, by omega, O2, hB12⟩
  case round =>
    obtain ⟨k, rfl, hk, hO, hB⟩ := hrel
    by_cases hgo : k < n
    · have hgo' : (k : Int) < (n : Int) := by omega
      rcases go with _ | ad
      · exact (grow_none HG.out hgo).elim
      · obtain ⟨c0, c1, c2, c3⟩ := gcell (gb HG.out hB.out) hgo
        have hwg : Hid (w.heap.size ≤ g) := Nat.le_trans HGs.out hO.out.lt.1
        have hBx : Hid (∀ o, Below w.heap.size w (wr.alloc o)) := fun o => al hB.out o
        have HOx : Hid (∀ o, Own1 (wr.alloc o) w0.heap.size g n n (fz f k)) := fun o => hO.out.below (alloc_b wr o)
        have HOs : Hid (∀ o z, f k = z → Own1 ((wr.alloc o).setCell ⟨g, k, none⟩ (.int .i64 z)) w0.heap.size g n n (fz f (k + 1))) := fun o z e => ((HOx.out o).set k z).congr (by rw [← e]; exact fz_next f k)
        have HBs : Hid (∀ o z, Below w.heap.size w ((wr.alloc o).setCell ⟨g, k, none⟩ (.int .i64 z))) := fun o z => below_set (hBx.out o) hwg.out k _
        have hBk := hid (HBd.out)
        rcases HK.out k hgo with ⟨e, a, ha, hal⟩ | ⟨e, h2⟩ | ⟨e, a, b, ha, hb, hak, hbk⟩ | ⟨e, a, b, ha, hb, hak, hbk⟩
        · have hv := hid (HV1.out k a hgo e ha)
          rw [e] at c0
          rw [ha] at c1
          rcases lo with _ | ad2
          · exact (irow_none HR.out hal).elim
          · have d0 := (ib HR.out (hBx.out (.cells #[.int .i64 1, .int .i64 (a : Int), .int .i64 (F k 2), .int .i64 (F k 3)] 54))).2 ad2 rfl a hal
            have d1 := (HOx.out (.cells #[.int .i64 1, .int .i64 (a : Int), .int .i64 (F k 2), .int .i64 (F k 3)] 54)).cell hgo
            have d2 := (HOx.out (.cells #[.int .i64 1, .int .i64 (a : Int), .int .i64 (F k 2), .int .i64 (F k 3)] 54)).frozen k
            have haN : a < N := by have := HN.out; omega
            have hai : (a : Int) < (N : Int) := by omega
            have hO3 := hid (HOs.out (.cells #[.int .i64 1, .int .i64 (a : Int), .int .i64 (F k 2), .int .i64 (F k 3)] 54) _ hv.out)
            have hB3 := hid (HBs.out (.cells #[.int .i64 1, .int .i64 (a : Int), .int .i64 (F k 2), .int .i64 (F k 3)] 54) (co l a))
            clear hv e ha hal HBd hBk HOs HBs HOx hBx
            generalize co l a = z at *
            generalize F k 2 = b at *
            generalize F k 3 = y at *
            go_wp2
            go_roundw
            case rel => exact ⟨k + 1, by simp, by omega, hO3, hB3⟩
            case measure => exact measK hgo
        · have hv := hid (HV2.out k hgo e)
          rw [e] at c0
          have d1 := (HOx.out (.cells #[.int .i64 2, .int .i64 (F k 1), .int .i64 (F k 2), .int .i64 (F k 3)] 54)).cell hgo
          have d2 := (HOx.out (.cells #[.int .i64 2, .int .i64 (F k 1), .int .i64 (F k 2), .int .i64 (F k 3)] 54)).frozen k
          have hO3 := hid (HOs.out (.cells #[.int .i64 2, .int .i64 (F k 1), .int .i64 (F k 2), .int .i64 (F k 3)] 54) _ hv.out)
          have hB3 := hid (HBs.out (.cells #[.int .i64 2, .int .i64 (F k 1), .int .i64 (F k 2), .int .i64 (F k 3)] 54) (F k 3))
          clear hv e h2 HBd hBk HOs HBs HOx hBx
          generalize F k 1 = a at *
          generalize F k 2 = b at *
          generalize F k 3 = z at *
          go_wp2
          go_roundw
          case rel => exact ⟨k + 1, by simp, by omega, hO3, hB3⟩
          case measure => exact measK hgo
        · have hv := hid (HV3.out k a b hgo e ha hb hak hbk)
          rw [e] at c0
          rw [ha] at c1
          rw [hb] at c2
          obtain ⟨ba1, ba2⟩ := hBk.out a (by omega)
          obtain ⟨bb1, bb2⟩ := hBk.out b (by omega)
          obtain ⟨x0, x1, x2, x3⟩ := box_new wr (.int .i64 3) (.int .i64 (a : Int)) (.int .i64 (b : Int)) (.int .i64 (F k 3)) 54
          have d1 := (HOx.out (.cells #[.int .i64 3, .int .i64 (a : Int), .int .i64 (b : Int), .int .i64 (F k 3)] 54)).cell hgo
          have d2 := (HOx.out (.cells #[.int .i64 3, .int .i64 (a : Int), .int .i64 (b : Int), .int .i64 (F k 3)] 54)).frozen k
          have d3 := (HOx.out (.cells #[.int .i64 3, .int .i64 (a : Int), .int .i64 (b : Int), .int .i64 (F k 3)] 54)).cell (show a < n by omega)
          have d4 := (HOx.out (.cells #[.int .i64 3, .int .i64 (a : Int), .int .i64 (b : Int), .int .i64 (F k 3)] 54)).cell (show b < n by omega)
          rw [fz_at hak] at d3
          rw [fz_at hbk] at d4
          have hai : (a : Int) < (n : Int) := by omega
          have hbi : (b : Int) < (n : Int) := by omega
          have hO3 := hid (HOs.out (.cells #[.int .i64 3, .int .i64 (a : Int), .int .i64 (b : Int), .int .i64 (F k 3)] 54) _ hv.out)
          have hB3 := hid (HBs.out (.cells #[.int .i64 3, .int .i64 (a : Int), .int .i64 (b : Int), .int .i64 (F k 3)] 54) ((f a + f b) % (P : Int)))
          clear hv e ha hb HBd hBk HOs HBs HOx hBx
          generalize fz f k k = u at *
          generalize f a = z1 at *
          generalize f b = z2 at *
          generalize F k 3 = y at *
          have r1 : IntKind.i64.wrap (z1 + z2) = z1 + z2 := wrap_in _ (by omega) (by omega)
          have r2 : (0 : Int) ≤ z1 + z2 := by omega
          go_wp2
          go_region
          all_goals
            go_wp2
            go_roundw
            case rel => exact ⟨k + 1, by simp, by omega, hO3, hB3.out.drew⟩
            case measure => exact measK hgo
        · have hv := hid (HV4.out k a b hgo e ha hb hak hbk)
          rw [e] at c0
          rw [ha] at c1
          rw [hb] at c2
          have hm := mul_bd (hBk.out a (by omega)) (hBk.out b (by omega)) hP2
          obtain ⟨x0, x1, x2, x3⟩ := box_new wr (.int .i64 4) (.int .i64 (a : Int)) (.int .i64 (b : Int)) (.int .i64 (F k 3)) 54
          have d1 := (HOx.out (.cells #[.int .i64 4, .int .i64 (a : Int), .int .i64 (b : Int), .int .i64 (F k 3)] 54)).cell hgo
          have d2 := (HOx.out (.cells #[.int .i64 4, .int .i64 (a : Int), .int .i64 (b : Int), .int .i64 (F k 3)] 54)).frozen k
          have d3 := (HOx.out (.cells #[.int .i64 4, .int .i64 (a : Int), .int .i64 (b : Int), .int .i64 (F k 3)] 54)).cell (show a < n by omega)
          have d4 := (HOx.out (.cells #[.int .i64 4, .int .i64 (a : Int), .int .i64 (b : Int), .int .i64 (F k 3)] 54)).cell (show b < n by omega)
          rw [fz_at hak] at d3
          rw [fz_at hbk] at d4
          have hai : (a : Int) < (n : Int) := by omega
          have hbi : (b : Int) < (n : Int) := by omega
          have hO3 := hid (HOs.out (.cells #[.int .i64 4, .int .i64 (a : Int), .int .i64 (b : Int), .int .i64 (F k 3)] 54) _ hv.out)
          have hB3 := hid (HBs.out (.cells #[.int .i64 4, .int .i64 (a : Int), .int .i64 (b : Int), .int .i64 (F k 3)] 54) (f a * f b % (P : Int)))
          clear hv e ha hb HBd hBk HOs HBs HOx hBx
          generalize fz f k k = u at *
          generalize f a = z1 at *
          generalize f b = z2 at *
          generalize F k 3 = y at *
          have r1 : IntKind.i64.wrap (z1 * z2) = z1 * z2 := wrap_in _ (by omega) (by omega)
          have r2 : (0 : Int) ≤ z1 * z2 := hm.1
          go_wp2
          go_region
          all_goals
            go_wp2
            go_roundw
            case rel => exact ⟨k + 1, by simp, by omega, hO3, hB3.out.drew⟩
            case measure => exact measK hgo
    · have hgo' : ¬ (k : Int) < (n : Int) := by omega
      obtain rfl : k = n := by omega
      have hrow := hid hO.out.row
      rw [fz_done, hdone.out] at hrow
      go_wp2
      go_ret2
      exact ⟨⟨some ⟨g, 0, none⟩, k, by rw [hlen.out]; rfl, by rw [hlen.out]; exact Nat.le_refl _, hrow.out⟩, hB.out⟩

end Go.Proofs.Ytpnmepobdnclkaa.Calls183
