/-
  Package field: what is wrong with a field and with elements of it.
-/
import Derived.Test.YtjpmkcijkcnfiaaCalls81
import Derived.Test.YtjpmkcijkcnfiaaCalls60
import Derived.Deep.RegionHeld3
import Derived.Deep.RegionWith
namespace Go.Proofs.Ytjpmkcijkcnfiaa.Calls82
set_option linter.unusedVariables false
open Go.ChangeShapes Go.WideShapes Go.ChangeAt Go.RowKit Go.Deep Go.Proofs.Ytjpmkcijkcnfiaa.Base Go.Proofs.Ytjpmkcijkcnfiaa.Base2 Go.Proofs.Ytjpmkcijkcnfiaa.Num Go.Proofs.Ytjpmkcijkcnfiaa.Num16 Go.Proofs.Ytjpmkcijkcnfiaa.Num17 Go.Proofs.Ytjpmkcijkcnfiaa.Num21 Go.Proofs.Ytjpmkcijkcnfiaa.Num23 Go.Proofs.Ytjpmkcijkcnfiaa.Num34 Go.Proofs.Ytjpmkcijkcnfiaa.Num35 Go.Proofs.Ytjpmkcijkcnfiaa.Num36 Go.Proofs.Ytjpmkcijkcnfiaa.Num37 Go.Proofs.Ytjpmkcijkcnfiaa.Num38 Go.Proofs.Ytjpmkcijkcnfiaa.Base4 Go.Proofs.Ytjpmkcijkcnfiaa.Calls56 Go.Proofs.Ytjpmkcijkcnfiaa.Calls57 Go.Proofs.Ytjpmkcijkcnfiaa.Calls58 Go.Proofs.Ytjpmkcijkcnfiaa.Calls61 Go.Proofs.Ytjpmkcijkcnfiaa.Calls75 Go.Proofs.Ytjpmkcijkcnfiaa.Calls77 Go.Proofs.Ytjpmkcijkcnfiaa.Calls78 Go.Proofs.Ytjpmkcijkcnfiaa.Calls76 Go.Proofs.Ytjpmkcijkcnfiaa.Calls79 Go.Proofs.Ytjpmkcijkcnfiaa.Calls62 Go.Proofs.Ytjpmkcijkcnfiaa.Calls80 Go.Proofs.Ytjpmkcijkcnfiaa.Calls81
open Go.Proofs.Ytjpmkcijkcnfiaa.Num13 (rs rs_cast)
open Go.Proofs.Ytjpmkcijkcnfiaa.Calls60 (wrap_in)
open Go.Proofs.Ytjpmkcijkcnfiaa.Num20 (pw)
open Go.Proofs.Ytjpmkcijkcnfiaa.Num22 (El MulR)

theorem box_set3 {W : World} {B : Nat} {t : TypeId} {a b c : Value} (h : BoxC W B t #[a, b, c]) (a' b' c' : Value) : BoxC (((W.setCell ⟨B, 0, none⟩ a').setCell ⟨B, 1, none⟩ b').setCell ⟨B, 2, none⟩ c') B t #[a', b', c'] := by
  have := ((h.set 0 a').set 1 b').set 2 c'
  simpa using this

/-- All are elements. -/
def InE (S : Nat) (l : List Int) : Prop := ∀ a ∈ l, 0 ≤ a ∧ a < (S : Int)

/-- The code of a field and elements. -/
def EC (p : Int) (f l : List Int) (c : Int) : Prop := (FC p f c ∧ c ≠ 0) ∨ (FC p f 0 ∧ ((¬ InE (p.toNat ^ (f.length - 1)) l ∧ c = 2) ∨ (InE (p.toNat ^ (f.length - 1)) l ∧ c = 0)))

theorem ec_ex (p : Int) (f l : List Int) : ∃ c, EC p f l c := by
  obtain ⟨c, hc⟩ := fc_ex p f
  by_cases h0 : c = 0
  · subst h0
    rcases Classical.em (InE (p.toNat ^ (f.length - 1)) l) with h | h
    · exact ⟨0, .inr ⟨hc, .inr ⟨h, rfl⟩⟩⟩
    · exact ⟨2, .inr ⟨hc, .inl ⟨h, rfl⟩⟩⟩
  · exact ⟨c, .inl ⟨hc, h0⟩⟩

theorem EC.ok {p : Int} {f l : List Int} (h : EC p f l 0) : ∃ P : Nat, p = (P : Int) ∧ Fld P f ∧ InE (P ^ (f.length - 1)) l := by
  rcases h with ⟨_, h⟩ | ⟨h1, ⟨_, h⟩ | ⟨h2, _⟩⟩
  · exact absurd rfl h
  · cases h
  · obtain ⟨P, rfl, hf⟩ := h1.ok
    rw [Int.toNat_natCast] at h2
    exact ⟨P, rfl, hf, h2⟩

theorem EC.of {P : Nat} {f l : List Int} (h : Fld P f) (hl : InE (P ^ (f.length - 1)) l) : EC (P : Int) f l 0 :=
  .inr ⟨FC.of h, .inr ⟨by rw [Int.toNat_natCast]; exact hl, rfl⟩⟩

set_option maxRecDepth 100000 in
theorem open_check (p : Int) (fo eo : Option Addr) (cf ce : Nat) (f l : List Int) (hm : f.length ≤ 9223372036854775807) (c : Int) (hc : PC p f c) (h0 : c ≠ 0) (w : World) (rf : IRow w fo f) :
    Calls Try.prog 21 #[.int .i64 p, .slice fo f.length cf, .slice eo l.length ce] w fun e w' => e = .returned (.tuple #[.agg #[.int .i64 0, .slice none 0 0, .int .i64 0], .int .i64 c]) ∧ Below w.heap.size w w' := by
  have hR0 : Hid (BoxC (w.alloc (.cells #[.int .i64 0, .slice none 0 0, .int .i64 0] 40)) w.heap.size 40 #[.int .i64 0, .slice none 0 0, .int .i64 0]) := BoxC.new _ _ _
  have hBw : Hid (Below w.heap.size w (w.alloc (.cells #[.int .i64 0, .slice none 0 0, .int .i64 0] 40))) := (Below.refl _ w).alloc (Nat.le_refl _) _
  have hltR : w.heap.size < (w.alloc (.cells #[.int .i64 0, .slice none 0 0, .int .i64 0] 40)).heap.size := by simp
  have cC := Check_any p fo cf f hm c hc _ (irow_below rf hBw.out (Nat.le_refl _))
  have h1 : (c != 0) = true := by simpa using h0
  have h2 : (c == 0) = false := by simpa using h0
  generalize f.length = n at *
  generalize l.length = nl at *
  clear hc rf
  go_enter Try.func21, Try.ntmps21
  go_wp2_with (go_at_call 35; refine cC.mono ?_; rintro e w1 ⟨rfl, hB1⟩; have bA := hid (BoxC.below hR0.out hB1 hltR); have a0 := bA.out.cell 0; have a1 := bA.out.cell 1; have a2 := bA.out.cell 2; have f0 := bA.out.frozen 0; have f1 := bA.out.frozen 1; have f2 := bA.out.frozen 2; simp at a0 a1 a2; have b1 := hid (box_set3 bA.out (.int .i64 0) (.slice none 0 0) (.int .i64 0)); have r0 := b1.out.cell 0; have r1 := b1.out.cell 1; have r2 := b1.out.cell 2; simp at r0 r1 r2)
  exact bodyPost_ret (v := .tuple #[.agg #[.int .i64 0, .slice none 0 0, .int .i64 0], .int .i64 c]) (by simp [results, Try.results21, go_sem, r0, r1, r2]) rfl ⟨rfl, ((below_trans hBw.out hB1).setCell (by simp) _).setCell (by simp) _ |>.setCell (by simp) _⟩

set_option maxRecDepth 100000 in
theorem open_form (P : Nat) (hP : Pr P) (hP2 : P ≤ 251) (fo eo : Option Addr) (cf ce : Nat) (f l : List Int) (hfl : f.length ≤ 13) (hf : Cn P f) (h3 : ¬ Mn f) (w : World) (rf : IRow w fo f) :
    Calls Try.prog 21 #[.int .i64 (P : Int), .slice fo f.length cf, .slice eo l.length ce] w fun e w' => e = .returned (.tuple #[.agg #[.int .i64 0, .slice none 0 0, .int .i64 0], .int .i64 3]) ∧ Below w.heap.size w w' := by
  have hR0 : Hid (BoxC (w.alloc (.cells #[.int .i64 0, .slice none 0 0, .int .i64 0] 40)) w.heap.size 40 #[.int .i64 0, .slice none 0 0, .int .i64 0]) := BoxC.new _ _ _
  have hBw : Hid (Below w.heap.size w (w.alloc (.cells #[.int .i64 0, .slice none 0 0, .int .i64 0] 40))) := (Below.refl _ w).alloc (Nat.le_refl _) _
  have hltR : w.heap.size < (w.alloc (.cells #[.int .i64 0, .slice none 0 0, .int .i64 0] 40)).heap.size := by simp
  have RF := irow_below rf hBw.out (Nat.le_refl _)
  have cC := Check_any (P : Int) fo cf f (by omega) 0 (PC.of hP hP2 hfl hf) _ RF
  generalize l.length = nl at *
  by_cases hl : f.length < 2
  · have hl' : (f.length : Int) < 2 := by omega
    generalize f.length = n at *
    clear rf RF hf hl h3
    go_enter Try.func21, Try.ntmps21
    go_wp2_with (go_at_call 35; refine cC.mono ?_; rintro e w1 ⟨rfl, hB1⟩; have bA := hid (BoxC.below hR0.out hB1 hltR); have a0 := bA.out.cell 0; have a1 := bA.out.cell 1; have a2 := bA.out.cell 2; have f0 := bA.out.frozen 0; have f1 := bA.out.frozen 1; have f2 := bA.out.frozen 2; simp at a0 a1 a2; have b1 := hid (box_set3 bA.out (.int .i64 0) (.slice none 0 0) (.int .i64 0)); have r0 := b1.out.cell 0; have r1 := b1.out.cell 1; have r2 := b1.out.cell 2; simp at r0 r1 r2)
    exact bodyPost_ret (v := .tuple #[.agg #[.int .i64 0, .slice none 0 0, .int .i64 0], .int .i64 3]) (by simp [results, Try.results21, go_sem, r0, r1, r2]) rfl ⟨rfl, ((below_trans hBw.out hB1).setCell (by simp) _).setCell (by simp) _ |>.setCell (by simp) _⟩
  · have ht : ¬ co f (f.length - 1) = 1 := fun h => h3 ⟨by omega, h⟩
    rcases fo with _ | ad
    · exact (irow_none rf (j := 0) (by omega)).elim
    have HC := fun w1 (hB : Below (w.alloc (.cells #[.int .i64 0, .slice none 0 0, .int .i64 0] 40)).heap.size (w.alloc (.cells #[.int .i64 0, .slice none 0 0, .int .i64 0] 40)) w1) => (irow_below RF hB (Nat.le_refl _)).2 ad rfl (f.length - 1) (by omega)
    obtain ⟨m, hm2⟩ : ∃ m, f.length = m + 1 := ⟨f.length - 1, by omega⟩
    generalize co f (f.length - 1) = x at *
    simp only [hm2, Nat.add_sub_cancel] at *
    have hx : (x != 1) = true := by simpa using ht
    have hx2 : (x == 1) = false := by simpa using ht
    have hl' : decide ((m : Int) + 1 < 2) = false := by simp; omega
    clear rf RF hf h3
    go_enter Try.func21, Try.ntmps21
    go_wp2_with (go_at_call 35; refine cC.mono ?_; rintro e w1 ⟨rfl, hB1⟩; have cc := HC w1 hB1; have bA := hid (BoxC.below hR0.out hB1 hltR); have a0 := bA.out.cell 0; have a1 := bA.out.cell 1; have a2 := bA.out.cell 2; have f0 := bA.out.frozen 0; have f1 := bA.out.frozen 1; have f2 := bA.out.frozen 2; simp at a0 a1 a2; have b1 := hid (box_set3 bA.out (.int .i64 0) (.slice none 0 0) (.int .i64 0)); have r0 := b1.out.cell 0; have r1 := b1.out.cell 1; have r2 := b1.out.cell 2; simp at r0 r1 r2)
    exact bodyPost_ret (v := .tuple #[.agg #[.int .i64 0, .slice none 0 0, .int .i64 0], .int .i64 3]) (by simp [results, Try.results21, go_sem, r0, r1, r2]) rfl ⟨rfl, ((below_trans hBw.out hB1).setCell (by simp) _).setCell (by simp) _ |>.setCell (by simp) _⟩

theorem mn_parts {f : List Int} (h : Mn f) (ad : Addr) {W : World} (rf : IRow W (some ad) f) : ∃ m, f.length = m + 1 ∧ 1 ≤ m ∧ ∀ n W', Below n W W' → W.heap.size ≤ n → W'.cell? (ad.add m) = some (.int .i64 1) := by
  have h1 := h.1
  refine ⟨f.length - 1, by omega, by omega, fun n W' hB hn => ?_⟩
  have := (irow_below rf hB hn).2 ad rfl (f.length - 1) (by omega)
  rwa [h.2] at this

set_option maxRecDepth 100000 in
theorem open_large (P : Nat) (hP : Pr P) (hP2 : P ≤ 251) (fo eo : Option Addr) (cf ce : Nat) (f l : List Int) (hfl : f.length ≤ 13) (hf : Cn P f) (h3 : Mn f) (hs : ¬ P ^ (f.length - 1) ≤ 4096) (w : World) (rf : IRow w fo f) :
    Calls Try.prog 21 #[.int .i64 (P : Int), .slice fo f.length cf, .slice eo l.length ce] w fun e w' => e = .returned (.tuple #[.agg #[.int .i64 0, .slice none 0 0, .int .i64 0], .int .i64 1]) ∧ Below w.heap.size w w' := by
  have hR0 : Hid (BoxC (w.alloc (.cells #[.int .i64 0, .slice none 0 0, .int .i64 0] 40)) w.heap.size 40 #[.int .i64 0, .slice none 0 0, .int .i64 0]) := BoxC.new _ _ _
  have hBw : Hid (Below w.heap.size w (w.alloc (.cells #[.int .i64 0, .slice none 0 0, .int .i64 0] 40))) := (Below.refl _ w).alloc (Nat.le_refl _) _
  have hltR : w.heap.size < (w.alloc (.cells #[.int .i64 0, .slice none 0 0, .int .i64 0] 40)).heap.size := by simp
  have RF := irow_below rf hBw.out (Nat.le_refl _)
  have cC := Check_any (P : Int) fo cf f (by omega) 0 (PC.of hP hP2 hfl hf) _ RF
  generalize l.length = nl at *
  have h31 := h3.1
  rcases fo with _ | ad
  · exact (irow_none rf (j := 0) (by omega)).elim
  obtain ⟨m, hm2, hm1, HC⟩ := mn_parts h3 ad RF
  have cZ := fun w => sizeOf_any P hP.1 hP2 m (by omega) w
  have hbig : 4096 < szf P m := by
    rw [hm2, Nat.add_sub_cancel] at hs
    rcases szf_ok hP.1 m with ⟨h, _⟩ | ⟨_, h⟩
    · exact absurd h hs
    · exact h
  have hbd := (szf_bd (p := P) (by have := hP.1; omega) hP2 m).2
  generalize szf P m = z at *
  simp only [hm2] at *
  have hl' : decide ((m : Int) + 1 < 2) = false := by simp; omega
  have hbig' : (4096 : Int) < (z : Int) := by omega
  clear rf RF hf h3 hs
  go_enter Try.func21, Try.ntmps21
  go_wp2_with (first
    | (go_at_call 35; refine cC.mono ?_; rintro e w1 ⟨rfl, hB1⟩; have cc := HC _ w1 hB1 (Nat.le_refl _); have HB2 := hid (hB1.alloc hB1.size (fx P (some ad) (m + 1) cf z)); have bA := hid (BoxC.below hR0.out HB2.out hltR); have a0 := bA.out.cell 0; have a1 := bA.out.cell 1; have a2 := bA.out.cell 2; have f0 := bA.out.frozen 0; have f1 := bA.out.frozen 1; have f2 := bA.out.frozen 2; simp at a0 a1 a2; have b1 := hid (box_set3 bA.out (.int .i64 0) (.slice none 0 0) (.int .i64 0)); have r0 := b1.out.cell 0; have r1 := b1.out.cell 1; have r2 := b1.out.cell 2; simp at r0 r1 r2)
    | (go_at_call 36; refine (cZ _).mono ?_; rintro e w2 ⟨rfl, hw⟩; subst w2))
  exact bodyPost_ret (v := .tuple #[.agg #[.int .i64 0, .slice none 0 0, .int .i64 0], .int .i64 1]) (by simp [results, Try.results21, go_sem, r0, r1, r2]) rfl ⟨rfl, ((hBw.out.trans (HB2.out.mono (by simp))).setCell (by simp) _).setCell (by simp) _ |>.setCell (by simp) _⟩

set_option maxRecDepth 100000 in
theorem open_prod (P : Nat) (hP : Pr P) (hP2 : P ≤ 251) (fo eo : Option Addr) (cf ce : Nat) (f l : List Int) (hfl : f.length ≤ 13) (hf : Cn P f) (h3 : Mn f) (hs : P ^ (f.length - 1) ≤ 4096) (hI : ¬ Irr P f) (w : World) (rf : IRow w fo f) :
    Calls Try.prog 21 #[.int .i64 (P : Int), .slice fo f.length cf, .slice eo l.length ce] w fun e w' => e = .returned (.tuple #[.agg #[.int .i64 0, .slice none 0 0, .int .i64 0], .int .i64 4]) ∧ Below w.heap.size w w' := by
  have hR0 : Hid (BoxC (w.alloc (.cells #[.int .i64 0, .slice none 0 0, .int .i64 0] 40)) w.heap.size 40 #[.int .i64 0, .slice none 0 0, .int .i64 0]) := BoxC.new _ _ _
  have hBw : Hid (Below w.heap.size w (w.alloc (.cells #[.int .i64 0, .slice none 0 0, .int .i64 0] 40))) := (Below.refl _ w).alloc (Nat.le_refl _) _
  have hltR : w.heap.size < (w.alloc (.cells #[.int .i64 0, .slice none 0 0, .int .i64 0] 40)).heap.size := by simp
  have RF := irow_below rf hBw.out (Nat.le_refl _)
  have cC := Check_any (P : Int) fo cf f (by omega) 0 (PC.of hP hP2 hfl hf) _ RF
  generalize l.length = nl at *
  have h31 := h3.1
  rcases fo with _ | ad
  · exact (irow_none rf (j := 0) (by omega)).elim
  obtain ⟨m, hm2, hm1, HC⟩ := mn_parts h3 ad RF
  have cZ := fun w => sizeOf_any P hP.1 hP2 m (by omega) w
  rw [hm2, Nat.add_sub_cancel] at hs
  have hz : szf P m = P ^ m := by
    rcases szf_ok hP.1 m with ⟨_, h⟩ | ⟨h, _⟩
    · exact h
    · omega
  have cI := fun w1 (hB : Below (w.alloc (.cells #[.int .i64 0, .slice none 0 0, .int .i64 0] 40)).heap.size (w.alloc (.cells #[.int .i64 0, .slice none 0 0, .int .i64 0] 40)) w1) => isProduct_any P hP hP2 (some ad) cf (P ^ m) f hf h31 hfl (by rw [hm2, Nat.add_sub_cancel]) hs true ⟨fun _ => hI, fun _ => rfl⟩ w1 (irow_below RF hB (Nat.le_refl _))
  simp only [hz] at cZ
  generalize P ^ m = z at *
  simp only [hm2] at *
  have hl' : decide ((m : Int) + 1 < 2) = false := by simp; omega
  have hbig' : decide ((4096 : Int) < (z : Int)) = false := by simp; omega
  clear rf RF hf h3 hz hI
  go_enter Try.func21, Try.ntmps21
  go_wp2_with (first
    | (go_at_call 35; refine cC.mono ?_; rintro e w1 ⟨rfl, hB1⟩; have cc := HC _ w1 hB1 (Nat.le_refl _); have HB2 := hid (hB1.alloc hB1.size (fx P (some ad) (m + 1) cf z)))
    | (go_at_call 36; refine (cZ _).mono ?_; rintro e w2 ⟨rfl, hw⟩; subst w2)
    | (go_at_call 37; refine (cI _ HB2.out).mono ?_; rintro e w3 ⟨rfl, hB3⟩; have HB3 := hid (below_trans HB2.out hB3); have bA := hid (BoxC.below hR0.out HB3.out hltR); have a0 := bA.out.cell 0; have a1 := bA.out.cell 1; have a2 := bA.out.cell 2; have f0 := bA.out.frozen 0; have f1 := bA.out.frozen 1; have f2 := bA.out.frozen 2; simp at a0 a1 a2; have b1 := hid (box_set3 bA.out (.int .i64 0) (.slice none 0 0) (.int .i64 0)); have r0 := b1.out.cell 0; have r1 := b1.out.cell 1; have r2 := b1.out.cell 2; simp at r0 r1 r2; clear hB3))
  exact bodyPost_ret (v := .tuple #[.agg #[.int .i64 0, .slice none 0 0, .int .i64 0], .int .i64 4]) (by simp [results, Try.results21, go_sem, r0, r1, r2]) rfl ⟨rfl, ((below_trans hBw.out HB3.out).setCell (by simp) _).setCell (by simp) _ |>.setCell (by simp) _⟩

set_option maxRecDepth 100000 in
theorem open_out (P : Nat) (f l : List Int) (hF : Fld P f) (hml : l.length ≤ 9223372036854775807) (hin : ¬ InE (P ^ (f.length - 1)) l) (fo eo : Option Addr) (cf ce : Nat) (w : World) (rf : IRow w fo f) (re : IRow w eo l) :
    Calls Try.prog 21 #[.int .i64 (P : Int), .slice fo f.length cf, .slice eo l.length ce] w fun e w' => e = .returned (.tuple #[.agg #[.int .i64 0, .slice none 0 0, .int .i64 0], .int .i64 2]) ∧ Below w.heap.size w w' := by
  have hR0 : Hid (BoxC (w.alloc (.cells #[.int .i64 0, .slice none 0 0, .int .i64 0] 40)) w.heap.size 40 #[.int .i64 0, .slice none 0 0, .int .i64 0]) := BoxC.new _ _ _
  have hBw : Hid (Below w.heap.size w (w.alloc (.cells #[.int .i64 0, .slice none 0 0, .int .i64 0] 40))) := (Below.refl _ w).alloc (Nat.le_refl _) _
  have hltR : w.heap.size < (w.alloc (.cells #[.int .i64 0, .slice none 0 0, .int .i64 0] 40)).heap.size := by simp
  have hP := hF.1
  have hP2 := hF.2.1
  have hf := hF.2.2.1
  have h31 := hF.2.2.2.1
  have hfl := hF.2.2.2.2.1
  have h3 : Mn f := ⟨h31, hF.2.2.2.2.2.1⟩
  have hs := hF.2.2.2.2.2.2.1
  have hI := hF.2.2.2.2.2.2.2
  have RF := irow_below rf hBw.out (Nat.le_refl _)
  have RE := irow_below re hBw.out (Nat.le_refl _)
  have cC := Check_any (P : Int) fo cf f (by omega) 0 (PC.of hP hP2 hfl hf) _ RF
  rcases fo with _ | ad
  · exact (irow_none rf (j := 0) (by omega)).elim
  obtain ⟨m, hm2, hm1, HC⟩ := mn_parts h3 ad RF
  have cZ := fun w => sizeOf_any P hP.1 hP2 m (by omega) w
  rw [hm2, Nat.add_sub_cancel] at hs
  have hz : szf P m = P ^ m := by
    rcases szf_ok hP.1 m with ⟨_, h⟩ | ⟨h, _⟩
    · exact h
    · omega
  have cI := fun w1 (hB : Below (w.alloc (.cells #[.int .i64 0, .slice none 0 0, .int .i64 0] 40)).heap.size (w.alloc (.cells #[.int .i64 0, .slice none 0 0, .int .i64 0] 40)) w1) => isProduct_any P hP hP2 (some ad) cf (P ^ m) f hf h31 hfl (by rw [hm2, Nat.add_sub_cancel]) hs false ⟨fun e => (by cases e), fun e => absurd hI e⟩ w1 (irow_below RF hB (Nat.le_refl _))
  simp only [hz] at cZ
  rw [hm2, Nat.add_sub_cancel] at hin
  have hPm : 1 ≤ P ^ m := Nat.pow_pos (by have := hP.1; omega)
  have hPm2 : f.length - 1 = m := by omega
  have hm12 : m ≤ 12 := by omega
  rw [hm2]
  simp only [hm2] at cC cI
  generalize P ^ m = z at *
  have hl' : decide ((m : Int) + 1 < 2) = false := by simp; omega
  have hbig' : decide ((4096 : Int) < (z : Int)) = false := by simp; omega
  obtain ⟨N, hN⟩ : ∃ N, N = l.length := ⟨_, rfl⟩
  have HN : Hid (N = l.length) := hN
  rw [← hN] at hml ⊢
  have HIN := hid hin
  have HRE := hid RE
  clear rf re RF RE hf h3 hz hI hF hm2 hPm2 h31 hfl hN hin
  go_enter Try.func21, Try.ntmps21
  go_wp2_with (first
    | (go_at_call 35; refine cC.mono ?_; rintro e w1 ⟨rfl, hB1⟩; have cc := HC _ w1 hB1 (Nat.le_refl _); have HB2 := hid (hB1.alloc hB1.size (fx P (some ad) (m + 1) cf z)); have hK2 := hid (Bf.new w1 P (some ad) (m + 1) cf z))
    | (go_at_call 36; refine (cZ _).mono ?_; rintro e w2 ⟨rfl, hw⟩; subst w2)
    | (go_at_call 37; refine (cI _ HB2.out).mono ?_; rintro e w3 ⟨rfl, hB3⟩; have HB3 := hid (below_trans HB2.out hB3); have hK3 := hid (hK2.out.up hB3); clear hB3))
  have k0 := hK3.out.c0
  have k1 := hK3.out.c1
  have k2 := hK3.out.c2
  go_loop [49] (fun i => ∃ k : Nat, i = .int .i64 (k : Int) ∧ k ≤ N ∧ Hid (∀ j, j < k → 0 ≤ co l j ∧ co l j < (z : Int))) (fun i => ((N : Int) - intOf i).toNat)
  case atStart => exact ⟨0, rfl, by omega, fun j hj => by omega⟩
  case round =>
    obtain ⟨k, rfl, hk, hJ⟩ := hrel
    by_cases hgo : k < N
    · have hgo' : (k : Int) < (N : Int) := by omega
      have hkl : Hid (k < l.length) := by have := HN.out; show k < l.length; omega
      rcases eo with _ | ed
      · exact (irow_none HRE.out hkl.out).elim
      have ce1 := (irow_below HRE.out HB3.out (Nat.le_refl _)).2 ed rfl k hkl.out
      have hJ2 : Hid ((0 ≤ co l k ∧ co l k < (z : Int)) → ∀ j, j < k + 1 → 0 ≤ co l j ∧ co l j < (z : Int)) := fun h j hj => by
        by_cases e : j = k
        · subst e; exact h
        · exact hJ.out j (by omega)
      generalize co l k = x at *
      have bA := hid (BoxC.below hR0.out HB3.out hltR); have a0 := bA.out.cell 0; have a1 := bA.out.cell 1; have a2 := bA.out.cell 2; have f0 := bA.out.frozen 0; have f1 := bA.out.frozen 1; have f2 := bA.out.frozen 2; simp at a0 a1 a2; have b1 := hid (box_set3 bA.out (.int .i64 0) (.slice none 0 0) (.int .i64 0)); have r0 := b1.out.cell 0; have r1 := b1.out.cell 1; have r2 := b1.out.cell 2; simp at r0 r1 r2
      by_cases h1 : x < 0
      · go_wp2
        exact bodyPost_ret (v := .tuple #[.agg #[.int .i64 0, .slice none 0 0, .int .i64 0], .int .i64 2]) (by simp [results, Try.results21, go_sem, r0, r1, r2]) rfl ⟨rfl, ((below_trans hBw.out HB3.out).setCell (by simp) _).setCell (by simp) _ |>.setCell (by simp) _⟩
      · have h1' : decide (x < 0) = false := by simpa using h1
        by_cases h2 : (z : Int) ≤ x
        · go_wp2
          exact bodyPost_ret (v := .tuple #[.agg #[.int .i64 0, .slice none 0 0, .int .i64 0], .int .i64 2]) (by simp [results, Try.results21, go_sem, r0, r1, r2]) rfl ⟨rfl, ((below_trans hBw.out HB3.out).setCell (by simp) _).setCell (by simp) _ |>.setCell (by simp) _⟩
        · have h2' : decide ((z : Int) ≤ x) = false := by simpa using h2
          have hJ3 := hid (hJ2.out ⟨by omega, by omega⟩)
          clear hJ2
          go_wp2
          go_round
          case rel => exact ⟨k + 1, by simp, by omega, hJ3⟩
          case measure => exact measK hgo
    · exact (HIN.out (fun a ha => by
        obtain ⟨j, hj, e⟩ := List.getElem_of_mem ha
        have := hJ.out j (by have := HN.out; omega)
        simpa [co, List.getD, hj, e] using this)).elim

set_option maxRecDepth 100000 in
theorem open_ok (P : Nat) (f l : List Int) (hF : Fld P f) (hml : l.length ≤ 9223372036854775807) (hin : InE (P ^ (f.length - 1)) l) (fo eo : Option Addr) (cf ce : Nat) (w : World) (rf : IRow w fo f) (re : IRow w eo l) :
    Calls Try.prog 21 #[.int .i64 (P : Int), .slice fo f.length cf, .slice eo l.length ce] w fun e w' => e = .returned (.tuple #[.agg #[.int .i64 (P : Int), .slice fo f.length cf, .int .i64 ((P ^ (f.length - 1) : Nat) : Int)], .int .i64 0]) ∧ Below w.heap.size w w' := by
  have hR0 : Hid (BoxC (w.alloc (.cells #[.int .i64 0, .slice none 0 0, .int .i64 0] 40)) w.heap.size 40 #[.int .i64 0, .slice none 0 0, .int .i64 0]) := BoxC.new _ _ _
  have hBw : Hid (Below w.heap.size w (w.alloc (.cells #[.int .i64 0, .slice none 0 0, .int .i64 0] 40))) := (Below.refl _ w).alloc (Nat.le_refl _) _
  have hltR : w.heap.size < (w.alloc (.cells #[.int .i64 0, .slice none 0 0, .int .i64 0] 40)).heap.size := by simp
  have hP := hF.1
  have hP2 := hF.2.1
  have hf := hF.2.2.1
  have h31 := hF.2.2.2.1
  have hfl := hF.2.2.2.2.1
  have h3 : Mn f := ⟨h31, hF.2.2.2.2.2.1⟩
  have hs := hF.2.2.2.2.2.2.1
  have hI := hF.2.2.2.2.2.2.2
  have RF := irow_below rf hBw.out (Nat.le_refl _)
  have RE := irow_below re hBw.out (Nat.le_refl _)
  have cC := Check_any (P : Int) fo cf f (by omega) 0 (PC.of hP hP2 hfl hf) _ RF
  rcases fo with _ | ad
  · exact (irow_none rf (j := 0) (by omega)).elim
  obtain ⟨m, hm2, hm1, HC⟩ := mn_parts h3 ad RF
  have cZ := fun w => sizeOf_any P hP.1 hP2 m (by omega) w
  rw [hm2, Nat.add_sub_cancel] at hs
  have hz : szf P m = P ^ m := by
    rcases szf_ok hP.1 m with ⟨_, h⟩ | ⟨h, _⟩
    · exact h
    · omega
  have cI := fun w1 (hB : Below (w.alloc (.cells #[.int .i64 0, .slice none 0 0, .int .i64 0] 40)).heap.size (w.alloc (.cells #[.int .i64 0, .slice none 0 0, .int .i64 0] 40)) w1) => isProduct_any P hP hP2 (some ad) cf (P ^ m) f hf h31 hfl (by rw [hm2, Nat.add_sub_cancel]) hs false ⟨fun e => (by cases e), fun e => absurd hI e⟩ w1 (irow_below RF hB (Nat.le_refl _))
  simp only [hz] at cZ
  rw [hm2, Nat.add_sub_cancel] at hin
  have hPm : 1 ≤ P ^ m := Nat.pow_pos (by have := hP.1; omega)
  have hPm2 : f.length - 1 = m := by omega
  have hm12 : m ≤ 12 := by omega
  rw [hm2]
  simp only [hm2] at cC cI
  rw [Nat.add_sub_cancel]
  generalize P ^ m = z at *
  have hl' : decide ((m : Int) + 1 < 2) = false := by simp; omega
  have hbig' : decide ((4096 : Int) < (z : Int)) = false := by simp; omega
  obtain ⟨N, hN⟩ : ∃ N, N = l.length := ⟨_, rfl⟩
  have HN : Hid (N = l.length) := hN
  rw [← hN] at hml ⊢
  have HIN := hid hin
  have HRE := hid RE
  clear rf re RF RE hf h3 hz hI hF hm2 hPm2 h31 hfl hN hin
  go_enter Try.func21, Try.ntmps21
  go_wp2_with (first
    | (go_at_call 35; refine cC.mono ?_; rintro e w1 ⟨rfl, hB1⟩; have cc := HC _ w1 hB1 (Nat.le_refl _); have HB2 := hid (hB1.alloc hB1.size (fx P (some ad) (m + 1) cf z)); have hK2 := hid (Bf.new w1 P (some ad) (m + 1) cf z))
    | (go_at_call 36; refine (cZ _).mono ?_; rintro e w2 ⟨rfl, hw⟩; subst w2)
    | (go_at_call 37; refine (cI _ HB2.out).mono ?_; rintro e w3 ⟨rfl, hB3⟩; have HB3 := hid (below_trans HB2.out hB3); have hK3 := hid (hK2.out.up hB3); clear hB3))
  have k0 := hK3.out.c0
  have k1 := hK3.out.c1
  have k2 := hK3.out.c2
  go_loop [49] (fun i => ∃ k : Nat, i = .int .i64 (k : Int) ∧ k ≤ N) (fun i => ((N : Int) - intOf i).toNat)
  case atStart => exact ⟨0, rfl, by omega⟩
  case round =>
    obtain ⟨k, rfl, hk⟩ := hrel
    by_cases hgo : k < N
    · have hgo' : (k : Int) < (N : Int) := by omega
      have hkl : Hid (k < l.length) := by have := HN.out; show k < l.length; omega
      rcases eo with _ | ed
      · exact (irow_none HRE.out hkl.out).elim
      have ce1 := (irow_below HRE.out HB3.out (Nat.le_refl _)).2 ed rfl k hkl.out
      have hx := HIN.out (co l k) (co_mem hkl.out)
      generalize co l k = x at *
      have h1' : decide (x < 0) = false := by simp; omega
      have h2' : decide ((z : Int) ≤ x) = false := by simp; omega
      go_wp2
      go_round
      case rel => exact ⟨k + 1, by simp, by omega⟩
      case measure => exact measK hgo
    · have hgo' : ¬ (k : Int) < (N : Int) := by omega
      have bA := hid (BoxC.below hR0.out HB3.out hltR); have a0 := bA.out.cell 0; have a1 := bA.out.cell 1; have a2 := bA.out.cell 2; have f0 := bA.out.frozen 0; have f1 := bA.out.frozen 1; have f2 := bA.out.frozen 2; simp at a0 a1 a2; have b1 := hid (box_set3 bA.out (.int .i64 (P : Int)) (.slice (some ad) (m + 1) cf) (.int .i64 (z : Int))); have r0 := b1.out.cell 0; have r1 := b1.out.cell 1; have r2 := b1.out.cell 2; simp at r0 r1 r2
      go_wp2
      exact bodyPost_ret (v := .tuple #[.agg #[.int .i64 (P : Int), .slice (some ad) (m + 1) cf, .int .i64 (z : Int)], .int .i64 0]) (by simp [results, Try.results21, go_sem, r0, r1, r2]) rfl ⟨rfl, ((below_trans hBw.out HB3.out).setCell (by simp) _).setCell (by simp) _ |>.setCell (by simp) _⟩

theorem open_bad (p : Int) (fo eo : Option Addr) (cf ce : Nat) (f l : List Int) (hm : f.length ≤ 9223372036854775807) (hml : l.length ≤ 9223372036854775807) (c : Int) (hc : EC p f l c) (h0 : c ≠ 0) (w : World) (rf : IRow w fo f) (re : IRow w eo l) :
    Calls Try.prog 21 #[.int .i64 p, .slice fo f.length cf, .slice eo l.length ce] w fun e w' => e = .returned (.tuple #[.agg #[.int .i64 0, .slice none 0 0, .int .i64 0], .int .i64 c]) ∧ Below w.heap.size w w' := by
  rcases hc with ⟨hc, _⟩ | ⟨hc, ⟨h2, rfl⟩ | ⟨_, h2⟩⟩
  · rcases hc with ⟨hc, _⟩ | ⟨hc, h1⟩
    · exact open_check p fo eo cf ce f l hm c hc h0 w rf
    · obtain ⟨P, rfl, hP, hP2, hfl, hf⟩ := hc.ok
      rw [Int.toNat_natCast] at h1
      rcases h1 with ⟨h1, rfl⟩ | ⟨h1, ⟨h2, rfl⟩ | ⟨h2, ⟨h3, rfl⟩ | ⟨h3, h4⟩⟩⟩
      · exact open_form P hP hP2 fo eo cf ce f l hfl hf h1 w rf
      · exact open_large P hP hP2 fo eo cf ce f l hfl hf h1 h2 w rf
      · exact open_prod P hP hP2 fo eo cf ce f l hfl hf h1 h2 h3 w rf
      · exact absurd h4 h0
  · obtain ⟨P, rfl, hF⟩ := hc.ok
    rw [Int.toNat_natCast] at h2
    exact open_out P f l hF hml h2 fo eo cf ce w rf re
  · exact absurd h2 h0

end Go.Proofs.Ytjpmkcijkcnfiaa.Calls82
