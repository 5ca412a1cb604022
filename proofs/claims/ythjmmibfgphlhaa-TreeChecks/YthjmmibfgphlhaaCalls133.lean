/-
  The texts of a tree: of a leaf, of two nodes, and what node comes of a text; the program's and the document's.
-/
import Derived.Test.YthjmmibfgphlhaaCalls128
import Derived.Test.YthjmmibfgphlhaaNum60
import Derived.Test.YthjmmibfgphlhaaBase9
namespace Go.Proofs.Ythjmmibfgphlhaa.Calls133
set_option linter.unusedVariables false
open Go.ChangeShapes Go.WideShapes Go.ChangeAt Go.RowKit Go.Deep Go.Proofs.Ythjmmibfgphlhaa.Base Go.Proofs.Ythjmmibfgphlhaa.Base2 Go.Proofs.Ythjmmibfgphlhaa.Base7 Go.Proofs.Ythjmmibfgphlhaa.Base8 Go.Proofs.Ythjmmibfgphlhaa.Base9 Go.Proofs.Ythjmmibfgphlhaa.Num55 Go.Proofs.Ythjmmibfgphlhaa.Num60 Go.Proofs.Ythjmmibfgphlhaa.Calls125 Go.Proofs.Ythjmmibfgphlhaa.Calls126 Go.Proofs.Ythjmmibfgphlhaa.Calls127 Go.Proofs.Ythjmmibfgphlhaa.Calls128

theorem lft_length (l : List Nat) : (lft l).length = l.length + 1 := rfl

theorem lft_byt {l : List Nat} (h : Byt l) : Byt (lft l) := fun b hb => by
  rcases List.mem_cons.1 hb with rfl | hb
  · omega
  · exact h b hb

theorem prt_length (a b : Nat) : (prt a b).length = 5 := rfl

theorem prt_byt (a b : Nat) : Byt (prt a b) := fun x hx => by
  simp [prt] at hx
  omega

set_option maxRecDepth 100000 in
theorem node_any (o : Option Addr) (c : Nat) (l : List Nat) (hl : l.length ≤ 4096) (hb : Byt l) (w : World) (r : YRow w o l) :
    Calls Try.prog 36 #[.slice o l.length c] w fun e w' => e = .returned (.int .u32 ((sum l : Nat) : Int)) ∧ Below w.heap.size w w' := by
  have cS := Sum_any o c l hl hb w r
  generalize sum l = s at *
  generalize l.length = n at *
  clear r
  go_enter Try.func36, Try.ntmps36
  go_wp2_with (go_at_call 23; refine cS.mono ?_; rintro e W ⟨rfl, hB⟩; have HB := hid hB; clear hB)
  go_ret
  exact ⟨rfl, HB.out⟩

set_option maxRecDepth 100000 in
theorem leafText_o (o : Option Addr) (c : Nat) (l : List Nat) (hl : l.length ≤ 4095) (w : World) (r : YRow w o l) :
    Calls Try.prog 43 #[.slice o l.length c] w fun e w' => RetYO w.heap.size (lft l) e w' ∧ Below w.heap.size w w' := by
  obtain ⟨o1, ho1⟩ : ∃ o1, o1 = Obj.cells #[.int .u8 0] 5 := ⟨_, rfl⟩
  have hB1 := (Below.refl _ w).alloc (Nat.le_refl _) o1
  have hB2 := hB1.alloc hB1.size (.cells #[.slice (some ⟨w.heap.size, 0, none⟩) 1 1, .slice o l.length c] 37)
  have hB12 := (Below.refl _ (w.alloc o1)).alloc (Nat.le_refl _) (.cells #[.slice (some ⟨w.heap.size, 0, none⟩) 1 1, .slice o l.length c] 37)
  have r1 : YRow (w.alloc o1) (some ⟨w.heap.size, 0, none⟩) [0] := by
    rw [ho1]
    exact yrow_new w 5 [0] _ rfl
  have cC := yConcat2o (w.heap.size + 1) (some ⟨w.heap.size, 0, none⟩) o 1 c [0] l (by simp) (by simp; omega) _ (two_cells w o1 37 _ _).1 (two_cells w o1 37 _ _).2 (yb' r1 hB12) (yb' r hB2)
  have HB2 := hid hB2
  rw [show ([0] ++ l : List Nat) = lft l from rfl] at cC
  rw [ho1] at cC HB2
  have hll := lft_length l
  generalize l.length = n at *
  clear ho1 hB1 hB2 hB12 r1 r hll
  go_enter Try.func43, Try.ntmps43
  go_wp2_with (go_at_call 50; refine cC.mono ?_; rintro e W ⟨⟨g, cb, rfl, hg, hg2, hcb, hr⟩, hB⟩; have HR := hid hr; have HC := hid hcb; have HG := hid (Nat.le_trans HB2.out.size hg); have HG2 := hid hg2; have HB := hid (below_trans HB2.out hB); clear hr hB hcb hg hg2)
  go_ret
  exact ⟨⟨g, cb, rfl, HG.out, HG2.out, HC.out, HR.out⟩, HB.out⟩

theorem leafText_any (o : Option Addr) (c : Nat) (l : List Nat) (hl : l.length ≤ 4095) (w : World) (r : YRow w o l) :
    Calls Try.prog 43 #[.slice o l.length c] w fun e w' => RetY (lft l) e w' ∧ Below w.heap.size w w' :=
  (leafText_o o c l hl w r).mono (fun e w' h => ⟨h.1.plain, h.2⟩)

set_option maxRecDepth 100000 in
theorem pairText_o (a b : Nat) (ha : a < 65536) (hb : b < 65536) (w : World) :
    Calls Try.prog 48 #[.int .u32 (a : Int), .int .u32 (b : Int)] w fun e w' => RetYO w.heap.size (prt a b) e w' ∧ Below w.heap.size w w' := by
  have hfin : Hid (∀ cs : Array Value, cs.toList = yv (prt a b) → RetYO w.heap.size (prt a b) (.returned (.slice (some ⟨w.heap.size, 0, none⟩) 5 5)) (w.alloc (.cells cs 5)) ∧ Below w.heap.size w (w.alloc (.cells cs 5))) := fun cs h =>
    ⟨⟨_, 5, rfl, Nat.le_refl _, by simp, Nat.le_refl _, yrow_new w 5 (prt a b) cs h⟩, (Below.refl _ w).alloc (Nat.le_refl _) _⟩
  go_enter Try.func48, Try.ntmps48
  go_wp2
  go_ret
  refine hfin.out _ ?_
  simp [prt, yv]
  omega

theorem pairText_any (a b : Nat) (ha : a < 65536) (hb : b < 65536) (w : World) :
    Calls Try.prog 48 #[.int .u32 (a : Int), .int .u32 (b : Int)] w fun e w' => RetY (prt a b) e w' ∧ Below w.heap.size w w' :=
  (pairText_o a b ha hb w).mono (fun e w' h => ⟨h.1.plain, h.2⟩)

set_option maxRecDepth 100000 in
set_option maxHeartbeats 1000000 in
theorem refLeafText_o (o : Option Addr) (c : Nat) (l : List Nat) (hl : l.length ≤ 4095) (w : World) (r : YRow w o l) :
    Calls Try.prog 27 #[.slice o l.length c] w fun e w' => RetYO w.heap.size (lft l) e w' ∧ Below w.heap.size w w' := by
  obtain ⟨i0, hi, hz0, hz1, hz2⟩ := infoY infoU8
  have own1 := hid (show (w.alloc (.cells #[.int .u8 0] 5)).ownsRow w.heap.size 5 1 (.slice (some ⟨w.heap.size, 0, none⟩) 1 1) 1 (yv [0]) from ⟨by simp [yv], .inr ⟨w.heap.size, 1, #[.int .u8 0], rfl, Nat.le_refl _, World.alloc_heap_new w _, Nat.le_refl _, by unfold maxLen; omega, by simp, by simp [yv]⟩⟩)
  have hB1 := hid ((Below.refl _ w).alloc (Nat.le_refl _) (.cells #[.int .u8 0] 5))
  have HR := hid (yb' r hB1.out)
  have hll := hid (show 1 + l.length = (lft l).length by rw [lft_length]; omega)
  have hy := hid (show yv [0] ++ yv l = yv (lft l) from rfl)
  obtain ⟨n, hn⟩ : ∃ n, n = l.length := ⟨_, rfl⟩
  have HN := hid hn
  rw [← hn] at hl hll ⊢
  clear hn r
  go_enter Try.func27, Try.ntmps27
  go_wp2_with (at_builtin; refine wpList_append_y _ rfl _ _ 37 rfl w.heap.size 5 i0 Try.underlying37 hi hz0 hz1 hz2 w.heap.size 1 1 (yv [0]) rfl own1.out o n c l rfl HN.out HR.out (by omega) (by simp) ?_; intro g' cap' w4 hO4 hB4; have HO4 := hid hO4; have HB4 := hid (Below.trans hB1.out hB4); clear hO4 hB4)
  go_ret
  have hfin := HO4.out
  rw [hy.out] at hfin
  exact ⟨reto_owns hfin, HB4.out⟩

theorem refLeafText_any (o : Option Addr) (c : Nat) (l : List Nat) (hl : l.length ≤ 4095) (w : World) (r : YRow w o l) :
    Calls Try.prog 27 #[.slice o l.length c] w fun e w' => RetY (lft l) e w' ∧ Below w.heap.size w w' :=
  (refLeafText_o o c l hl w r).mono (fun e w' h => ⟨h.1.plain, h.2⟩)

theorem prt_lit (a b : Nat) : yv [1] ++ yv (lit a 2) ++ yv (lit b 2) = yv (prt a b) := by simp [yv, lit, prt]

set_option maxRecDepth 100000 in
set_option maxHeartbeats 1000000 in
theorem refPairText_o (a b : Nat) (ha : a < 4294967296) (hb : b < 4294967296) (w : World) :
    Calls Try.prog 29 #[.int .i64 (a : Int), .int .i64 (b : Int)] w fun e w' => RetYO w.heap.size (prt a b) e w' ∧ Below w.heap.size w w' := by
  obtain ⟨i0, hi, hz0, hz1, hz2⟩ := infoY infoU8
  have own1 := hid (show (w.alloc (.cells #[.int .u8 1] 5)).ownsRow w.heap.size 5 1 (.slice (some ⟨w.heap.size, 0, none⟩) 1 1) 1 (yv [1]) from ⟨by simp [yv], .inr ⟨w.heap.size, 1, #[.int .u8 1], rfl, Nat.le_refl _, World.alloc_heap_new w _, Nat.le_refl _, by unfold maxLen; omega, by simp, by simp [yv]⟩⟩)
  have hB1 := hid ((Below.refl _ w).alloc (Nat.le_refl _) (.cells #[.int .u8 1] 5))
  have cA := hid (fun w' => little_any a 2 ha (by omega) w')
  have cB := hid (fun w' => little_any b 2 hb (by omega) w')
  have hp := hid (prt_lit a b)
  go_enter Try.func29, Try.ntmps29
  go_wp2_with (first
    | (go_at_call 45; refine (cA.out _).mono ?_; clear cA; rintro e w3 ⟨⟨bo, cb, rfl, hcb, hr⟩, hB⟩; have HR3 := hid hr; have HB3 := hid hB; have HO3 := hid (v_below own1.out hB); clear hr hB hcb)
    | (at_builtin; refine wpList_append_y _ rfl _ _ 37 rfl w.heap.size 5 i0 Try.underlying37 hi hz0 hz1 hz2 w.heap.size 1 1 (yv [1]) rfl HO3.out bo (lit a 2).length cb (lit a 2) rfl rfl HR3.out (by rw [lit_length]; omega) (Nat.le_trans hB1.out.size HB3.out.size) ?_; clear HO3; intro g4 c4 w4 hO4 hB4; have HO4 := hid hO4; have HB4 := hid (Below.trans (below_trans hB1.out HB3.out) hB4); clear hO4 hB4)
    | (go_at_call 45; refine (cB.out _).mono ?_; rintro e w5 ⟨⟨b5, c5, rfl, hcb, hr⟩, hB⟩; have HR5 := hid hr; have HB5 := hid (below_trans HB4.out hB); have HO5 := hid (v_below HO4.out hB); clear hr hB hcb)
    | (at_builtin; refine wpList_append_y _ rfl _ _ 37 rfl w.heap.size 5 i0 Try.underlying37 hi hz0 hz1 hz2 g4 _ c4 _ rfl HO5.out b5 (lit b 2).length c5 (lit b 2) rfl rfl HR5.out (by rw [lit_length, lit_length]; omega) HB5.out.size ?_; intro g6 c6 w6 hO6 hB6; have HO6 := hid hO6; have HB6 := hid (Below.trans HB5.out hB6); clear hO6 hB6))
  go_ret
  have hfin := HO6.out
  rw [hp.out] at hfin
  exact ⟨reto_owns hfin, HB6.out⟩

theorem refPairText_any (a b : Nat) (ha : a < 4294967296) (hb : b < 4294967296) (w : World) :
    Calls Try.prog 29 #[.int .i64 (a : Int), .int .i64 (b : Int)] w fun e w' => RetY (prt a b) e w' ∧ Below w.heap.size w w' :=
  (refPairText_o a b ha hb w).mono (fun e w' h => ⟨h.1.plain, h.2⟩)

end Go.Proofs.Ythjmmibfgphlhaa.Calls133
