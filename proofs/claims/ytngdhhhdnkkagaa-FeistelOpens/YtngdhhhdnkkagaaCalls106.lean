/-
  Rounds back: slices.Backward over rows, and package feistel's Open.
-/
import Derived.Test.YtngdhhhdnkkagaaCalls105
import Derived.RangeFuncNested
import Derived.RangeFuncBound
import Derived.RangeFuncCalls
import Derived.RangeFuncLeaves
import Derived.Shelf.Abstract
import Derived.Shelf.RegionOpen
import Derived.OwnWalkIn
import Derived.TacticsInMore
import Derived.LoopNIn
import Derived.LoopIn
import Derived.BigRegionIn
namespace Go.Proofs.Ytngdhhhdnkkagaa.Calls106
set_option linter.unusedVariables false
open Go.ChangeShapes Go.WideShapes Go.ChangeAt Go.RowKit Go.Shelf Go.Deep Go.Proofs.Ytngdhhhdnkkagaa.Base Go.Proofs.Ytngdhhhdnkkagaa.Base2 Go.Proofs.Ytngdhhhdnkkagaa.Num16 Go.Proofs.Ytngdhhhdnkkagaa.Num17 Go.Proofs.Ytngdhhhdnkkagaa.Num34 Go.Proofs.Ytngdhhhdnkkagaa.Num51 Go.Proofs.Ytngdhhhdnkkagaa.Base4 Go.Proofs.Ytngdhhhdnkkagaa.Base5 Go.Proofs.Ytngdhhhdnkkagaa.Calls96 Go.Proofs.Ytngdhhhdnkkagaa.Calls103 Go.Proofs.Ytngdhhhdnkkagaa.Calls104 Go.Proofs.Ytngdhhhdnkkagaa.Calls105

attribute [local go_sem] Oper.semAt_some

/-- A round's row: what the slice leads to, in a world below that of the walk. -/
def RowV (w : World) (L : List (List Int)) (k : Nat) (v : Value) : Prop :=
  k < L.length ∧ ∃ bd cb, v = .slice (some bd) 16 cb ∧ 16 ≤ cb ∧ ∀ b, b < 16 → w.cell? (bd.add b) = some (.int .i64 ((ho (rw' L k) b : Nat) : Int))

/-- A row with its place, as it comes. -/
abbrev KR (w : World) (L : List (List Int)) := { x : Nat × Value // RowV w L x.1 x.2 }

def kvals {w : World} {L : List (List Int)} (l : List (KR w L)) : List Nat := l.map (·.1.1)

theorem kvals_snoc {w : World} {L : List (List Int)} (l : List (KR w L)) (x : KR w L) : kvals (l ++ [x]) = kvals l ++ [x.1.1] := by simp [kvals]

abbrev encR {w : World} {L : List (List Int)} (x : KR w L) : Array Value := #[.int .i64 (x.1.1 : Int), x.1.2]

/-- What a round keeps: what lay below, and the iterator's own box. -/
def KeepB (n0 B : Nat) (W W' : World) : Prop := Below n0 W W' ∧ ∀ v, W.cell? ⟨B, 0, none⟩ = some v → W'.cell? ⟨B, 0, none⟩ = some v

theorem keepB_t {n0 B : Nat} {A C D : World} (h : KeepB n0 B A C) (k : KeepB n0 B C D) : KeepB n0 B A D := ⟨h.1.trans k.1, fun v hv => k.2 v (h.2 v hv)⟩

theorem keepB_b {n0 B : Nat} {w : World} (hn : n0 ≤ w.heap.size) (W : World) (l : Nat) (o o' : Obj) (hl : w.heap.size ≤ l) (h : W.heap[l]? = some o) (hc : o.isCells = false) (hw : o.isWalk = false) : KeepB n0 B W (W.putObj l o') :=
  ⟨belowK_b hn W l o o' hl h hc hw, fun v hv => cell_kept hv (grownBy_putObj' W l o') (fun r e => by cases e; exact ⟨o, h, hc⟩)⟩

theorem range_rev {n k : Nat} (h : k < n) : ((List.range n).drop k).reverse = ((List.range n).drop (k + 1)).reverse ++ [k] := by
  rw [List.drop_eq_getElem_cons (by simpa using h), List.reverse_cons]
  simp

theorem rowv {w : World} {ad : Addr} {L : List (List Int)} (h : RRow w (some ad) L) (hR : Ros L) {k : Nat} (hk : k < L.length) : ∃ v, RowV w L k v ∧ w.cell? (ad.add k) = some v := by
  obtain ⟨bd, cb, h1, h2, h3⟩ := row_at h hR hk
  exact ⟨_, ⟨hk, bd, cb, rfl, h2, h3⟩, h1⟩

set_option maxRecDepth 100000 in
theorem backR1_in (F : Fence) (n : Nat) (hf : F.fn 27) (hro : F.round = none) (hn : 1 ≤ n) (l Bn cap : Nat) (ao : Option Addr) (L : List (List Int)) (hR : Ros L) (hla : L.length ≤ 64) (n0 : Nat) (w : World) (hw0 : w.heap.size ≤ n0) (ra : RRow w ao L) (J Jx : List (KR w L) → World → Prop)
    (hY : ∀ pre x W, J pre W → pre.length < L.length → YieldAt F (n - 1) Try.prog l (encR x) W fun e W' =>
      (e = .returned (.bool true) ∧ J (pre ++ [x]) W' ∧ KeepB n0 Bn W W') ∨ (e = .returned (.bool false) ∧ Jx (pre ++ [x]) W'))
    (W : World) (hB : Below n0 w W) (hBn : W.cell? ⟨Bn, 0, none⟩ = some (.slice ao L.length cap)) (h0 : J [] W) :
    CallsIn F n Try.prog 27 #[.func (.yield l) #[] #[], .pointer (some ⟨Bn, 0, none⟩)] W fun e W' => (∃ v, e = .returned v) ∧
      ((∃ ys, kvals ys = (List.range L.length).reverse ∧ J ys W') ∨ (∃ pre, True ∧ Jx pre W')) := by
  have HL := hid hla
  have hlen0 : Hid (kvals ([] : List (KR w L)) = ((List.range L.length).drop L.length).reverse) := by show _ = _; rw [List.drop_of_length_le (by simp)]; rfl
  obtain ⟨N, hN⟩ : ∃ N, N = L.length := ⟨_, rfl⟩
  have HN : Hid (N = L.length) := hN
  rw [← hN] at hla hBn hlen0 hY ⊢
  clear hN
  refine callsIn_of_wp Try.func27 rfl hf ?_ hro
  simp only [Try.ntmps27, List.size_toArray, List.length_cons, List.length_nil, Nat.reduceAdd, Nat.reduceSub, Array.replicate_succ, Array.replicate_zero, List.push_toArray, List.append_toArray, List.nil_append, List.cons_append]
  gi_wp2
  gi_loopw [3] (fun i wr => ∃ (k : Nat) (pre : List (KR w L)), i = .int .i64 ((k : Int) - 1) ∧ k ≤ N ∧ Hid (kvals pre = ((List.range N).drop k).reverse) ∧ J pre wr ∧ Below n0 w wr ∧ wr.cell? ⟨Bn, 0, none⟩ = some (.slice ao N cap))
    (fun i wr => (intOf i + 1).toNat)
  case atStart =>
    exact ⟨N, [], rfl, Nat.le_refl _, hlen0, h0, hB, hBn⟩
  case round =>
    obtain ⟨k, pre, rfl, hk, hP, hJ, hBr, hcr⟩ := hrel
    match k, hk, hP with
    | 0, hk, hP =>
      have ek : ((0 : Nat) : Int) - 1 = -1 := rfl
      rw [ek]
      gi_wp2
      go_end0
      exact ⟨⟨_, rfl⟩, .inl ⟨pre, by rw [hP.out]; rfl, hJ⟩⟩
    | k + 1, hk, hP =>
      have ek : ((k + 1 : Nat) : Int) - 1 = (k : Int) := by omega
      rw [ek]
      have hkl : Hid (k < L.length) := by have := HN.out; show k < L.length; omega
      have hkN : (k : Int) < (N : Int) := by omega
      rcases ao with _ | ad
      · exact (rrow_none ra hkl.out).elim
      obtain ⟨v, hv, c0⟩ := rowv ra hR hkl.out
      have c1 := (hBr.cell (p := ad.add k) (Nat.lt_of_lt_of_le (cell_lt c0) hw0)).trans c0
      have hpl : pre.length < N := by
        have h1 := congrArg List.length hP.out
        simp [kvals] at h1
        omega
      have hP2 : Hid (kvals (pre ++ [⟨(k, v), hv⟩]) = ((List.range N).drop k).reverse) := by show _ = _; rw [kvals_snoc, hP.out, ← range_rev (by omega)]
      obtain ⟨fn, tmps, assign, body, hy, hRR⟩ := hY pre ⟨(k, v), hv⟩ wr hJ hpl
      dsimp only [encR] at hy
      gi_wp2
      refine hRR.mono ?_
      rintro e3 W3 (⟨rfl, hJ3, hk3⟩ | ⟨rfl, hJx3⟩)
      · have hc3 := hk3.2 _ hcr
        gi_wp2
        go_roundw
        case rel => exact ⟨k, _, rfl, by omega, hP2, hJ3, hBr.trans hk3.1, hc3⟩
        case measure => show ((k : Int) - 1 + 1).toNat < ((k : Int) + 1).toNat; omega
      · gi_wp2
        refine bodyPost_ret (results_none rfl _ _ _) rfl ?_
        exact ⟨⟨_, rfl⟩, .inr ⟨_, trivial, hJx3⟩⟩

theorem backR_stops (F : Fence) (n : Nat) (hf : F.fn 27) (hro : F.round = none) (hn : 1 ≤ n) (Bn cap : Nat) (ao : Option Addr) (L : List (List Int)) (hR : Ros L) (hla : L.length ≤ 64) (w : World) (ra : RRow w ao L) (W0 : World) (hB : Below w.heap.size w W0) (hBn : Bn < W0.heap.size)
    (hc : W0.cell? ⟨Bn, 0, none⟩ = some (.slice ao L.length cap)) :
    SeqStopsK F n Try.prog 27 #[.pointer (some ⟨Bn, 0, none⟩)] (fun x : KR w L => encR x) (KeepB w.heap.size Bn) (fun ys => kvals ys = (List.range L.length).reverse) (fun _ => True) L.length W0 := fun l J Jx W hW _ _ hY h0 =>
  backR1_in F n hf hro hn l Bn cap ao L hR hla w.heap.size w (Nat.le_refl _) ra J Jx hY W (hB.trans (hW.mono hB.size)) ((hW.cell (p := ⟨Bn, 0, none⟩) hBn).trans hc) h0

theorem backR_in (F : Fence) (n : Nat) (hf : F.fn 19) (hro : F.round = none) (ao : Option Addr) (N cap : Nat) (w : World) :
    CallsIn F n Try.prog 19 #[.slice ao N cap] w fun e w' => e = .returned (.func (.func 27) #[] #[.pointer (some ⟨w.heap.size, 0, none⟩)]) ∧ w' = w.alloc (.cells #[.slice ao N cap] 22) := by
  refine callsIn_of_wp Try.func19 rfl hf ?_ hro
  simp only [Try.ntmps19, List.size_toArray, List.length_cons, List.length_nil, Nat.reduceAdd, Nat.reduceSub, Array.replicate_succ, Array.replicate_zero, List.push_toArray, List.append_toArray, List.nil_append, List.cons_append]
  gi_wp2
  go_ret
  exact ⟨rfl, rfl⟩

/-- Back by the rounds that came. -/
def bwk (L : List (List Int)) (ks : List Nat) (y : Nat) : Nat := ks.foldl (fun y k => bk (rw' L k) y) y

theorem bwk_snoc (L : List (List Int)) (ks : List Nat) (k y : Nat) : bwk L (ks ++ [k]) y = bk (rw' L k) (bwk L ks y) := by simp [bwk]

theorem bwk_op (L : List (List Int)) (y : Nat) : bwk L (List.range L.length).reverse y = op L y := by
  have H : ∀ n, n ≤ L.length → bwk L ((List.range L.length).drop (L.length - n)).reverse y = op (L.drop (L.length - n)) y := by
    intro n
    induction n with
    | zero => intro _; rw [Nat.sub_zero, List.drop_of_length_le (by simp), List.drop_of_length_le (Nat.le_refl _)]; rfl
    | succ n ih =>
      intro hn
      rw [range_rev (by omega), bwk_snoc, show L.length - (n + 1) + 1 = L.length - n by omega, ih (by omega), op_drop (i := L.length - (n + 1)) (by omega), show L.length - (n + 1) + 1 = L.length - n by omega]
      rfl
  have := H L.length (Nat.le_refl _)
  rw [Nat.sub_self] at this
  exact this

theorem bwk_lt {L : List (List Int)} (hR : Ros L) : ∀ (ks : List Nat), (∀ k, k ∈ ks → k < L.length) → ∀ {y : Nat}, y < 256 → bwk L ks y < 256
  | [], _, _, hy => hy
  | k :: t, h, y, hy => bwk_lt hR t (fun q hq => h q (List.mem_cons_of_mem _ hq)) (bk_lt (hR _ (rw_mem (h k List.mem_cons_self))) hy)

theorem kvals_mem {w : World} {L : List (List Int)} {l : List (KR w L)} {k : Nat} (h : k ∈ kvals l) : k < L.length := by
  obtain ⟨x, _, rfl⟩ := List.mem_map.mp h
  exact x.2.1

set_option maxRecDepth 100000 in
set_option maxHeartbeats 16000000 in
theorem Open_yes (ao : Option Addr) (cap : Nat) (L : List (List Int)) (hR : Ros L) (hl : L.length ≤ 64) (y : Nat) (hy : y < 256) (w : World) (hrow : RRow w ao L) :
    Calls Try.prog 12 #[.slice ao L.length cap, .int .i64 (y : Int)] w fun e w' => e = .returned (.tuple #[.int .i64 ((op L y : Nat) : Int), .int .i64 0]) ∧ Below w.heap.size w w' := by
  obtain ⟨c, hc⟩ := FC.ex L (y : Int)
  obtain rfl := hc.ok.2 ⟨hl, hR, by omega, by omega⟩
  have cC := check1_any ao cap L (y : Int) 0 hc (by omega) w hrow
  have cS := fun (w1 : World) (hB1 : Below w.heap.size w w1) (W0 : World) (hB : Below w1.heap.size w1 W0) (Bn : Nat) (hBn : Bn < W0.heap.size) hc => backR_stops Fence.wide 2 trivial rfl (by omega) Bn cap ao L hR hl w1 (rb hrow hB1) W0 hB hBn hc
  have HLT : Hid (∀ (w1 : World) (ys : List (KR w1 L)), bwk L (kvals ys) y < 256) := fun w1 ys => bwk_lt hR _ (fun k hk => kvals_mem hk) hy
  obtain ⟨N, hN⟩ : ∃ N, N = L.length := ⟨_, rfl⟩
  have HD : Hid (∀ ks, ks = (List.range N).reverse → bwk L ks y = op L y) := fun ks h => by rw [h, hN, bwk_op]
  simp only [← hN] at cS cC ⊢
  generalize op L y = rr at *
  clear hN hrow hc hl
  refine (callsIn_wide (n := 3)).1 ?_
  refine callsIn_of_wp_marks Try.func12 rfl trivial ?_ rfl
  simp only [Try.ntmps12, List.size_toArray, List.length_cons, List.length_nil, Nat.reduceAdd, Nat.reduceSub, Array.replicate_succ, Array.replicate_zero, List.push_toArray, List.append_toArray, List.nil_append, List.cons_append]
  gi_wp2_with (first
    | (refine ⟨trivial, ?_⟩; gi_at_call 16; refine (callsIn_wide.2 cC).mono ?_; rintro e w1 ⟨rfl, hB1⟩; clear cC)
    | (refine ⟨trivial, ?_⟩; gi_at_call 19; refine (backR_in Fence.wide _ trivial rfl _ _ _ _).mono ?_; rintro e w' ⟨rfl, rfl⟩))
  have b0 := ((Boxed.new w1 3 (.int .i64 ((y : Int) / 16))).alloc (.cells #[.int .i64 ((y : Int) % 16)] 3)).alloc (.cells #[.slice ao N cap] 22)
  have b1 := (Boxed.new (w1.alloc (.cells #[.int .i64 ((y : Int) / 16)] 3)) 3 (.int .i64 ((y : Int) % 16))).alloc (.cells #[.slice ao N cap] 22)
  have b3 := Boxed.new ((w1.alloc (.cells #[.int .i64 ((y : Int) / 16)] 3)).alloc (.cells #[.int .i64 ((y : Int) % 16)] 3)) 22 (.slice ao N cap)
  simp only [World.size_alloc] at b1 b3
  have hB0 : Below w1.heap.size w1 (((w1.alloc (.cells #[.int .i64 ((y : Int) / 16)] 3)).alloc (.cells #[.int .i64 ((y : Int) % 16)] 3)).alloc (.cells #[.slice ao N cap] 22)) := (((Below.refl _ w1).alloc (Nat.le_refl _) _).alloc (by simp) _).alloc (by simp; omega) _
  have hsz : (((w1.alloc (.cells #[.int .i64 ((y : Int) / 16)] 3)).alloc (.cells #[.int .i64 ((y : Int) % 16)] 3)).alloc (.cells #[.slice ao N cap] 22)).heap.size = w1.heap.size + 3 := by simp
  obtain ⟨W0, hW0⟩ : ∃ W0, ((w1.alloc (.cells #[.int .i64 ((y : Int) / 16)] 3)).alloc (.cells #[.int .i64 ((y : Int) % 16)] 3)).alloc (.cells #[.slice ao N cap] 22) = W0 := ⟨_, rfl⟩
  rw [hW0] at b0 b1 b3 hB0 hsz ⊢
  clear hW0
  have hyl : ((y / 16 : Nat) : Int) = (y : Int) / 16 := by omega
  have hyr : ((y % 16 : Nat) : Int) = (y : Int) % 16 := by omega
  refine wpIn_rangeFunc_ownF rfl (by omega) (gf := 27) (lb := #[.pointer (some ⟨w1.heap.size + 1 + 1, 0, none⟩)]) rfl trivial (enters_of Try.func27 (by kernel_rfl) rfl)
    (cS w1 hB1 W0 hB0 (w1.heap.size + 1 + 1) (by omega) b3.cell) keepB_t (keepB_b (by omega)) (Below.refl _ _) (fun _ => rfl)
    (fun (pre : List (KR w1 L)) W => (Boxed W w1.heap.size 3 (.int .i64 ((bwk L (kvals pre) y / 16 : Nat) : Int)) ∧ Boxed W (w1.heap.size + 1) 3 (.int .i64 ((bwk L (kvals pre) y % 16 : Nat) : Int))) ∧ Below w1.heap.size w1 W)
    (fun _ _ _ => False)
    (OwnFrom.and (OwnFrom.and (Own.from (boxed_own _ _ _) _) (Own.from (boxed_own _ _ _) _)) (ownFrom_below (Nat.le_refl _) (by omega)))
    (fun _ _ _ _ _ hs _ _ => hs)
    ⟨⟨by rw [show bwk L (kvals ([] : List (KR w1 L))) y = y from rfl, hyl]; exact b0, by rw [show bwk L (kvals ([] : List (KR w1 L))) y = y from rfl, hyr]; exact b1⟩, hB0⟩
    (fun x => { tmps := #[.slice ao N cap, .int .i64 (y : Int), undef, undef, .int .i64 0, .int .i64 0, .int .i64 0, .pointer (some ⟨w1.heap.size, 0, none⟩), .pointer (some ⟨w1.heap.size + 1, 0, none⟩), undef, x.1.2, .slice ao N cap, .int .i64 (y : Int), .slice (some ⟨w.heap.size, 0, none⟩) 1 1, .int .i64 0, .int .i64 0, .bool false, undef, .int .i64 (y : Int), .int .i64 ((y : Int) / 16), .int .i64 (y : Int), .int .i64 ((y : Int) % 16), .slice ao N cap, .func (.func 27) #[] #[.pointer (some ⟨w1.heap.size + 1 + 1, 0, none⟩)], .int .i64 (x.1.1 : Int), x.1.2, undef, undef, undef, undef, undef, undef, undef, undef, undef, undef, undef], defers := [] })
    ?assign ?body ?done ?stop
  case assign =>
    intro l y W K hK
    gi_wp2
    exact hK
  case body =>
    rintro l pre x W ⟨⟨c0, c1⟩, hBW⟩ _
    obtain ⟨bd, cb, hv, hcb, hcell⟩ := x.2.2
    have hkk := x.2.1
    have hs := bwk_snoc L (kvals pre) x.1.1 y
    rw [← kvals_snoc] at hs
    have hv0 := HLT.out w1 pre
    obtain ⟨v, hve⟩ : ∃ v, v = bwk L (kvals pre) y := ⟨_, rfl⟩
    rw [← hve] at c0 c1 hs hv0
    obtain ⟨a, ha⟩ : ∃ a, a = v / 16 := ⟨_, rfl⟩
    obtain ⟨b, hb⟩ : ∃ b, b = v % 16 := ⟨_, rfl⟩
    have ha16 : a < 16 := by omega
    have hb16 : b < 16 := by omega
    have hh := (hR _ (rw_mem hkk)).lt ha16
    have hz := xor16 hb16 hh
    have hxz := xor_i64 b hb16 _ hh
    have hcA := (hBW.cell (p := bd.add a) (cell_lt (hcell a ha16))).trans (hcell a ha16)
    have hbk : bk (rw' L x.1.1) v = (b ^^^ ho (rw' L x.1.1) a) * 16 + a := by rw [ha, hb]; rfl
    rw [hbk] at hs
    rw [← ha] at c0
    rw [← hb] at c1
    obtain ⟨yi, hyi⟩ : ∃ yi, yi = (x.1.1 : Int) := ⟨_, rfl⟩
    rw [hv, ← hyi]
    generalize ho (rw' L x.1.1) a = h at *
    generalize b ^^^ h = z at *
    have HS := hid hs
    have d0 := c0.cell
    have f0 := c0.frozen
    have d1 := c1.cell
    have f1 := c1.frozen
    clear hs hve ha hb hyi hcell hbk hv
    have key : KeepsOthers W ((W.setCell ⟨w1.heap.size, 0, none⟩ (.int .i64 (z : Int))).setCell ⟨w1.heap.size + 1, 0, none⟩ (.int .i64 (a : Int))).drew ∧ KeepB w1.heap.size (w1.heap.size + 1 + 1) W ((W.setCell ⟨w1.heap.size, 0, none⟩ (.int .i64 (z : Int))).setCell ⟨w1.heap.size + 1, 0, none⟩ (.int .i64 (a : Int))).drew ∧
        ((Boxed ((W.setCell ⟨w1.heap.size, 0, none⟩ (.int .i64 (z : Int))).setCell ⟨w1.heap.size + 1, 0, none⟩ (.int .i64 (a : Int))).drew w1.heap.size 3 (.int .i64 ((bwk L (kvals (pre ++ [x])) y / 16 : Nat) : Int)) ∧ Boxed ((W.setCell ⟨w1.heap.size, 0, none⟩ (.int .i64 (z : Int))).setCell ⟨w1.heap.size + 1, 0, none⟩ (.int .i64 (a : Int))).drew (w1.heap.size + 1) 3 (.int .i64 ((bwk L (kvals (pre ++ [x])) y % 16 : Nat) : Int))) ∧ Below w1.heap.size w1 ((W.setCell ⟨w1.heap.size, 0, none⟩ (.int .i64 (z : Int))).setCell ⟨w1.heap.size + 1, 0, none⟩ (.int .i64 (a : Int))).drew) := by
      refine ⟨((KeepsOthers.setCell _ _ _).trans (KeepsOthers.setCell _ _ _)).trans (KeepsOthers.drew _), ⟨(((Below.refl w1.heap.size W).setCell (p := ⟨w1.heap.size, 0, none⟩) (Nat.le_refl _) _).setCell (p := ⟨w1.heap.size + 1, 0, none⟩) (by simp) _).drew, fun u hu => ?_⟩, ⟨?_, ?_⟩, ((hBW.setCell (p := ⟨w1.heap.size, 0, none⟩) (Nat.le_refl _) _).setCell (p := ⟨w1.heap.size + 1, 0, none⟩) (by simp) _).drew⟩
      · show ((W.setCell _ _).setCell _ _).cell? _ = _
        rw [World.cell?_setCell_other, World.cell?_setCell_other]
        · exact hu
        · intro e
          have h2 : w1.heap.size = w1.heap.size + 1 + 1 := congrArg Addr.block e
          omega
        · intro e
          have h2 : w1.heap.size + 1 = w1.heap.size + 1 + 1 := congrArg Addr.block e
          omega
      · rw [HS.out, (halves (by omega)).1]
        exact (c0.set (.int .i64 (z : Int))).other (by omega) _
      · rw [HS.out, (halves (by omega)).2]
        exact (c1.other (by omega) _).set (.int .i64 (a : Int))
    have HK := hid key
    clear key c0 c1 hBW HS
    gi_wp2
    gi_region
    all_goals exact HK.out
  case done =>
    rintro D ys W hD hF ⟨⟨c0, c1⟩, hBW⟩ hK
    have e := HD.out _ hF
    rw [e] at c0 c1
    have d0 := c0.cell
    have d1 := c1.cell
    have er : ((rr / 16 : Nat) : Int) * 16 + ((rr % 16 : Nat) : Int) = (rr : Int) := by omega
    have hr := HLT.out w1 ys
    rw [e] at hr
    have hra : rr / 16 < 16 := by omega
    have hrb : rr % 16 < 16 := by omega
    clear c0 c1 hF
    obtain ⟨a, ha⟩ : ∃ a, rr / 16 = a := ⟨_, rfl⟩
    obtain ⟨b, hb⟩ : ∃ b, rr % 16 = b := ⟨_, rfl⟩
    rw [ha] at d0 er hra
    rw [hb] at d1 er hrb
    have HE := hid er
    clear er ha hb e
    gi_wp2
    refine ⟨by simp, .inl ⟨_, _, rfl, run_takeDeferred hK, ?_⟩⟩
    exact ⟨_, results_tmp2 rfl _ _ _, by rw [HE.out]; rfl, below_trans hB1 (hBW.trans (belowK_b (w := w1) (Nat.le_refl _) W D _ _ (by omega) hK rfl rfl))⟩
  case stop =>
    rintro D c pre W _ _ h _
    exact h.elim

set_option maxRecDepth 100000 in
theorem Open_bad (ao : Option Addr) (cap : Nat) (L : List (List Int)) (x c : Int) (hc : FC L x c) (h0 : ¬ c = 0) (hl : L.length ≤ 9223372036854775807) (w : World) (hrow : RRow w ao L) :
    Calls Try.prog 12 #[.slice ao L.length cap, .int .i64 x] w fun e w' => e = .returned (.tuple #[.int .i64 0, .int .i64 c]) ∧ Below w.heap.size w w' := by
  have cC := check1_any ao cap L x c hc hl w hrow
  generalize L.length = N at *
  clear hc hrow
  have h0' : (c != 0) = true := by simpa using h0
  go_enter Try.func12, Try.ntmps12
  go_wp2_with (go_at_call 16; refine cC.mono ?_; rintro e w1 ⟨rfl, hB1⟩)
  go_ret2
  exact ⟨rfl, hB1⟩

end Go.Proofs.Ytngdhhhdnkkagaa.Calls106
