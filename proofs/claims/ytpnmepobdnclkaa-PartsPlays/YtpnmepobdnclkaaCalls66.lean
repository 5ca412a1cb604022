/-
  Package poly: what a polynomial is at a place: slices.Backward and what ranges over it.
-/
import Derived.Test.YtpnmepobdnclkaaCalls56
import Derived.Test.YtpnmepobdnclkaaFoldB
import Derived.RangeFuncNested
import Derived.RangeFuncBound
import Derived.RangeFuncCalls
import Derived.RangeFuncLeaves
import Derived.Shelf.Abstract
import Derived.Shelf.RegionOpen
import Derived.OwnWalkIn
import Derived.TacticsInMore
import Derived.LoopNIn
import Derived.LoopIn
namespace Go.Proofs.Ytpnmepobdnclkaa.Calls66
set_option linter.unusedVariables false
open Go.ChangeShapes Go.WideShapes Go.ChangeAt Go.RowKit Go.Shelf Go.Proofs.Ytpnmepobdnclkaa.Base Go.Proofs.Ytpnmepobdnclkaa.Num Go.Proofs.Ytpnmepobdnclkaa.Num7 Go.Proofs.Ytpnmepobdnclkaa.Num13 Go.Proofs.Ytpnmepobdnclkaa.Num16 Go.Proofs.Ytpnmepobdnclkaa.Num17 Go.Proofs.Ytpnmepobdnclkaa.Num34 Go.Proofs.Ytpnmepobdnclkaa.Base4 Go.Proofs.Ytpnmepobdnclkaa.Calls56

attribute [local go_sem] Oper.semAt_some

/-- A number with its place, as it comes. -/
abbrev NK := { x : Nat × Int // 0 ≤ x.2 ∧ x.2 < 251 }

def nvals (l : List NK) : List Int := l.map (·.1.2)

theorem nvals_snoc (l : List NK) (x : NK) : nvals (l ++ [x]) = nvals l ++ [x.1.2] := by simp [nvals]

abbrev encN (x : NK) : Array Value := #[.int .i64 (x.1.1 : Int), .int .i64 x.1.2]

/-- What a round keeps: what lay below, and the iterator's own box. -/
def KeepB (n0 B : Nat) (W W' : World) : Prop := Below n0 W W' ∧ ∀ v, W.cell? ⟨B, 0, none⟩ = some v → W'.cell? ⟨B, 0, none⟩ = some v

theorem keepB_t {n0 B : Nat} {A C D : World} (h : KeepB n0 B A C) (k : KeepB n0 B C D) : KeepB n0 B A D := ⟨h.1.trans k.1, fun v hv => k.2 v (h.2 v hv)⟩

theorem keepB_b {n0 B : Nat} {w : World} (hn : n0 ≤ w.heap.size) (W : World) (l : Nat) (o o' : Obj) (hl : w.heap.size ≤ l) (h : W.heap[l]? = some o) (hc : o.isCells = false) (hw : o.isWalk = false) : KeepB n0 B W (W.putObj l o') :=
  ⟨belowK_b hn W l o o' hl h hc hw, fun v hv => cell_kept hv (grownBy_putObj' W l o') (fun r e => by cases e; exact ⟨o, h, hc⟩)⟩

theorem drop_rev {a : List Int} {k : Nat} (h : k < a.length) : (a.drop k).reverse = (a.drop (k + 1)).reverse ++ [co a k] := by
  rw [List.drop_eq_getElem_cons h, List.reverse_cons]
  simp [co, List.getD, h]

set_option maxRecDepth 100000 in
theorem backward1_in (F : Fence) (n : Nat) (hf : F.fn 79) (hro : F.round = none) (hn : 1 ≤ n) (l Bn cap : Nat) (ao : Option Addr) (a : List Int) (hb : Bd 251 a) (hla : a.length ≤ 4096) (n0 : Nat) (w : World) (hw0 : w.heap.size ≤ n0) (ra : IRow w ao a) (J Jx : List NK → World → Prop)
    (hY : ∀ pre x W, J pre W → pre.length < a.length → YieldAt F (n - 1) Try.prog l (encN x) W fun e W' =>
      (e = .returned (.bool true) ∧ J (pre ++ [x]) W' ∧ KeepB n0 Bn W W') ∨ (e = .returned (.bool false) ∧ Jx (pre ++ [x]) W'))
    (W : World) (hB : Below n0 w W) (hBn : W.cell? ⟨Bn, 0, none⟩ = some (.slice ao a.length cap)) (h0 : J [] W) :
    CallsIn F n Try.prog 79 #[.func (.yield l) #[] #[], .pointer (some ⟨Bn, 0, none⟩)] W fun e W' => (∃ v, e = .returned v) ∧
      ((∃ ys, nvals ys = a.reverse ∧ J ys W') ∨ (∃ pre, True ∧ Jx pre W')) := by
  have HL := hid hla
  have hlen0 : Hid (nvals [] = (a.drop a.length).reverse) := by show _ = _; rw [List.drop_of_length_le (Nat.le_refl _)]; rfl
  obtain ⟨N, hN⟩ : ∃ N, N = a.length := ⟨_, rfl⟩
  have HN : Hid (N = a.length) := hN
  rw [← hN] at hla hBn hlen0
  clear hN
  refine callsIn_of_wp Try.func79 rfl hf ?_ hro
  simp only [Try.ntmps79, List.size_toArray, List.length_cons, List.length_nil, Nat.reduceAdd, Nat.reduceSub, Array.replicate_succ, Array.replicate_zero, List.push_toArray, List.append_toArray, List.nil_append, List.cons_append]
  gi_wp2
  gi_loopw [3] (fun i wr => ∃ (k : Nat) (pre : List NK), i = .int .i64 ((k : Int) - 1) ∧ k ≤ N ∧ Hid (nvals pre = (a.drop k).reverse) ∧ J pre wr ∧ Below n0 w wr ∧ wr.cell? ⟨Bn, 0, none⟩ = some (.slice ao N cap))
    (fun i wr => (intOf i + 1).toNat)
  case atStart =>
    exact ⟨N, [], rfl, Nat.le_refl _, hlen0, h0, hB, hBn⟩
  case round =>
    obtain ⟨k, pre, rfl, hk, hP, hJ, hBr, hcr⟩ := hrel
    match k, hk, hP with
    | 0, hk, hP =>
      have ek : ((0 : Nat) : Int) - 1 = -1 := rfl
      rw [ek]
      gi_wp2
      go_end0
      exact ⟨⟨_, rfl⟩, .inl ⟨pre, by rw [hP.out]; rfl, hJ⟩⟩
    | k + 1, hk, hP =>
      have ek : ((k + 1 : Nat) : Int) - 1 = (k : Int) := by omega
      rw [ek]
      have hkl : Hid (k < a.length) := by have := HN.out; show k < a.length; omega
      have hkN : (k : Int) < (N : Int) := by omega
      rcases ao with _ | ad
      · exact (irow_none ra hkl.out).elim
      have c1 := (irow_below ra hBr hw0).2 ad rfl k hkl.out
      have hxb := hb.at (by omega) k
      have hpl : pre.length < a.length := by
        have h1 := congrArg List.length hP.out
        have h2 := hkl.out
        simp [nvals] at h1
        omega
      have hP2 : Hid (nvals (pre ++ [⟨(k, co a k), hxb⟩]) = (a.drop k).reverse) := by show _ = _; rw [nvals_snoc, hP.out, ← drop_rev hkl.out]
      obtain ⟨fn, tmps, assign, body, hy, hR⟩ := hY pre ⟨(k, co a k), hxb⟩ wr hJ hpl
      dsimp only [encN] at hy
      generalize co a k = x at *
      gi_wp2
      refine hR.mono ?_
      rintro e3 W3 (⟨rfl, hJ3, hk3⟩ | ⟨rfl, hJx3⟩)
      · have hc3 := hk3.2 _ hcr
        gi_wp2
        go_roundw
        case rel => exact ⟨k, _, rfl, by omega, hP2, hJ3, hBr.trans hk3.1, hc3⟩
        case measure => show ((k : Int) - 1 + 1).toNat < ((k : Int) + 1).toNat; omega
      · gi_wp2
        refine bodyPost_ret (results_none rfl _ _ _) rfl ?_
        exact ⟨⟨_, rfl⟩, .inr ⟨_, trivial, hJx3⟩⟩

theorem backward_stops (F : Fence) (n : Nat) (hf : F.fn 79) (hro : F.round = none) (hn : 1 ≤ n) (Bn cap : Nat) (ao : Option Addr) (a : List Int) (hb : Bd 251 a) (hla : a.length ≤ 4096) (w : World) (ra : IRow w ao a) (W0 : World) (hB : Below w.heap.size w W0) (hBn : Bn < W0.heap.size)
    (hc : W0.cell? ⟨Bn, 0, none⟩ = some (.slice ao a.length cap)) :
    SeqStopsK F n Try.prog 79 #[.pointer (some ⟨Bn, 0, none⟩)] (fun x : NK => encN x) (KeepB w.heap.size Bn) (fun ys => nvals ys = a.reverse) (fun _ => True) a.length W0 := fun l J Jx W hW _ _ hY h0 =>
  backward1_in F n hf hro hn l Bn cap ao a hb hla w.heap.size w (Nat.le_refl _) ra J Jx hY W (hB.trans (hW.mono hB.size)) ((hW.cell (p := ⟨Bn, 0, none⟩) hBn).trans hc) h0

theorem backward_in (F : Fence) (n : Nat) (hf : F.fn 72) (hro : F.round = none) (ao : Option Addr) (N cap : Nat) (w : World) :
    CallsIn F n Try.prog 72 #[.slice ao N cap] w fun e w' => e = .returned (.func (.func 79) #[] #[.pointer (some ⟨w.heap.size, 0, none⟩)]) ∧ w' = w.alloc (.cells #[.slice ao N cap] 22) := by
  refine callsIn_of_wp Try.func72 rfl hf ?_ hro
  simp only [Try.ntmps72, List.size_toArray, List.length_cons, List.length_nil, Nat.reduceAdd, Nat.reduceSub, Array.replicate_succ, Array.replicate_zero, List.push_toArray, List.append_toArray, List.nil_append, List.cons_append]
  gi_wp2
  go_ret
  exact ⟨rfl, rfl⟩

/-- From the last number on. -/
def fr (p : Nat) (x : Int) : List Int → Nat
  | [] => 0
  | c :: l => rs ((fr p x l : Int) * x + c) p

theorem fr_lt {p : Nat} (hp : 1 ≤ p) (x : Int) : ∀ l, fr p x l < p
  | [] => by show 0 < p; omega
  | c :: l => rs_lt _ hp

theorem fr_ok {p : Nat} (hp : 1 ≤ p) (x : Int) : ∀ l, fr p x l = rs (ev l x) p
  | [] => by show 0 = rs 0 p; rw [rs_zero hp (Int.dvd_zero _)]
  | c :: l => by
    show rs ((fr p x l : Int) * x + c) p = rs (c + x * ev l x) p
    refine rs_of hp ?_
    rw [fr_ok hp x l]
    obtain ⟨u, hu⟩ := rs_cong hp (ev l x)
    refine ⟨u * x, ?_⟩
    generalize (rs (ev l x) p : Int) = r at *
    generalize ev l x = y at *
    grind

def bw (p : Nat) (x : Int) (l : List NK) : Nat := fr p x (nvals l).reverse

theorem bw_snoc (p : Nat) (x : Int) (l : List NK) (y : NK) : bw p x (l ++ [y]) = rs ((bw p x l : Int) * x + y.1.2) p := by
  unfold bw
  rw [nvals_snoc, List.reverse_append]; rfl

theorem mul_big {v x p : Int} (h0 : 0 ≤ v) (h1 : v < p) (hp : p ≤ 251) (hx : -2147483648 ≤ x ∧ x ≤ 2147483648) : -539018133248 ≤ v * x ∧ v * x ≤ 539018133248 := by
  have hv : v ≤ 251 := by omega
  have h2 : v * x ≤ v * 2147483648 := Int.mul_le_mul_of_nonneg_left hx.2 h0
  have h3 : v * (-2147483648) ≤ v * x := Int.mul_le_mul_of_nonneg_left hx.1 h0
  omega

set_option maxRecDepth 100000 in
set_option maxHeartbeats 2000000 in
theorem value_any (p : Nat) (hp1 : 1 ≤ p) (hp : p ≤ 251) (ao : Option Addr) (ca : Nat) (a : List Int) (x : Int) (hx : -2147483648 ≤ x ∧ x ≤ 2147483648) (ha : Bd p a) (hla : a.length ≤ 4096) (w : World) (ra : IRow w ao a) :
    Calls Try.prog 60 #[.int .i64 (p : Int), .slice ao a.length ca, .int .i64 x] w fun e w' => e = .returned (.int .i64 (rs (ev a x) p : Int)) ∧ Below w.heap.size w w' := by
  have cL := fun (y : Int) w => left_any y p hp1 (by omega) w
  have hb251 : Bd 251 a := fun y hy => by have := ha y hy; omega
  have cS := fun (W0 : World) (hB : Below w.heap.size w W0) (Bn : Nat) (hBn : Bn < W0.heap.size) hc => backward_stops Fence.wide 2 trivial rfl (by omega) Bn ca ao a hb251 hla w ra W0 hB hBn hc
  have HD : Hid (∀ ys, nvals ys = a.reverse → (bw p x ys : Int) = (rs (ev a x) p : Int)) := fun ys h => by
    unfold bw
    rw [h, List.reverse_reverse, fr_ok hp1]
  obtain ⟨N, hN⟩ : ∃ N, N = a.length := ⟨_, rfl⟩
  simp only [← hN] at cS ⊢
  generalize rs (ev a x) p = rr at *
  clear hN ha hb251 hla ra
  refine (callsIn_wide (n := 3)).1 ?_
  refine callsIn_of_wp_marks Try.func60 rfl trivial ?_ rfl
  simp only [Try.ntmps60, List.size_toArray, List.length_cons, List.length_nil, Nat.reduceAdd, Nat.reduceSub, Array.replicate_succ, Array.replicate_zero, List.push_toArray, List.append_toArray, List.nil_append, List.cons_append]
  gi_wp2_with (refine ⟨trivial, ?_⟩; gi_at_call 72; refine (backward_in Fence.wide _ trivial rfl _ _ _ _).mono ?_; rintro e w' ⟨rfl, rfl⟩)
  have b0 := (((Boxed.new w 2 (.int .i64 (p : Int))).alloc (.cells #[.int .i64 x] 2)).alloc (.cells #[.int .i64 0] 2)).alloc (.cells #[.slice ao N ca] 22)
  have b1 := ((Boxed.new (w.alloc (.cells #[.int .i64 (p : Int)] 2)) 2 (.int .i64 x)).alloc (.cells #[.int .i64 0] 2)).alloc (.cells #[.slice ao N ca] 22)
  have b2 := (Boxed.new ((w.alloc (.cells #[.int .i64 (p : Int)] 2)).alloc (.cells #[.int .i64 x] 2)) 2 (.int .i64 0)).alloc (.cells #[.slice ao N ca] 22)
  have b3 := Boxed.new (((w.alloc (.cells #[.int .i64 (p : Int)] 2)).alloc (.cells #[.int .i64 x] 2)).alloc (.cells #[.int .i64 0] 2)) 22 (.slice ao N ca)
  simp only [World.size_alloc] at b1 b2 b3
  have hB0 : Below w.heap.size w ((((w.alloc (.cells #[.int .i64 (p : Int)] 2)).alloc (.cells #[.int .i64 x] 2)).alloc (.cells #[.int .i64 0] 2)).alloc (.cells #[.slice ao N ca] 22)) := ((((Below.refl _ w).alloc (Nat.le_refl _) _).alloc (by simp) _).alloc (by simp; omega) _).alloc (by simp; omega) _
  have hsz : ((((w.alloc (.cells #[.int .i64 (p : Int)] 2)).alloc (.cells #[.int .i64 x] 2)).alloc (.cells #[.int .i64 0] 2)).alloc (.cells #[.slice ao N ca] 22)).heap.size = w.heap.size + 4 := by simp
  obtain ⟨W0, hW0⟩ : ∃ W0, (((w.alloc (.cells #[.int .i64 (p : Int)] 2)).alloc (.cells #[.int .i64 x] 2)).alloc (.cells #[.int .i64 0] 2)).alloc (.cells #[.slice ao N ca] 22) = W0 := ⟨_, rfl⟩
  rw [hW0] at b0 b1 b2 b3 hB0 hsz ⊢
  clear hW0
  refine wpIn_rangeFunc_ownF rfl (by omega) (gf := 79) (lb := #[.pointer (some ⟨w.heap.size + 1 + 1 + 1, 0, none⟩)]) rfl trivial (enters_of Try.func79 (by kernel_rfl) rfl)
    (cS W0 hB0 (w.heap.size + 1 + 1 + 1) (by omega) b3.cell) keepB_t (keepB_b (by omega)) (Below.refl _ _) (fun _ => rfl)
    (fun pre W => ((Boxed W w.heap.size 2 (.int .i64 (p : Int)) ∧ Boxed W (w.heap.size + 1) 2 (.int .i64 x)) ∧ Boxed W (w.heap.size + 1 + 1) 2 (.int .i64 (bw p x pre : Int))) ∧ Below w.heap.size w W)
    (fun _ _ _ => False)
    (OwnFrom.and (OwnFrom.and (OwnFrom.and (Own.from (boxed_own _ _ _) _) (Own.from (boxed_own _ _ _) _)) (Own.from (boxed_own _ _ _) _)) (ownFrom_below (Nat.le_refl _) (by omega)))
    (fun _ _ _ _ _ hs _ _ => hs)
    ⟨⟨⟨b0, b1⟩, b2⟩, hB0⟩
    (fun y => { tmps := #[.int .i64 (p : Int), .slice ao N ca, .int .i64 x, .pointer (some ⟨w.heap.size, 0, none⟩), undef, .pointer (some ⟨w.heap.size + 1, 0, none⟩), .int .i64 0, .pointer (some ⟨w.heap.size + 1 + 1, 0, none⟩), undef, .int .i64 y.1.2, .slice ao N ca, .func (.func 79) #[] #[.pointer (some ⟨w.heap.size + 1 + 1 + 1, 0, none⟩)], .int .i64 (y.1.1 : Int), .int .i64 y.1.2, undef, undef, undef, undef, undef, undef, undef, undef], defers := [] })
    ?assign ?body ?done ?stop
  case assign =>
    intro l y W K hK
    gi_wp2
    exact hK
  case body =>
    rintro l pre y W ⟨⟨⟨c0, c1⟩, c2⟩, hB1⟩ _
    have d0 := c0.cell
    have d1 := c1.cell
    have d2 := c2.cell
    have f2 := c2.frozen
    have hs := bw_snoc p x pre y
    have hv := fr_lt hp1 x (nvals pre).reverse
    obtain ⟨v, hv0⟩ : ∃ v, v = bw p x pre := ⟨_, rfl⟩
    rw [← hv0] at d2 c2 hs
    have hvp : v < p := by rw [hv0]; exact hv
    obtain ⟨yy, hyy⟩ : ∃ yy, yy = y.1.2 := ⟨_, rfl⟩
    have hyb : 0 ≤ yy ∧ yy < 251 := by rw [hyy]; exact y.2
    obtain ⟨yi, hyi⟩ : ∃ yi, yi = (y.1.1 : Int) := ⟨_, rfl⟩
    rw [← hyy] at hs
    rw [← hyy, ← hyi]
    have hm := mul_big (v := (v : Int)) (x := x) (p := (p : Int)) (by omega) (by omega) (by omega) hx
    have cL1 := fun w => cL ((v : Int) * x + yy) w
    rw [← hs] at cL1
    obtain ⟨v2, hv2⟩ : ∃ v2, v2 = bw p x (pre ++ [y]) := ⟨_, rfl⟩
    simp only [← hv2] at cL1
    have HV2 := hid hv2
    clear hv hv0 hs hyy hyi hv2
    gi_wp2_with (refine ⟨trivial, ?_⟩; gi_at_call 59; refine (CallsIn.inRound l (callsIn_wide.2 (cL1 _))).mono ?_; rintro e w' ⟨rfl, hw⟩; subst w')
    have k2 := c2.set (.int .i64 (v2 : Int))
    refine ⟨KeepsOthers.setCell _ _ _, ⟨(Below.refl w.heap.size W).setCell (p := ⟨w.heap.size + 1 + 1, 0, none⟩) (by simp; omega) _, fun u hu => ?_⟩, ⟨⟨c0.other (by omega) _, c1.other (by omega) _⟩, by rw [← HV2.out]; exact k2⟩, hB1.setCell (p := ⟨w.heap.size + 1 + 1, 0, none⟩) (by simp; omega) _⟩
    rw [World.cell?_setCell_other]
    · exact hu
    · intro e
      have h2 : w.heap.size + 1 + 1 = w.heap.size + 1 + 1 + 1 := congrArg Addr.block e
      omega
  case done =>
    rintro D ys W hD hF ⟨⟨⟨c0, c1⟩, c2⟩, hB1⟩ hK
    have d2 := c2.cell
    rw [HD.out ys hF] at d2
    gi_wp2
    refine ⟨by simp, .inl ⟨_, _, rfl, run_takeDeferred hK, ?_⟩⟩
    exact ⟨_, results_tmp rfl _ _ _, rfl, hB1.trans (belowK_b (w := w) (Nat.le_refl _) W D _ _ (by omega) hK rfl rfl)⟩
  case stop =>
    rintro D c pre W _ _ h _
    exact h.elim

end Go.Proofs.Ytpnmepobdnclkaa.Calls66
