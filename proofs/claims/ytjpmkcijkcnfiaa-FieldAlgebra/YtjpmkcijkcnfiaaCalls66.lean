/-
  Package poly: what a polynomial is at a place: slices.Backward and what ranges over it.
-/
import Derived.Test.YtjpmkcijkcnfiaaCalls56
import Derived.Test.YtjpmkcijkcnfiaaFoldB
import Derived.RangeFuncNested
import Derived.RangeFuncBound
import Derived.RangeFuncCalls
import Derived.RangeFuncLeaves
import Derived.Shelf.Abstract
import Derived.Shelf.RegionOpen
import Derived.OwnWalkIn
import Derived.TacticsInMore
import Derived.LoopNIn
import Derived.LoopIn
namespace Go.Proofs.Ytjpmkcijkcnfiaa.Calls66
set_option linter.unusedVariables false
open Go.ChangeShapes Go.WideShapes Go.ChangeAt Go.RowKit Go.Shelf Go.Proofs.Ytjpmkcijkcnfiaa.Base Go.Proofs.Ytjpmkcijkcnfiaa.Num Go.Proofs.Ytjpmkcijkcnfiaa.Num7 Go.Proofs.Ytjpmkcijkcnfiaa.Num13 Go.Proofs.Ytjpmkcijkcnfiaa.Num16 Go.Proofs.Ytjpmkcijkcnfiaa.Num17 Go.Proofs.Ytjpmkcijkcnfiaa.Num34 Go.Proofs.Ytjpmkcijkcnfiaa.Base4 Go.Proofs.Ytjpmkcijkcnfiaa.Calls56

attribute [local go_sem] Oper.semAt_some

/-- A number with its place, as it comes. -/
abbrev NK := { x : Nat × Int // 0 ≤ x.2 ∧ x.2 < 251 }

def nvals (l : List NK) : List Int := l.map (·.1.2)

theorem nvals_snoc (l : List NK) (x : NK) : nvals (l ++ [x]) = nvals l ++ [x.1.2] := by simp [nvals]

abbrev encN (x : NK) : Array Value := #[.int .i64 (x.1.1 : Int), .int .i64 x.1.2]

/-- What a round keeps: what lay below, and the iterator's own box. -/
def KeepB (n0 B : Nat) (W W' : World) : Prop := Below n0 W W' ∧ ∀ v, W.cell? ⟨B, 0, none⟩ = some v → W'.cell? ⟨B, 0, none⟩ = some v

theorem keepB_t {n0 B : Nat} {A C D : World} (h : KeepB n0 B A C) (k : KeepB n0 B C D) : KeepB n0 B A D := ⟨h.1.trans k.1, fun v hv => k.2 v (h.2 v hv)⟩

theorem keepB_b {n0 B : Nat} {w : World} (hn : n0 ≤ w.heap.size) (W : World) (l : Nat) (o o' : Obj) (hl : w.heap.size ≤ l) (h : W.heap[l]? = some o) (hc : o.isCells = false) (hw : o.isWalk = false) : KeepB n0 B W (W.putObj l o') :=
  ⟨belowK_b hn W l o o' hl h hc hw, fun v hv => cell_kept hv (grownBy_putObj' W l o') (fun r e => by cases e; exact ⟨o, h, hc⟩)⟩

theorem drop_rev {a : List Int} {k : Nat} (h : k < a.length) : (a.drop k).reverse = (a.drop (k + 1)).reverse ++ [co a k] := by
  rw [List.drop_eq_getElem_cons h, List.reverse_cons]
  simp [co, List.getD, h]

set_option maxRecDepth 100000 in
theorem backward1_in (F : Fence) (n : Nat) (hf : F.fn 70) (hro : F.round = none) (hn : 1 ≤ n) (l Bn cap : Nat) (ao : Option Addr) (a : List Int) (hb : Bd 251 a) (hla : a.length ≤ 4096) (n0 : Nat) (w : World) (hw0 : w.heap.size ≤ n0) (ra : IRow w ao a) (J Jx : List NK → World → Prop)
    (hY : ∀ pre x W, J pre W → pre.length < a.length → YieldAt F (n - 1) Try.prog l (encN x) W fun e W' =>
      (e = .returned (.bool true) ∧ J (pre ++ [x]) W' ∧ KeepB n0 Bn W W') ∨ (e = .returned (.bool false) ∧ Jx (pre ++ [x]) W'))
    (W : World) (hB : Below n0 w W) (hBn : W.cell? ⟨Bn, 0, none⟩ = some (.slice ao a.length cap)) (h0 : J [] W) :
    CallsIn F n Try.prog 70 #[.func (.yield l) #[] #[], .pointer (some ⟨Bn, 0, none⟩)] W fun e W' => (∃ v, e = .returned v) ∧
      ((∃ ys, nvals ys = a.reverse ∧ J ys W') ∨ (∃ pre, True ∧ Jx pre W')) := by
  have HL := hid hla
  have hlen0 : Hid (nvals [] = (a.drop a.length).reverse) := by show _ = _; rw [List.drop_of_length_le (Nat.le_refl _)]; rfl
  obtain ⟨N, hN⟩ : ∃ N, N = a.length := ⟨_, rfl⟩
  have HN : Hid (N = a.length) := hN
  rw [← hN] at hla hBn hlen0
  clear hN
  refine callsIn_of_wp Try.func70 rfl hf ?_ hro
  simp only [Try.ntmps70, List.size_toArray, List.length_cons, List.length_nil, Nat.reduceAdd, Nat.reduceSub, Array.replicate_succ, Array.replicate_zero, List.push_toArray, List.append_toArray, List.nil_append, List.cons_append]
  gi_wp2
  gi_loopw [3] (fun i wr => ∃ (k : Nat) (pre : List NK), i = .int .i64 ((k : Int) - 1) ∧ k ≤ N ∧ Hid (nvals pre = (a.drop k).reverse) ∧ J pre wr ∧ Below n0 w wr ∧ wr.cell? ⟨Bn, 0, none⟩ = some (.slice ao N cap))
    (fun i wr => (intOf i + 1).toNat)
  case atStart =>
    exact ⟨N, [], rfl, Nat.le_refl _, hlen0, h0, hB, hBn⟩
  case round =>
    obtain ⟨k, pre, rfl, hk, hP, hJ, hBr, hcr⟩ := hrel
    match k, hk, hP with
    | 0, hk, hP =>
      have ek : ((0 : Nat) : Int) - 1 = -1 := rfl
      rw [ek]
      gi_wp2
      go_end0
      exact ⟨⟨_, rfl⟩, .inl ⟨pre, by rw [hP.out]; rfl, hJ⟩⟩
    | k + 1, hk, hP =>
      have ek : ((k + 1 : Nat) : Int) - 1 = (k : Int) := by omega
      rw [ek]
      have hkl : Hid (k < a.length) := by have := HN.out; show k < a.length; omega
      have hkN : (k : Int) < (N : Int) := by omega
      rcases ao with _ | ad
      · exact (irow_none ra hkl.out).elim
      have c1 := (irow_below ra hBr hw0).2 ad rfl k hkl.out
      have hxb := hb.at (by omega) k
      have hpl : pre.length < a.length := by
        have h1 := congrArg List.length hP.out
        have h2 := hkl.out
        simp [nvals] at h1
        omega
      have hP2 : Hid (nvals (pre ++ [⟨(k, co a k), hxb⟩]) = (a.drop k).reverse) := by show _ = _; rw [nvals_snoc, hP.out, ← drop_rev hkl.out]
      obtain ⟨fn, tmps, assign, body, hy, hR⟩ := hY pre ⟨(k, co a k), hxb⟩ wr hJ hpl
      dsimp only [encN] at hy
      generalize co a k = x at *
      gi_wp2
      refine hR.mono ?_
      rintro e3 W3 (⟨rfl, hJ3, hk3⟩ | ⟨rfl, hJx3⟩)
      · have hc3 := hk3.2 _ hcr
        gi_wp2
        go_roundw
        case rel => exact ⟨k, _, rfl, by omega, hP2, hJ3, hBr.trans hk3.1, hc3⟩
        case measure => show ((k : Int) - 1 + 1).toNat < ((k : Int) + 1).toNat; omega
      · gi_wp2
        refine bodyPost_ret (results_none rfl _ _ _) rfl ?_
        exact ⟨⟨_, rfl⟩, .inr ⟨_, trivial, hJx3⟩⟩

theorem backward_stops (F : Fence) (n : Nat) (hf : F.fn 70) (hro : F.round = none) (hn : 1 ≤ n) (Bn cap : Nat) (ao : Option Addr) (a : List Int) (hb : Bd 251 a) (hla : a.length ≤ 4096) (w : World) (ra : IRow w ao a) (W0 : World) (hB : Below w.heap.size w W0) (hBn : Bn < W0.heap.size)
    (hc : W0.cell? ⟨Bn, 0, none⟩ = some (.slice ao a.length cap)) :
    SeqStopsK F n Try.prog 70 #[.pointer (some ⟨Bn, 0, none⟩)] (fun x : NK => encN x) (KeepB w.heap.size Bn) (fun ys => nvals ys = a.reverse) (fun _ => True) a.length W0 := fun l J Jx W hW _ _ hY h0 =>
  backward1_in F n hf hro hn l Bn cap ao a hb hla w.heap.size w (Nat.le_refl _) ra J Jx hY W (hB.trans (hW.mono hB.size)) ((hW.cell (p := ⟨Bn, 0, none⟩) hBn).trans hc) h0

theorem backward_in (F : Fence) (n : Nat) (hf : F.fn 58) (hro : F.round = none) (ao : Option Addr) (N cap : Nat) (w : World) :
    CallsIn F n Try.prog 58 #[.slice ao N cap] w fun e w' => e = .returned (.func (.func 70) #[] #[.pointer (some ⟨w.heap.size, 0, none⟩)]) ∧ w' = w.alloc (.cells #[.slice ao N cap] 22) := by
  refine callsIn_of_wp Try.func58 rfl hf ?_ hro
  simp only [Try.ntmps58, List.size_toArray, List.length_cons, List.length_nil, Nat.reduceAdd, Nat.reduceSub, Array.replicate_succ, Array.replicate_zero, List.push_toArray, List.append_toArray, List.nil_append, List.cons_append]
  gi_wp2
  go_ret
  exact ⟨rfl, rfl⟩

/-- From the last number on. -/
def fr (p : Nat) (x : Int) : List Int → Nat
  | [] => 0
  | c :: l => rs ((fr p x l : Int) * x + c) p

theorem fr_lt {p : Nat} (hp : 1 ≤ p) (x : Int) : ∀ l, fr p x l < p
  | [] => by show 0 < p; omega
  | c :: l => rs_lt _ hp

theorem fr_ok {p : Nat} (hp : 1 ≤ p) (x : Int) : ∀ l, fr p x l = rs (ev l x) p
  | [] => by show 0 = rs 0 p; rw [rs_zero hp (Int.dvd_zero _)]
  | c :: l => by
    show rs ((fr p x l : Int) * x + c) p = rs (c + x * ev l x) p
    refine rs_of hp ?_
    rw [fr_ok hp x l]
    obtain ⟨u, hu⟩ := rs_cong hp (ev l x)
    refine ⟨u * x, ?_⟩
    generalize (rs (ev l x) p : Int) = r at *
    generalize ev l x = y at *
    grind

def bw (p : Nat) (x : Int) (l : List NK) : Nat := fr p x (nvals l).reverse

theorem bw_snoc (p : Nat) (x : Int) (l : List NK) (y : NK) : bw p x (l ++ [y]) = rs ((bw p x l : Int) * x + y.1.2) p := by
  unfold bw
  rw [nvals_snoc, List.reverse_append]; rfl

theorem mul_big {v x p : Int} (h0 : 0 ≤ v) (h1 : v < p) (hp : p ≤ 251) (hx : -2147483648 ≤ x ∧ x ≤ 2147483648) : -539018133248 ≤ v * x ∧ v * x ≤ 539018133248 := by
  have hv : v ≤ 251 := by omega
  have h2 : v * x ≤ v * 2147483648 := Int.mul_le_mul_of_nonneg_left hx.2 h0
  have h3 : v * (-2147483648) ≤ v * x := Int.mul_le_mul_of_nonneg_left hx.1 h0
  omega

end Go.Proofs.Ytjpmkcijkcnfiaa.Calls66
