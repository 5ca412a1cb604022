/-
  What primes.Is, primes.Phi and primes.Mobius answer, at every number.
-/
import Derived.Test.YtpnmepobdnclkaaCalls7
import Derived.ProofKit
import Derived.OpenShut
import Derived.WalkSpells
namespace Go.Proofs.Ytpnmepobdnclkaa.Calls8
set_option linter.unusedVariables false
open Go.RowKit Go.Shelf Go.Proofs.Ytpnmepobdnclkaa.Num Go.Proofs.Ytpnmepobdnclkaa.Calls7

attribute [local go_sem] Oper.semAt_some

/-- A block of cells, whole. -/
def BoxC (W : World) (B : Nat) (t : TypeId) (cs : Array Value) : Prop := W.heap[B]? = some (.cells cs t (0, 0))

theorem BoxC.lt {W : World} {B : Nat} {t : TypeId} {cs : Array Value} (h : BoxC W B t cs) : B < W.heap.size := (Array.getElem?_eq_some_iff.1 h).1

theorem BoxC.cell {W : World} {B : Nat} {t : TypeId} {cs : Array Value} (h : BoxC W B t cs) (i : Nat) : W.cell? ⟨B, i, none⟩ = cs[i]? := by simp [World.cell?, show W.heap[B]? = _ from h]

theorem BoxC.kept {W W' : World} {row : Option Nat} {B : Nat} {t : TypeId} {cs : Array Value} (h : BoxC W B t cs) (hg : W.grownBy W' row) (hne : some B ≠ row) : BoxC W' B t cs := (hg.block B h.lt hne).trans h

theorem BoxC.alloc {W : World} {B : Nat} {t : TypeId} {cs : Array Value} (h : BoxC W B t cs) (o : Obj) : BoxC (W.alloc o) B t cs := h.kept (World.grownBy_alloc W o none) (by simp)

theorem BoxC.new (W : World) (t : TypeId) (cs : Array Value) : BoxC (W.alloc (.cells cs t)) W.heap.size t cs := World.alloc_heap_new W _

theorem BoxC.other {W : World} {B B' : Nat} {t : TypeId} {cs : Array Value} (h : BoxC W B t cs) (hne : B ≠ B') (u : Value) : BoxC (W.setCell ⟨B', 0, none⟩ u) B t cs := h.kept (grownBy_setCell' W B' u) (fun e => hne (by cases e; rfl))

theorem boxC_own {β : Type} (B : Nat) (t : TypeId) (f : β → Array Value) : Own (fun s W => BoxC W B t (f s)) := fun s X Y row hs hg hrow =>
  hs.kept hg (fun e' => by obtain ⟨o, ho, hc⟩ := hrow B e'.symm; rw [show X.heap[B]? = _ from hs] at ho; cases ho; cases hc)

theorem below_trans {a b c : World} (h : Below a.heap.size a b) (k : Below b.heap.size b c) : Below a.heap.size a c := h.trans (k.mono h.size)

theorem pRange_in (F : Fence) (n : Nat) (hf : F.fn 77) (hro : F.round = none) (m : Int) (w : World) :
    CallsIn F n Try.prog 77 #[.int .i64 m] w fun e w' => e = .returned (.bool (decide (1 ≤ m ∧ m ≤ 1048576))) ∧ w' = w := by
  by_cases h1 : 1 ≤ m
  · by_cases h2 : m ≤ 1048576
    · rw [decide_eq_true ⟨h1, h2⟩]
      refine callsIn_of_wp Try.func77 rfl hf ?_ hro
      simp only [Try.ntmps77, List.size_toArray, List.length_cons, List.length_nil, Nat.reduceAdd, Nat.reduceSub, Array.replicate_succ, Array.replicate_zero, List.push_toArray, List.append_toArray, List.nil_append, List.cons_append]
      gi_wp2
      go_ret
      exact ⟨rfl, rfl⟩
    · rw [decide_eq_false (fun h => h2 h.2)]
      refine callsIn_of_wp Try.func77 rfl hf ?_ hro
      simp only [Try.ntmps77, List.size_toArray, List.length_cons, List.length_nil, Nat.reduceAdd, Nat.reduceSub, Array.replicate_succ, Array.replicate_zero, List.push_toArray, List.append_toArray, List.nil_append, List.cons_append]
      gi_wp2
      go_ret
      exact ⟨rfl, rfl⟩
  · rw [decide_eq_false (fun h => h1 h.1)]
    refine callsIn_of_wp Try.func77 rfl hf ?_ hro
    simp only [Try.ntmps77, List.size_toArray, List.length_cons, List.length_nil, Nat.reduceAdd, Nat.reduceSub, Array.replicate_succ, Array.replicate_zero, List.push_toArray, List.append_toArray, List.nil_append, List.cons_append]
    gi_wp2
    go_ret
    exact ⟨rfl, rfl⟩

set_option maxRecDepth 100000 in
set_option maxHeartbeats 2000000 in
theorem Is_in (F : Fence) (n : Nat) (h3 : F.fn 68) (h4 : F.fn 77) (h5 : F.fn 78) (h6 : F.fn 82) (hro : F.round = none) (hn : 3 ≤ n) (m : Nat) (hm1 : 1 ≤ m) (hm2 : m ≤ 1048576) (w : World) :
    CallsIn F n Try.prog 68 #[.int .i64 (m : Int)] w fun e w' => (∃ b : Bool, (b = true ↔ Pr m) ∧ e = .returned (.tuple #[.bool b, .int .i64 0])) ∧ Below w.heap.size w w' := by
  have h1 : 1 ≤ n := by omega
  have hin : decide (1 ≤ (m : Int) ∧ (m : Int) ≤ 1048576) = true := decide_eq_true ⟨by omega, by omega⟩
  have cR := fun w' => pRange_in F (n - 1) h4 hro (m : Int) w'
  rw [hin] at cR
  refine callsIn_of_wp_marks Try.func68 rfl h3 ?_ hro
  simp only [Try.ntmps68, List.size_toArray, List.length_cons, List.length_nil, Nat.reduceAdd, Nat.reduceSub, Array.replicate_succ, Array.replicate_zero, List.push_toArray, List.append_toArray, List.nil_append, List.cons_append]
  gi_wp2_with (first | (gi_at_call 77; refine (cR _).mono ?_; rintro e w' ⟨rfl, hw⟩; subst w') | (gi_at_call 78; refine (powers_in F (n - 1) h5 hro _ _).mono ?_; rintro e w' ⟨rfl, rfl⟩))
  have b0 := (((Boxed.new w 2 (.int .i64 (m : Int))).alloc (.cells #[.bool false] 4)).alloc (.cells #[.int .i64 0] 23)).alloc (.cells #[.int .i64 (m : Int)] 2)
  have b1 := ((Boxed.new (w.alloc (.cells #[.int .i64 (m : Int)] 2)) 4 (.bool false)).alloc (.cells #[.int .i64 0] 23)).alloc (.cells #[.int .i64 (m : Int)] 2)
  have b2 := (Boxed.new ((w.alloc (.cells #[.int .i64 (m : Int)] 2)).alloc (.cells #[.bool false] 4)) 23 (.int .i64 0)).alloc (.cells #[.int .i64 (m : Int)] 2)
  have b3 := Boxed.new (((w.alloc (.cells #[.int .i64 (m : Int)] 2)).alloc (.cells #[.bool false] 4)).alloc (.cells #[.int .i64 0] 23)) 2 (.int .i64 (m : Int))
  simp only [World.size_alloc] at b1 b2 b3
  have hB0 : Below w.heap.size w ((((w.alloc (.cells #[.int .i64 (m : Int)] 2)).alloc (.cells #[.bool false] 4)).alloc (.cells #[.int .i64 0] 23)).alloc (.cells #[.int .i64 (m : Int)] 2)) := ((((Below.refl _ w).alloc (Nat.le_refl _) _).alloc (by simp) _).alloc (by simp; omega) _).alloc (by simp; omega) _
  have hsz : ((((w.alloc (.cells #[.int .i64 (m : Int)] 2)).alloc (.cells #[.bool false] 4)).alloc (.cells #[.int .i64 0] 23)).alloc (.cells #[.int .i64 (m : Int)] 2)).heap.size = w.heap.size + 4 := by simp
  obtain ⟨W0, hW0⟩ : ∃ W0, (((w.alloc (.cells #[.int .i64 (m : Int)] 2)).alloc (.cells #[.bool false] 4)).alloc (.cells #[.int .i64 0] 23)).alloc (.cells #[.int .i64 (m : Int)] 2) = W0 := ⟨_, rfl⟩
  rw [hW0] at b0 b1 b2 b3 hB0 hsz ⊢
  clear hW0
  refine wpIn_rangeFunc_ownH hro h1 (gf := 82) (lb := #[.pointer (some ⟨w.heap.size + 1 + 1 + 1, 0, none⟩)]) rfl h6 (enters_of Try.func82 (by kernel_rfl) rfl)
    (powers_stops F (n - 1) h6 hro (by omega) (w.heap.size + 1 + 1 + 1) m hm1 hm2 (Below w.heap.size) W0 (by omega) b3.cell) belowK_t (belowK_b (by omega)) (Below.refl _ _) (fun _ => rfl)
    (fun pre W => ((pre = [] ∧ Boxed W w.heap.size 2 (.int .i64 (m : Int))) ∧ Boxed W (w.heap.size + 1) 4 (.bool false) ∧ Boxed W (w.heap.size + 1 + 1) 23 (.int .i64 0)) ∧ Below w.heap.size w W)
    (fun c pre W => (((c = .ret ∧ ∃ x : PK, pre = [x]) ∧ Boxed W (w.heap.size + 1) 4 (.bool (((pre.map fun x => x.1.1).headD 0 : Int) == (m : Int)))) ∧ Boxed W (w.heap.size + 1 + 1) 23 (.int .i64 0)) ∧ Below w.heap.size w W)
    (OwnFrom.and (OwnFrom.and (OwnFrom.and (ownFrom_pure _ _) (Own.from (boxed_own _ _ _) _)) (OwnFrom.and (Own.from (boxed_own _ _ _) _) (Own.from (boxed_own _ _ _) _))) (ownFrom_below (Nat.le_refl _) (by omega)))
    (fun c => OwnFrom.and (OwnFrom.and (OwnFrom.and (ownFrom_pure _ _) (Own.from (boxed_own _ _ _) _)) (Own.from (boxed_own _ _ _) _)) (ownFrom_below (Nat.le_refl _) (by omega)))
    ⟨⟨⟨rfl, b0⟩, b1, b2⟩, hB0⟩
    (fun x a' W => ∃ Bx, w.heap.size + 1 + 1 < Bx ∧ BoxC W Bx 107 #[.int .i64 (x.1.1 : Int), .int .i64 (x.1.2 : Int)] ∧ a' = { tmps := #[.int .i64 (m : Int), .pointer (some ⟨w.heap.size, 0, none⟩), .pointer (some ⟨w.heap.size + 1, 0, none⟩), .pointer (some ⟨w.heap.size + 1 + 1, 0, none⟩), .pointer (some ⟨Bx, 0, none⟩), .int .i64 (m : Int), .bool true, .bool false, .int .i64 (m : Int), .func (.func 82) #[] #[.pointer (some ⟨w.heap.size + 1 + 1 + 1, 0, none⟩)], encP x, undef, undef, undef, undef], defers := [] })
    (fun x a' _ X Y row hs hg hr => by obtain ⟨Bx, h1, h2, h3⟩ := hs; exact ⟨Bx, h1, boxC_own Bx 107 (fun (_ : Unit) => #[.int .i64 (x.1.1 : Int), .int .i64 (x.1.2 : Int)]) () X Y row h2 hg (fun r e => (hr r e).2), h3⟩)
    ?assign ?body ?done ?stop
  case assign =>
    rintro l pre x W K ⟨⟨⟨e0, c0⟩, c1, c2⟩, hB1⟩ hK
    gi_wp2
    exact hK _ _ ((KeepsOthers.alloc _ _).from _) ((Below.refl _ W).alloc hB1.size _) ⟨⟨⟨e0, c0.alloc _⟩, c1.alloc _, c2.alloc _⟩, hB1.alloc hB1.size _⟩ ⟨W.heap.size, c2.lt, BoxC.new W 107 _, rfl⟩
  case body =>
    rintro l pre x a' W hl _ ⟨⟨⟨rfl, c0⟩, c1, c2⟩, hB1⟩ ⟨Bx, hBx, bX, rfl⟩ hlt
    have d0 := c0.cell
    have d1 := c1.cell
    have f1 := c1.frozen
    have d2 := c2.cell
    have f2 := c2.frozen
    have dx := bX.cell 0
    simp at dx
    gi_wp2
    refine ⟨((KeepsOthers.setCell _ _ _).trans (KeepsOthers.setCell _ _ _)).from _, ⟨⟨⟨⟨rfl, x, by simp⟩, ?_⟩, ?_⟩, ?_⟩⟩
    · exact (c1.set _).other (by omega) _
    · exact (c2.other (by omega) _).set _
    · exact (hB1.setCell (p := ⟨w.heap.size + 1, 0, none⟩) (by simp) _).setCell (p := ⟨w.heap.size + 1 + 1, 0, none⟩) (by simp; omega) _
  case done =>
    rintro D ys W hD hF ⟨⟨⟨rfl, c0⟩, c1, c2⟩, hB1⟩ hK
    have d1 := c1.cell
    have f1 := c1.frozen
    have d2 := c2.cell
    have f2 := c2.frozen
    gi_wp2
    have g1 := (c1.set (.bool false)).other (show w.heap.size + 1 ≠ w.heap.size + 1 + 1 by omega) (.int .i64 0)
    have g2 := (c2.other (show w.heap.size + 1 + 1 ≠ w.heap.size + 1 by omega) (.bool false)).set (.int .i64 0)
    have hK' := ((KeepsOthers.setCell W ⟨w.heap.size + 1, 0, none⟩ (.bool false)).trans (KeepsOthers.setCell _ ⟨w.heap.size + 1 + 1, 0, none⟩ (.int .i64 0))).same D _ hK rfl
    refine ⟨by simp, .inl ⟨_, _, rfl, run_takeDeferred hK', ?_⟩⟩
    have k1 := (g1.kept (grownBy_putObj' _ D (.deferred none)) (fun e => by cases e; omega)).cell
    have k2 := (g2.kept (grownBy_putObj' _ D (.deferred none)) (fun e => by cases e; omega)).cell
    refine ⟨.tuple #[.bool false, .int .i64 0], ?_, ⟨false, ⟨fun h => (by cases h), fun h => ?_⟩, rfl⟩, ?_⟩
    · simp [results, Try.f68, go_sem, k1, k2]
    · have e1 := hF.unique (Fac.prime h)
      simp [vals] at e1
    · exact ((hB1.setCell (p := ⟨w.heap.size + 1, 0, none⟩) (by simp) _).setCell (p := ⟨w.heap.size + 1 + 1, 0, none⟩) (by simp; omega) _).trans (belowK_b (w := w) (Nat.le_refl _) _ D _ _ (by omega) hK' rfl rfl)
  case stop =>
    rintro D c pre W hD hF ⟨⟨⟨⟨rfl, x, rfl⟩, c1⟩, c2⟩, hB1⟩ hK
    have d1 := c1.cell
    have d2 := c2.cell
    gi_wp2
    refine ⟨by simp, .inl ⟨_, _, rfl, run_takeDeferred hK, ?_⟩⟩
    have k1 := (c1.kept (grownBy_putObj' _ D (.deferred none)) (fun e => by cases e; omega)).cell
    have k2 := (c2.kept (grownBy_putObj' _ D (.deferred none)) (fun e => by cases e; omega)).cell
    obtain ⟨rest, hF⟩ := hF
    refine ⟨.tuple #[.bool ((x.1.1 : Int) == (m : Int)), .int .i64 0], ?_, ⟨_, ⟨fun h => ?_, fun h => ?_⟩, rfl⟩, ?_⟩
    · simp at k1
      simp [results, Try.f68, go_sem, k1, k2]
    · have e1 : (x.1.1 : Int) = (m : Int) := by simpa using h
      have e2 : x.1.1 = m := by omega
      rw [← e2]
      exact (hF.1 x.1 (by simp [vals])).1
    · have e1 := hF.unique (Fac.prime h)
      simp [vals] at e1
      rw [e1.1]; simp
    · exact hB1.trans (belowK_b (w := w) (Nat.le_refl _) _ D _ _ (by omega) hK rfl rfl)

set_option maxRecDepth 100000 in
theorem Is_out (F : Fence) (n : Nat) (h3 : F.fn 68) (h4 : F.fn 77) (hro : F.round = none) (hn : 3 ≤ n) (m : Int) (hm : ¬ (1 ≤ m ∧ m ≤ 1048576)) (w : World) :
    CallsIn F n Try.prog 68 #[.int .i64 m] w fun e w' => e = .returned (.tuple #[.bool false, .int .i64 2]) ∧ Below w.heap.size w w' := by
  have h1 : 1 ≤ n := by omega
  have hin : decide (1 ≤ m ∧ m ≤ 1048576) = false := decide_eq_false hm
  have cR := fun w' => pRange_in F (n - 1) h4 hro m w'
  rw [hin] at cR
  refine callsIn_of_wp Try.func68 rfl h3 ?_ hro
  simp only [Try.ntmps68, List.size_toArray, List.length_cons, List.length_nil, Nat.reduceAdd, Nat.reduceSub, Array.replicate_succ, Array.replicate_zero, List.push_toArray, List.append_toArray, List.nil_append, List.cons_append]
  gi_wp2_with (gi_at_call 77; refine (cR _).mono ?_; rintro e w' ⟨rfl, hw⟩; subst w')
  have k1 := ((Boxed.new (w.alloc (.cells #[.int .i64 m] 2)) 4 (.bool false)).alloc (.cells #[.int .i64 2] 23)).cell
  have k2 := (Boxed.new ((w.alloc (.cells #[.int .i64 m] 2)).alloc (.cells #[.bool false] 4)) 23 (.int .i64 2)).cell
  simp only [World.size_alloc] at k1 k2
  refine bodyPost_ret (v := .tuple #[.bool false, .int .i64 2]) (by simp [results, Try.f68, go_sem, k1, k2]) rfl ⟨rfl, ?_⟩
  exact (((Below.refl _ w).alloc (Nat.le_refl _) _).alloc (by simp) _).alloc (by simp; omega) _

def phf (c : Nat) (l : List (Nat × Nat)) : Nat := l.foldl (fun c x => c - c / x.1) c

theorem phf_snoc (c : Nat) (l : List (Nat × Nat)) (x : Nat × Nat) : phf c (l ++ [x]) = phf c l - phf c l / x.1 := by simp [phf]

theorem phf_le (c : Nat) (l : List (Nat × Nat)) : phf c l ≤ c := by
  induction l generalizing c with
  | nil => simp [phf]
  | cons x xs ih =>
    have h := ih (c - c / x.1)
    simp only [phf, List.foldl_cons] at h ⊢
    exact Nat.le_trans h (Nat.sub_le _ _)

def mob (l : List (Nat × Nat)) : Int := if l.any (fun x => decide (1 < x.2)) then 0 else if l.length % 2 = 1 then -1 else 1

def sgn (l : List PK) : Int := if l.length % 2 = 1 then -1 else 1

theorem sgn_snoc (l : List PK) (x : PK) : sgn (l ++ [x]) = - sgn l := by
  unfold sgn
  simp only [List.length_append, List.length_cons, List.length_nil]
  split <;> split <;> omega

theorem sgn_two (l : List PK) : sgn l = 1 ∨ sgn l = -1 := by unfold sgn; split <;> simp

theorem mob_zero {l : List (Nat × Nat)} (h : ∃ x ∈ l, 1 < x.2) : mob l = 0 := by
  unfold mob
  rw [if_pos]
  obtain ⟨x, hx, hk⟩ := h
  exact List.any_eq_true.2 ⟨x, hx, by simpa using hk⟩

def Ones (l : List PK) : Prop := ∀ x ∈ l, x.1.2 ≤ 1

theorem mob_sgn {l : List PK} (h : Ones l) : mob (vals l) = sgn l := by
  unfold mob
  rw [if_neg, vals_length]; rfl
  intro he
  obtain ⟨x, hx, hk⟩ := List.any_eq_true.1 he
  obtain ⟨y, hy, rfl⟩ := List.mem_map.1 hx
  have := h y hy
  simp at hk
  omega

end Go.Proofs.Ytpnmepobdnclkaa.Calls8
