/-
  What primes.Is, primes.Phi and primes.Mobius answer, at every number.
-/
import Derived.Test.YtnciahbpmajhdabCalls7
import Derived.ProofKit
import Derived.OpenShut
import Derived.WalkSpells
namespace Go.Proofs.Ytnciahbpmajhdab.Calls8
set_option linter.unusedVariables false
open Go.RowKit Go.Shelf Go.Proofs.Ytnciahbpmajhdab.Num Go.Proofs.Ytnciahbpmajhdab.Calls7

attribute [local go_sem] Oper.semAt_some

/-- A block of cells, whole. -/
def BoxC (W : World) (B : Nat) (t : TypeId) (cs : Array Value) : Prop := W.heap[B]? = some (.cells cs t (0, 0))

theorem BoxC.lt {W : World} {B : Nat} {t : TypeId} {cs : Array Value} (h : BoxC W B t cs) : B < W.heap.size := (Array.getElem?_eq_some_iff.1 h).1

theorem BoxC.cell {W : World} {B : Nat} {t : TypeId} {cs : Array Value} (h : BoxC W B t cs) (i : Nat) : W.cell? ⟨B, i, none⟩ = cs[i]? := by simp [World.cell?, show W.heap[B]? = _ from h]

theorem BoxC.kept {W W' : World} {row : Option Nat} {B : Nat} {t : TypeId} {cs : Array Value} (h : BoxC W B t cs) (hg : W.grownBy W' row) (hne : some B ≠ row) : BoxC W' B t cs := (hg.block B h.lt hne).trans h

theorem BoxC.alloc {W : World} {B : Nat} {t : TypeId} {cs : Array Value} (h : BoxC W B t cs) (o : Obj) : BoxC (W.alloc o) B t cs := h.kept (World.grownBy_alloc W o none) (by simp)

theorem BoxC.new (W : World) (t : TypeId) (cs : Array Value) : BoxC (W.alloc (.cells cs t)) W.heap.size t cs := World.alloc_heap_new W _

theorem BoxC.other {W : World} {B B' : Nat} {t : TypeId} {cs : Array Value} (h : BoxC W B t cs) (hne : B ≠ B') (u : Value) : BoxC (W.setCell ⟨B', 0, none⟩ u) B t cs := h.kept (grownBy_setCell' W B' u) (fun e => hne (by cases e; rfl))

theorem boxC_own {β : Type} (B : Nat) (t : TypeId) (f : β → Array Value) : Own (fun s W => BoxC W B t (f s)) := fun s X Y row hs hg hrow =>
  hs.kept hg (fun e' => by obtain ⟨o, ho, hc⟩ := hrow B e'.symm; rw [show X.heap[B]? = _ from hs] at ho; cases ho; cases hc)

theorem below_trans {a b c : World} (h : Below a.heap.size a b) (k : Below b.heap.size b c) : Below a.heap.size a c := h.trans (k.mono h.size)

theorem pRange_in (F : Fence) (n : Nat) (hf : F.fn 15) (hro : F.round = none) (m : Int) (w : World) :
    CallsIn F n Try.prog 15 #[.int .i64 m] w fun e w' => e = .returned (.bool (decide (1 ≤ m ∧ m ≤ 1048576))) ∧ w' = w := by
  by_cases h1 : 1 ≤ m
  · by_cases h2 : m ≤ 1048576
    · rw [decide_eq_true ⟨h1, h2⟩]
      refine callsIn_of_wp Try.func15 rfl hf ?_ hro
      simp only [Try.ntmps15, List.size_toArray, List.length_cons, List.length_nil, Nat.reduceAdd, Nat.reduceSub, Array.replicate_succ, Array.replicate_zero, List.push_toArray, List.append_toArray, List.nil_append, List.cons_append]
      gi_wp2
      go_ret
      exact ⟨rfl, rfl⟩
    · rw [decide_eq_false (fun h => h2 h.2)]
      refine callsIn_of_wp Try.func15 rfl hf ?_ hro
      simp only [Try.ntmps15, List.size_toArray, List.length_cons, List.length_nil, Nat.reduceAdd, Nat.reduceSub, Array.replicate_succ, Array.replicate_zero, List.push_toArray, List.append_toArray, List.nil_append, List.cons_append]
      gi_wp2
      go_ret
      exact ⟨rfl, rfl⟩
  · rw [decide_eq_false (fun h => h1 h.1)]
    refine callsIn_of_wp Try.func15 rfl hf ?_ hro
    simp only [Try.ntmps15, List.size_toArray, List.length_cons, List.length_nil, Nat.reduceAdd, Nat.reduceSub, Array.replicate_succ, Array.replicate_zero, List.push_toArray, List.append_toArray, List.nil_append, List.cons_append]
    gi_wp2
    go_ret
    exact ⟨rfl, rfl⟩

def phf (c : Nat) (l : List (Nat × Nat)) : Nat := l.foldl (fun c x => c - c / x.1) c

theorem phf_snoc (c : Nat) (l : List (Nat × Nat)) (x : Nat × Nat) : phf c (l ++ [x]) = phf c l - phf c l / x.1 := by simp [phf]

theorem phf_le (c : Nat) (l : List (Nat × Nat)) : phf c l ≤ c := by
  induction l generalizing c with
  | nil => simp [phf]
  | cons x xs ih =>
    have h := ih (c - c / x.1)
    simp only [phf, List.foldl_cons] at h ⊢
    exact Nat.le_trans h (Nat.sub_le _ _)

def mob (l : List (Nat × Nat)) : Int := if l.any (fun x => decide (1 < x.2)) then 0 else if l.length % 2 = 1 then -1 else 1

def sgn (l : List PK) : Int := if l.length % 2 = 1 then -1 else 1

theorem sgn_snoc (l : List PK) (x : PK) : sgn (l ++ [x]) = - sgn l := by
  unfold sgn
  simp only [List.length_append, List.length_cons, List.length_nil]
  split <;> split <;> omega

theorem sgn_two (l : List PK) : sgn l = 1 ∨ sgn l = -1 := by unfold sgn; split <;> simp

theorem mob_zero {l : List (Nat × Nat)} (h : ∃ x ∈ l, 1 < x.2) : mob l = 0 := by
  unfold mob
  rw [if_pos]
  obtain ⟨x, hx, hk⟩ := h
  exact List.any_eq_true.2 ⟨x, hx, by simpa using hk⟩

def Ones (l : List PK) : Prop := ∀ x ∈ l, x.1.2 ≤ 1

theorem mob_sgn {l : List PK} (h : Ones l) : mob (vals l) = sgn l := by
  unfold mob
  rw [if_neg, vals_length]; rfl
  intro he
  obtain ⟨x, hx, hk⟩ := List.any_eq_true.1 he
  obtain ⟨y, hy, rfl⟩ := List.mem_map.1 hx
  have := h y hy
  simp at hk
  omega

set_option maxRecDepth 100000 in
set_option maxHeartbeats 2000000 in
theorem Phi_in (F : Fence) (n : Nat) (h3 : F.fn 8) (h4 : F.fn 15) (h5 : F.fn 16) (h6 : F.fn 23) (hro : F.round = none) (hn : 3 ≤ n) (m : Nat) (hm1 : 1 ≤ m) (hm2 : m ≤ 1048576) (w : World) :
    CallsIn F n Try.prog 8 #[.int .i64 (m : Int)] w fun e w' => (∃ l, Fac m l ∧ e = .returned (.tuple #[.int .i64 (phf m l : Int), .int .i64 0])) ∧ Below w.heap.size w w' := by
  have h1 : 1 ≤ n := by omega
  have hin : decide (1 ≤ (m : Int) ∧ (m : Int) ≤ 1048576) = true := decide_eq_true ⟨by omega, by omega⟩
  have cR := fun w' => pRange_in F (n - 1) h4 hro (m : Int) w'
  rw [hin] at cR
  refine callsIn_of_wp_marks Try.func8 rfl h3 ?_ hro
  simp only [Try.ntmps8, List.size_toArray, List.length_cons, List.length_nil, Nat.reduceAdd, Nat.reduceSub, Array.replicate_succ, Array.replicate_zero, List.push_toArray, List.append_toArray, List.nil_append, List.cons_append]
  gi_wp2_with (first | (gi_at_call 15; refine (cR _).mono ?_; rintro e w' ⟨rfl, hw⟩; subst w') | (gi_at_call 16; refine (powers_in F (n - 1) h5 hro _ _).mono ?_; rintro e w' ⟨rfl, rfl⟩))
  have b0 := (Boxed.new w 2 (.int .i64 (m : Int))).alloc (.cells #[.int .i64 (m : Int)] 2)
  have b3 := Boxed.new (w.alloc (.cells #[.int .i64 (m : Int)] 2)) 2 (.int .i64 (m : Int))
  simp only [World.size_alloc] at b3
  have hB0 : Below w.heap.size w ((w.alloc (.cells #[.int .i64 (m : Int)] 2)).alloc (.cells #[.int .i64 (m : Int)] 2)) := ((Below.refl _ w).alloc (Nat.le_refl _) _).alloc (by simp) _
  have hsz : ((w.alloc (.cells #[.int .i64 (m : Int)] 2)).alloc (.cells #[.int .i64 (m : Int)] 2)).heap.size = w.heap.size + 2 := by simp
  obtain ⟨W0, hW0⟩ : ∃ W0, (w.alloc (.cells #[.int .i64 (m : Int)] 2)).alloc (.cells #[.int .i64 (m : Int)] 2) = W0 := ⟨_, rfl⟩
  rw [hW0] at b0 b3 hB0 hsz ⊢
  clear hW0
  refine wpIn_rangeFunc_ownH hro h1 (gf := 23) (lb := #[.pointer (some ⟨w.heap.size + 1, 0, none⟩)]) rfl h6 (enters_of Try.func23 (by kernel_rfl) rfl)
    (powers_stops F (n - 1) h6 hro (by omega) (w.heap.size + 1) m hm1 hm2 (Below w.heap.size) W0 (by omega) b3.cell) belowK_t (belowK_b (by omega)) (Below.refl _ _) (fun _ => rfl)
    (fun pre W => Boxed W w.heap.size 2 (.int .i64 (phf m (vals pre) : Int)) ∧ Below w.heap.size w W)
    (fun _ _ _ => False)
    (OwnFrom.and (Own.from (boxed_own _ _ _) _) (ownFrom_below (Nat.le_refl _) (by omega)))
    (fun _ _ _ _ _ hs _ _ => hs)
    ⟨b0, hB0⟩
    (fun x a' W => ∃ Bx, w.heap.size < Bx ∧ BoxC W Bx 38 #[.int .i64 (x.1.1 : Int), .int .i64 (x.1.2 : Int)] ∧ a' = { tmps := #[.int .i64 (m : Int), undef, .int .i64 0, .int .i64 0, .pointer (some ⟨w.heap.size, 0, none⟩), .pointer (some ⟨Bx, 0, none⟩), .int .i64 (m : Int), .bool true, .bool false, .int .i64 (m : Int), .int .i64 (m : Int), .func (.func 23) #[] #[.pointer (some ⟨w.heap.size + 1, 0, none⟩)], encP x, undef, undef, undef, undef, undef, undef, undef], defers := [] })
    (fun x a' _ X Y row hs hg hr => by obtain ⟨Bx, h1, h2, h3⟩ := hs; exact ⟨Bx, h1, boxC_own Bx 38 (fun (_ : Unit) => #[.int .i64 (x.1.1 : Int), .int .i64 (x.1.2 : Int)]) () X Y row h2 hg (fun r e => (hr r e).2), h3⟩)
    ?assign ?body ?done ?stop
  case assign =>
    rintro l pre x W K ⟨c0, hB1⟩ hK
    gi_wp2
    exact hK _ _ ((KeepsOthers.alloc _ _).from _) ((Below.refl _ W).alloc hB1.size _) ⟨c0.alloc _, hB1.alloc hB1.size _⟩ ⟨W.heap.size, c0.lt, BoxC.new W 38 _, rfl⟩
  case body =>
    rintro l pre x a' W hl _ ⟨c0, hB1⟩ ⟨Bx, hBx, bX, rfl⟩ hlt
    have d0 := c0.cell
    have f0 := c0.frozen
    have dx := bX.cell 0
    simp at dx
    have hx2 := x.2.1
    have hp0 : ¬ (x.1.1 : Int) = 0 := by omega
    have hle := phf_le m (vals pre)
    have hdle : phf m (vals pre) / x.1.1 ≤ phf m (vals pre) := Nat.div_le_self _ _
    have e1 := phf_snoc m (vals pre) x.1
    obtain ⟨c, hc⟩ : ∃ c, phf m (vals pre) = c := ⟨_, rfl⟩
    rw [hc] at d0 hle hdle e1 c0
    have hq0 : 0 ≤ (c : Int) / (x.1.1 : Int) := Int.ediv_nonneg (by omega) (by omega)
    have hq1 : (c : Int) / (x.1.1 : Int) ≤ 1048576 := by
      have h : (c : Int) / (x.1.1 : Int) = ((c / x.1.1 : Nat) : Int) := by simp
      rw [h]; omega
    have hcast : ((c - c / x.1.1 : Nat) : Int) = (c : Int) - (c : Int) / (x.1.1 : Int) := by rw [Int.natCast_sub hdle]; simp
    have hmx : Try.prog.follows .mixedOrders = true := by kernel_rfl
    clear hc
    gi_wp2
    gi_region_with_o (fail)
    all_goals gi_wp2
    all_goals (try go_bits)
    all_goals exact ⟨((KeepsOthers.setCell _ _ _).trans (KeepsOthers.drew _)).from _, ((Below.refl _ W).setCell (p := ⟨w.heap.size, 0, none⟩) (Nat.le_refl _) _).drew, by rw [vals_snoc, e1, hcast]; exact c0.set _, (hB1.setCell (p := ⟨w.heap.size, 0, none⟩) (Nat.le_refl _) _).drew⟩
  case done =>
    rintro D ys W hD hF ⟨c0, hB1⟩ hK
    have d0 := c0.cell
    gi_wp2
    refine ⟨by simp, .inl ⟨_, _, rfl, run_takeDeferred hK, ?_⟩⟩
    refine ⟨.tuple #[.int .i64 (phf m (vals ys) : Int), .int .i64 0], ?_, ⟨_, hF, rfl⟩, hB1.trans (belowK_b (w := w) (Nat.le_refl _) W D _ _ (by omega) hK rfl rfl)⟩
    simp [results, Try.f8, go_sem]
  case stop =>
    rintro D c pre W _ _ h _
    exact h.elim

set_option maxRecDepth 100000 in
theorem Phi_out (F : Fence) (n : Nat) (h3 : F.fn 8) (h4 : F.fn 15) (hro : F.round = none) (hn : 3 ≤ n) (m : Int) (hm : ¬ (1 ≤ m ∧ m ≤ 1048576)) (w : World) :
    CallsIn F n Try.prog 8 #[.int .i64 m] w fun e w' => e = .returned (.tuple #[.int .i64 0, .int .i64 2]) ∧ Below w.heap.size w w' := by
  have h1 : 1 ≤ n := by omega
  have hin : decide (1 ≤ m ∧ m ≤ 1048576) = false := decide_eq_false hm
  have cR := fun w' => pRange_in F (n - 1) h4 hro m w'
  rw [hin] at cR
  refine callsIn_of_wp Try.func8 rfl h3 ?_ hro
  simp only [Try.ntmps8, List.size_toArray, List.length_cons, List.length_nil, Nat.reduceAdd, Nat.reduceSub, Array.replicate_succ, Array.replicate_zero, List.push_toArray, List.append_toArray, List.nil_append, List.cons_append]
  gi_wp2_with (gi_at_call 15; refine (cR _).mono ?_; rintro e w' ⟨rfl, hw⟩; subst w')
  refine bodyPost_ret (v := .tuple #[.int .i64 0, .int .i64 2]) (by simp [results, Try.f8, go_sem]) rfl ⟨rfl, Below.refl _ _⟩

end Go.Proofs.Ytnciahbpmajhdab.Calls8
