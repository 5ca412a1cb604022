/-
  What primes.Factor answers: the list of all that its function value goes through, collected.
-/
import Derived.Test.YtpflkihagebmlabCalls11
import Derived.Maps.AppendAt
namespace Go.Proofs.Ytpflkihagebmlab.Calls13
set_option linter.unusedVariables false
open Go.RowKit Go.Shelf Go.Proofs.Ytpflkihagebmlab.Num Go.Proofs.Ytpflkihagebmlab.Calls7 Go.Proofs.Ytpflkihagebmlab.Calls8 Go.Proofs.Ytpflkihagebmlab.Calls9 Go.Proofs.Ytpflkihagebmlab.Calls11

attribute [local go_sem] Oper.semAt_some

theorem two_cells {W : World} {t : TypeId} {a b : Value} : ∀ j u, ([a, b] : List Value)[j]? = some u → (W.alloc (.cells #[a, b] t)).cell? ((⟨W.heap.size, 0, none⟩ : Addr).add j) = some u := by
  intro j u hj
  match j, hj with
  | 0, hj => simp at hj; subst hj; simp [Addr.add]
  | 1, hj => simp at hj; subst hj; simp [Addr.add]

set_option maxRecDepth 100000 in
set_option maxHeartbeats 2000000 in
theorem AppendSeq_in (F : Fence) (n : Nat) (h3 : F.fn 70) (h6 : F.fn 64) (hro : F.round = none) (hn : 3 ≤ n) (Bn m : Nat) (hm1 : 1 ≤ m) (hm2 : m ≤ 1048576) (w : World) (hBn : Bn < w.heap.size) (hc : w.cell? ⟨Bn, 0, none⟩ = some (.int .i64 (m : Int))) :
    CallsIn F n Try.prog 70 #[.slice none 0 0, .func (.func 64) #[] #[.pointer (some ⟨Bn, 0, none⟩)]] w fun e w' => ∃ l v, e = .returned v ∧ Fac m l ∧ w'.ownsRow w.heap.size 83 2 v l.length (flat l) ∧ Below w.heap.size w w' := by
  have h1 : 1 ≤ n := by omega
  obtain ⟨i0, hi, hz0, hz1, hz2⟩ := info_parts infoP
  refine callsIn_of_wp_marks Try.func70 rfl h3 ?_ hro
  simp only [Try.ntmps70, List.size_toArray, List.length_cons, List.length_nil, Nat.reduceAdd, Nat.reduceSub, Array.replicate_succ, Array.replicate_zero, List.push_toArray, List.append_toArray, List.nil_append, List.cons_append]
  gi_wp2
  have b0 := Boxed.new w 87 (.slice none 0 0)
  have hB0 : Below w.heap.size w (w.alloc (.cells #[.slice none 0 0] 87)) := (Below.refl _ w).alloc (Nat.le_refl _) _
  have hsz : (w.alloc (.cells #[.slice none 0 0] 87)).heap.size = w.heap.size + 1 := by simp
  obtain ⟨W0, hW0⟩ : ∃ W0, w.alloc (.cells #[.slice none 0 0] 87) = W0 := ⟨_, rfl⟩
  rw [hW0] at b0 hB0 hsz ⊢
  clear hW0
  refine wpIn_rangeFunc_ownH hro h1 (gf := 64) (lb := #[.pointer (some ⟨Bn, 0, none⟩)]) rfl h6 (enters_of Try.func64 (by kernel_rfl) rfl)
    (powers_stops F (n - 1) h6 hro (by omega) Bn m hm1 hm2 (Below w.heap.size) W0 (by omega) ((hB0.cell (p := ⟨Bn, 0, none⟩) hBn).trans hc)) belowK_t (belowK_b (by omega)) (Below.refl _ _) (fun _ => rfl)
    (fun pre W => (∃ v, Boxed W w.heap.size 87 v ∧ W.ownsRow w.heap.size 83 2 v (vals pre).length (flat (vals pre)) ∧ True) ∧ Below w.heap.size w W)
    (fun _ _ _ => False)
    (OwnFrom.and (Own.from (holdsRow_own w.heap.size w.heap.size 87 83 2 (fun pre => (vals pre).length) (fun pre => flat (vals pre)) (fun pre v => True)) _) (ownFrom_below (Nat.le_refl _) (by omega)))
    (fun _ _ _ _ _ hs _ _ => hs)
    ⟨⟨_, b0, World.ownsRow_nil _ _ _ _, trivial⟩, hB0⟩
    (fun x a' W => ∃ Bx, w.heap.size < Bx ∧ BoxC W Bx 83 #[.int .i64 (x.1.1 : Int), .int .i64 (x.1.2 : Int)] ∧ a' = { tmps := #[.slice none 0 0, .func (.func 64) #[] #[.pointer (some ⟨Bn, 0, none⟩)], .pointer (some ⟨w.heap.size, 0, none⟩), undef, .slice none 0 0, .pointer (some ⟨Bx, 0, none⟩), .func (.func 64) #[] #[.pointer (some ⟨Bn, 0, none⟩)], encP x, undef, undef, undef, undef, undef], defers := [] })
    (fun x a' _ X Y row hs hg hr => by obtain ⟨Bx, h1, h2, h3⟩ := hs; exact ⟨Bx, h1, boxC_own Bx 83 (fun (_ : Unit) => #[.int .i64 (x.1.1 : Int), .int .i64 (x.1.2 : Int)]) () X Y row h2 hg (fun r e => (hr r e).2), h3⟩)
    ?assign ?body ?done ?stop
  case assign =>
    rintro l pre x W K ⟨⟨v, c0, hrow, _⟩, hB1⟩ hK
    gi_wp2
    exact hK _ _ ((KeepsOthers.alloc _ _).from _) ((Below.refl _ W).alloc hB1.size _) ⟨⟨v, c0.alloc _, hrow.alloc _, trivial⟩, hB1.alloc hB1.size _⟩ ⟨W.heap.size, c0.lt, BoxC.new W 83 _, rfl⟩
  case body =>
    rintro l pre x a' W hl _ ⟨⟨v, c0, hrow, _⟩, hB1⟩ ⟨Bx, hBx, bX, rfl⟩ hlt
    have d0 := c0.cell
    have dx := bX.cell 0
    have dy := bX.cell 1
    simp at dx dy
    have hvl : (vals pre).length ≤ 20 := by rw [vals_length]; omega
    gi_wp2_with (gi_at_builtin; refine wpListIn_append_own _ rfl _ _ 87 rfl w.heap.size 83 i0 (.agg #[.int .i64 0, .int .i64 0]) 2 16 Try.underlying87 hi hz0 hz1 hz2 rfl (by decide) _ _ _ rfl (hrow.alloc _) ⟨W.heap.size, 0, none⟩ 1 1 [.int .i64 (x.1.1 : Int), .int .i64 (x.1.2 : Int)] rfl rfl two_cells (by simp [Value.oneCell']) (by unfold maxLen; omega) (by omega) (by have := hB1.size; simp; omega) ?_; intro v' w1 hown' hgrow _; obtain ⟨g', cap', rfl⟩ := ownsRow_succ hown'; obtain ⟨hv1, hv2, hr2, hk2, hb2⟩ := c0.appended (by decide) hrow hB1.size (Nat.le_refl _) hown' hgrow; have hc1 := hv1.cell; have hf1 := hv1.frozen)
    exact ⟨hk2.from _, hb2, ⟨_, hv2, by rw [vals_snoc, flat_snoc, List.length_append]; exact hr2, trivial⟩, hB1.trans hb2⟩
  case done =>
    rintro D ys W hD hF ⟨⟨v, c0, hrow, _⟩, hB1⟩ hK
    have d0 := c0.cell
    gi_wp2
    refine ⟨by simp, .inl ⟨_, _, rfl, run_takeDeferred hK, ?_⟩⟩
    exact ⟨_, results_tmp rfl _ _ _, vals ys, v, rfl, hF, ownsRow_putObj hrow _ hK rfl, hB1.trans (belowK_b (w := w) (Nat.le_refl _) W D _ _ (by omega) hK rfl rfl)⟩
  case stop =>
    rintro D c pre W _ _ h _
    exact h.elim

set_option maxRecDepth 100000 in
theorem Collect_in (F : Fence) (n : Nat) (h2 : F.fn 69) (h3 : F.fn 70) (h6 : F.fn 64) (hro : F.round = none) (hn : 4 ≤ n) (Bn m : Nat) (hm1 : 1 ≤ m) (hm2 : m ≤ 1048576) (w : World) (hBn : Bn < w.heap.size) (hc : w.cell? ⟨Bn, 0, none⟩ = some (.int .i64 (m : Int))) :
    CallsIn F n Try.prog 69 #[.func (.func 64) #[] #[.pointer (some ⟨Bn, 0, none⟩)]] w fun e w' => ∃ l v, e = .returned v ∧ Fac m l ∧ w'.ownsRow w.heap.size 83 2 v l.length (flat l) ∧ Below w.heap.size w w' := by
  have h1 : 1 ≤ n := by omega
  have cS := AppendSeq_in F (n - 1) h3 h6 hro (by omega) Bn m hm1 hm2 w hBn hc
  refine callsIn_of_wp Try.func69 rfl h2 ?_ hro
  simp only [Try.ntmps69, List.size_toArray, List.length_cons, List.length_nil, Nat.reduceAdd, Nat.reduceSub, Array.replicate_succ, Array.replicate_zero, List.push_toArray, List.append_toArray, List.nil_append, List.cons_append]
  gi_wp2_with (gi_at_call 70; refine cS.mono ?_; rintro e w' ⟨l, v, rfl, hF, hown, hB⟩)
  go_ret
  exact ⟨l, v, rfl, hF, hown, hB⟩

set_option maxRecDepth 100000 in
theorem Factor_in (F : Fence) (n : Nat) (h0 : F.fn 66) (h4 : F.fn 59) (h5 : F.fn 60) (h2 : F.fn 69) (h3 : F.fn 70) (h6 : F.fn 64) (hro : F.round = none) (hn : 5 ≤ n) (m : Nat) (hm1 : 1 ≤ m) (hm2 : m ≤ 1048576) (w : World) :
    CallsIn F n Try.prog 66 #[.int .i64 (m : Int)] w fun e w' => ∃ l v, e = .returned (.tuple #[v, .int .i64 0]) ∧ Fac m l ∧ w'.ownsRow w.heap.size 83 2 v l.length (flat l) ∧ Below w.heap.size w w' := by
  have h1 : 1 ≤ n := by omega
  have hin : decide (1 ≤ (m : Int) ∧ (m : Int) ≤ 1048576) = true := decide_eq_true ⟨by omega, by omega⟩
  have cR := fun w' => pRange_in F (n - 1) h4 hro (m : Int) w'
  rw [hin] at cR
  have bN := Boxed.new w 2 (.int .i64 (m : Int))
  have cC := Collect_in F (n - 1) h2 h3 h6 hro (by omega) w.heap.size m hm1 hm2 (w.alloc (.cells #[.int .i64 (m : Int)] 2)) (by simp) bN.cell
  refine callsIn_of_wp Try.func66 rfl h0 ?_ hro
  simp only [Try.ntmps66, List.size_toArray, List.length_cons, List.length_nil, Nat.reduceAdd, Nat.reduceSub, Array.replicate_succ, Array.replicate_zero, List.push_toArray, List.append_toArray, List.nil_append, List.cons_append]
  gi_wp2_with (first | (gi_at_call 59; refine (cR _).mono ?_; rintro e w' ⟨rfl, hw⟩; subst w') | (gi_at_call 60; refine (powers_in F (n - 1) h5 hro _ _).mono ?_; rintro e w' ⟨rfl, rfl⟩) | (gi_at_call 69; refine cC.mono ?_; rintro e w' ⟨l, v, rfl, hF, hown, hB⟩))
  go_ret2
  have hb0 : Below w.heap.size w (w.alloc (.cells #[.int .i64 (m : Int)] 2)) := (Below.refl _ w).alloc (Nat.le_refl _) _
  refine ⟨l, v, rfl, hF, ⟨hown.1, ?_⟩, below_trans hb0 hB⟩
  rcases hown.2 with h | ⟨g, cap, cur, e1, e2, e3⟩
  · exact .inl h
  · exact .inr ⟨g, cap, cur, e1, by simp at e2; omega, e3⟩

set_option maxRecDepth 100000 in
theorem Factor_out (F : Fence) (n : Nat) (h3 : F.fn 66) (h4 : F.fn 59) (hro : F.round = none) (hn : 3 ≤ n) (m : Int) (hm : ¬ (1 ≤ m ∧ m ≤ 1048576)) (w : World) :
    CallsIn F n Try.prog 66 #[.int .i64 m] w fun e w' => e = .returned (.tuple #[.slice none 0 0, .int .i64 2]) ∧ Below w.heap.size w w' := by
  have h1 : 1 ≤ n := by omega
  have hin : decide (1 ≤ m ∧ m ≤ 1048576) = false := decide_eq_false hm
  have cR := fun w' => pRange_in F (n - 1) h4 hro m w'
  rw [hin] at cR
  refine callsIn_of_wp Try.func66 rfl h3 ?_ hro
  simp only [Try.ntmps66, List.size_toArray, List.length_cons, List.length_nil, Nat.reduceAdd, Nat.reduceSub, Array.replicate_succ, Array.replicate_zero, List.push_toArray, List.append_toArray, List.nil_append, List.cons_append]
  gi_wp2_with (gi_at_call 59; refine (cR _).mono ?_; rintro e w' ⟨rfl, hw⟩; subst w')
  go_ret2
  exact ⟨rfl, Below.refl _ _⟩

theorem Factor_yes (m : Nat) (hm1 : 1 ≤ m) (hm2 : m ≤ 1048576) (w : World) :
    Calls Try.prog 66 #[.int .i64 (m : Int)] w fun e w' => ∃ l v, e = .returned (.tuple #[v, .int .i64 0]) ∧ Fac m l ∧ w'.ownsRow w.heap.size 83 2 v l.length (flat l) ∧ Below w.heap.size w w' :=
  (callsIn_wide (n := 5)).1 (Factor_in Fence.wide 5 trivial trivial trivial trivial trivial trivial rfl (by omega) m hm1 hm2 w)

theorem Factor_no (m : Int) (hm : ¬ (1 ≤ m ∧ m ≤ 1048576)) (w : World) :
    Calls Try.prog 66 #[.int .i64 m] w fun e w' => e = .returned (.tuple #[.slice none 0 0, .int .i64 2]) ∧ Below w.heap.size w w' :=
  (callsIn_wide (n := 3)).1 (Factor_out Fence.wide 3 trivial trivial rfl (by omega) m hm w)

end Go.Proofs.Ytpflkihagebmlab.Calls13
