/-
  append onto an own row of numbers, inside a region that draws its order.
-/
import Derived.Test.YtokbdgikdlfneaaCalls87
import Derived.Deep.RegionHeld3
import Derived.OwnWalk
namespace Go.Proofs.Ytokbdgikdlfneaa.Calls93
set_option linter.unusedVariables false
open Go.ChangeShapes Go.WideShapes Go.ChangeAt Go.RowKit Go.Deep Go.Proofs.Ytokbdgikdlfneaa.Base Go.Proofs.Ytokbdgikdlfneaa.Base2 Go.Proofs.Ytokbdgikdlfneaa.Num16 Go.Proofs.Ytokbdgikdlfneaa.Num34 Go.Proofs.Ytokbdgikdlfneaa.Base4 Go.Proofs.Ytokbdgikdlfneaa.Calls87

theorem run_append_sl {P : Program} (w : World) (t ty : TypeId) (base : Nat) (e : TypeId) (i : TypeInfo) (ht : P.underlying t = some (.slice e)) (hi : P.info? e = some i) (hz : i.zero = some (.int .i64 0)) (hsize : i.size = 1) (hby : i.bytes = 8)
    (g n cap : Nat) (xs : List Value) (hown : w.ownsRow base e 1 (.slice (some ⟨g, 0, none⟩) n cap) n xs)
    (ao : Option Addr) (c : Nat) (l : List Int) (hrow : IRow w ao l) (h63 : n + l.length ≤ 4096) (hbase : base ≤ w.heap.size) :
    ∃ g' cap' w', (Builtin.append_ #[t, t] ty #[.slice (some ⟨g, 0, none⟩) n cap, .slice ao l.length c]).run P w = .ok (.slice (some ⟨g', 0, none⟩) (n + l.length) cap') w' ∧
      w'.ownsRow base e 1 (.slice (some ⟨g', 0, none⟩) (n + l.length) cap') (n + l.length) (xs ++ ivals l) ∧ Below base w w' := by
  have hcap : n ≤ cap := by
    rcases hown.2 with ⟨h', _⟩ | ⟨g', cap', cur, h', _, hg, hnc, _⟩
    · simp at h'
    · simp only [Value.slice.injEq, Option.some.injEq, Addr.mk.injEq, and_true, true_and] at h'
      obtain ⟨rfl, rfl⟩ := h'
      exact hnc
  by_cases h0 : l.length = 0
  · have el : l = [] := List.length_eq_zero_iff.1 h0
    subst el
    rcases ao with _ | ad
    · exact ⟨g, cap, w, run_append_nothing (P := P) w t ty e i ht hi g n cap c hcap, by simpa [ivals] using hown, Below.refl _ _⟩
    · obtain ⟨w', hr, h1, h2⟩ := run_append_fits (P := P) w base t ty e i 1 ht hi hsize g n cap xs hown ad 0 c [] (by simp) (fun j u hj => by simp at hj) (by simp) (by omega)
      exact ⟨g, cap, w', hr, by simpa [ivals] using h1, below_grown hown h2 (Nat.le_refl _) hbase⟩
  · rcases ao with _ | ad
    · exact absurd (by rw [hrow.1 rfl]; rfl) h0
    · obtain ⟨g', cap', w', hr, h1, h2, _, _⟩ := run_append_own0 (P := P) w t ty base e i (.int .i64 0) 1 8 ht hi hz hsize hby rfl (by decide) (.slice (some ⟨g, 0, none⟩) n cap) n xs hown ad l.length c (ivals l) (by rw [ivals_length]; omega) (irow_news hrow) (ivals_one l) (by omega) (by unfold maxLen; omega) (by omega) hbase
      exact ⟨g', cap', w', hr, h1, below_grown hown h2 (Nat.le_refl _) hbase⟩

theorem step_append_sl {P : Program} (w : World) {ops : Array Oper} {o : Oper} {a : Act} {K : Act → World → Prop} {Q : Exit → Act → World → Prop} {E : Prop} (hgd : o.guard = none) (s x : Operand) (t : TypeId)
    (ho : o.op = .call { callee := .builtin .append, args := #[s, x], argTypes := #[t, t] })
    (base : Nat) (e : TypeId) (i : TypeInfo) (ht : P.underlying t = some (.slice e)) (hi : P.info? e = some i) (hz : i.zero = some (.int .i64 0)) (hsize : i.size = 1) (hby : i.bytes = 8)
    (g n cap : Nat) (xs : List Value) (hs : a.eval s = .slice (some ⟨g, 0, none⟩) n cap) (hown : w.ownsRow base e 1 (.slice (some ⟨g, 0, none⟩) n cap) n xs)
    (ao : Option Addr) (m c : Nat) (l : List Int) (hx : a.eval x = .slice ao m c) (hm : m = l.length) (hrow : IRow w ao l) (h63 : n + m ≤ 4096) (hbase : base ≤ w.heap.size)
    (h : ∀ g cap w', w'.ownsRow base e 1 (.slice (some ⟨g, 0, none⟩) (n + m) cap) (n + m) (xs ++ ivals l) → Below base w w' → K (a.put o.dst (.slice (some ⟨g, 0, none⟩) (n + m) cap)) w') :
    if Region.wanted o (yielded ops a.tmps) = true then Oper.wp P o a w K Q else E := by
  subst hm
  have hw : Region.wanted o (yielded ops a.tmps) = true := by simp [Region.wanted, hgd]
  rw [if_pos hw]
  obtain ⟨g', cap', w', hr, h1, h2⟩ := run_append_sl (P := P) w t o.type base e i ht hi hz hsize hby g n cap xs hown ao c l hrow h63 hbase
  unfold Oper.wp execOp
  simp only [ho, resolve, invoke, builtin, Sem.run_bind, Sem.run_pure, Result.andThen_ok, List.map_toArray, List.map_cons, List.map_nil, hs, hx, hr]
  exact h g' cap' w' h1 h2

/-- A block just laid, with one number in it, is an own row. -/
theorem owns_one (W : World) (base : Nat) (x : Int) (h : base ≤ W.heap.size) : (W.alloc (.cells #[.int .i64 x] 2)).ownsRow base 2 1 (.slice (some ⟨W.heap.size, 0, none⟩) 1 1) 1 [.int .i64 x] :=
  ⟨by simp, .inr ⟨W.heap.size, 1, #[.int .i64 x], rfl, h, World.alloc_heap_new W _, Nat.le_refl _, by unfold maxLen; omega, by simp, by simp⟩⟩

end Go.Proofs.Ytokbdgikdlfneaa.Calls93
