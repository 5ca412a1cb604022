/-
  Rows of numbers in memory: an argument's, and those that a call makes itself and writes by index.
-/
import Derived.Test.YtpnmepobdnclkaaBase2
import Derived.Test.YtpnmepobdnclkaaFoldB
import Derived.OwnWalk
import Derived.Laws.OwnMore
namespace Go.Proofs.Ytpnmepobdnclkaa.Base4
set_option linter.unusedVariables false
open Go.ChangeShapes Go.WideShapes Go.ChangeAt Go.RowKit Go.Deep Go.Proofs.Ytpnmepobdnclkaa.Base Go.Proofs.Ytpnmepobdnclkaa.Base2 Go.Proofs.Ytpnmepobdnclkaa.Num16 Go.Proofs.Ytpnmepobdnclkaa.Num17 Go.Proofs.Ytpnmepobdnclkaa.Num34

/-- A slice of numbers reads as a list. -/
def IRow (W : World) (ao : Option Addr) (l : List Int) : Prop :=
  (ao = none → l = []) ∧ ∀ ad, ao = some ad → ∀ j, j < l.length → W.cell? (ad.add j) = some (.int .i64 (co l j))

theorem irow_none {W : World} {l : List Int} (h : IRow W none l) {j : Nat} (hj : j < l.length) : False := by
  rw [h.1 rfl] at hj; simp at hj

theorem irow_below {W W' : World} {ao : Option Addr} {l : List Int} {n : Nat} (h : IRow W ao l) (hb : Below n W W') (hn : W.heap.size ≤ n) : IRow W' ao l := by
  refine ⟨h.1, fun ad e j hj => ?_⟩
  have c := h.2 ad e j hj
  have hl := cell_lt c
  exact (hb.cell (p := ad.add j) (by omega)).trans c

theorem irow_nil (W : World) (ao : Option Addr) : IRow W ao [] := ⟨fun _ => rfl, fun ad e j hj => by simp at hj⟩

theorem irow_take {W : World} {ao : Option Addr} {l : List Int} (h : IRow W ao l) (k : Nat) : IRow W ao (l.take k) := by
  refine ⟨fun e => by rw [h.1 e]; simp, fun ad e j hj => ?_⟩
  have hj2 : j < k ∧ j < l.length := by rw [List.length_take] at hj; omega
  rw [co_take hj2.1]
  exact h.2 ad e j hj2.2

def ivals (l : List Int) : List Value := l.map (Value.int .i64)

theorem ivals_length (l : List Int) : (ivals l).length = l.length := by simp [ivals]

theorem ivals_snoc (l : List Int) (x : Int) : ivals (l ++ [x]) = ivals l ++ [.int .i64 x] := by simp [ivals]

theorem ivals_get {l : List Int} {j : Nat} (h : j < l.length) : (ivals l)[j]? = some (.int .i64 (co l j)) := by
  simp [ivals, co, List.getD, h]

theorem ivals_one (l : List Int) : ∀ u ∈ ivals l, u.oneCell' = true := by
  intro u hu
  obtain ⟨x, _, rfl⟩ := List.mem_map.1 hu
  rfl

theorem irow_news {W : World} {ad : Addr} {l : List Int} (h : IRow W (some ad) l) : ∀ j u, (ivals l)[j]? = some u → W.cell? (ad.add j) = some u := by
  intro j u hu
  have hj : j < l.length := by
    have := (List.getElem?_eq_some_iff.1 hu).1
    rwa [ivals_length] at this
  rw [ivals_get hj] at hu
  rw [← hu]
  exact h.2 ad rfl j hj

theorem zero_add_addr (g j : Nat) : (⟨g, 0, none⟩ : Addr).add j = ⟨g, j, none⟩ := by
  unfold Addr.add; by_cases h : j = 0
  · simp [h]
  · simp [h]

theorem one_cell {W : World} {t : TypeId} {a : Value} : ∀ j u, ([a] : List Value)[j]? = some u → (W.alloc (.cells #[a] t)).cell? ((⟨W.heap.size, 0, none⟩ : Addr).add j) = some u := by
  intro j u hj
  match j, hj with
  | 0, hj => simp at hj; subst hj; simp [Addr.add]

/-- What a call's own row of any form reads as. -/
theorem irow_owns {W : World} {base : Nat} {e : TypeId} {v : Value} {n : Nat} {l : List Int} (h : W.ownsRow base e 1 v n (ivals l)) :
    ∃ ao cap, v = .slice ao l.length cap ∧ l.length ≤ cap ∧ IRow W ao l := by
  have hn : n = l.length := by have := h.1; rw [ivals_length] at this; omega
  subst hn
  rcases h.2 with ⟨rfl, hn⟩ | ⟨g, cap, cur, rfl, hb, hg, hnc, hcm, hcs, htake⟩
  · have e : l = [] := List.length_eq_zero_iff.1 (by omega)
    subst e
    exact ⟨none, 0, rfl, by simp, irow_nil _ _⟩
  · refine ⟨some ⟨g, 0, none⟩, cap, rfl, hnc, fun h => (by cases h), fun ad h' j hj => ?_⟩
    obtain rfl : (⟨g, 0, none⟩ : Addr) = ad := by simpa using h'
    have c1 := World.ownsRow.cellAt ⟨by rw [ivals_length]; omega, .inr ⟨g, cap, cur, rfl, hb, hg, hnc, hcm, hcs, htake⟩⟩ j (by omega)
    rw [zero_add_addr, c1]
    exact ivals_get hj

theorem owns_below {W W' : World} {base : Nat} {e : TypeId} {size : Nat} {v : Value} {n : Nat} {xs : List Value} (h : W.ownsRow base e size v n xs) (hb : Below W.heap.size W W') : W'.ownsRow base e size v n xs := by
  refine ⟨h.1, ?_⟩
  rcases h.2 with ⟨rfl, hn⟩ | ⟨g, cap, cur, rfl, hb', hg, rest⟩
  · exact .inl ⟨rfl, hn⟩
  · exact .inr ⟨g, cap, cur, rfl, hb', (hb.block g (Array.getElem?_eq_some_iff.1 hg).1).trans hg, rest⟩

/-- A row of the call's own: n numbers in the block g. -/
def Own1 (W : World) (base g n cap : Nat) (f : Nat → Int) : Prop := W.ownsRow base 2 1 (.slice (some ⟨g, 0, none⟩) n cap) n (ivals (mk n f))

theorem Own1.cell {W : World} {base g n cap : Nat} {f : Nat → Int} (h : Own1 W base g n cap f) {i : Nat} (hi : i < n) : W.cell? ⟨g, i, none⟩ = some (.int .i64 (f i)) := by
  have := World.ownsRow.cellAt h i (by omega)
  rw [this, ivals_get (by rw [mk_length]; exact hi), co_mk, if_pos hi]

theorem Own1.frozen {W : World} {base g n cap : Nat} {f : Nat → Int} (h : Own1 W base g n cap f) (i : Nat) : W.frozen? ⟨g, i, none⟩ = false := World.ownsRow.frozenAt h i

theorem Own1.lt {W : World} {base g n cap : Nat} {f : Nat → Int} (h : Own1 W base g n cap f) : base ≤ g ∧ g < W.heap.size := World.ownsRow.lt h g rfl

theorem Own1.cap_le {W : World} {base g n cap : Nat} {f : Nat → Int} (h : Own1 W base g n cap f) : n ≤ cap := by
  rcases h.2 with ⟨h', _⟩ | ⟨g', cap', cur, h', _, hg, hnc, _⟩
  · simp at h'
  · simp only [Value.slice.injEq, Option.some.injEq, Addr.mk.injEq, and_true, true_and] at h'
    obtain ⟨rfl, rfl⟩ := h'
    exact hnc

theorem Own1.set {W : World} {base g n cap : Nat} {f : Nat → Int} (h : Own1 W base g n cap f) (i : Nat) (q : Int) : Own1 (W.setCell ⟨g, i, none⟩ (.int .i64 q)) base g n cap (up1 f i q) := by
  have := (World.ownsRow.stored h i (.int .i64 q)).1
  have e : (ivals (mk n f)).set i (.int .i64 q) = ivals (mk n (up1 f i q)) := by
    rw [← mk_set]; unfold ivals; rw [List.map_set]
  rw [e] at this
  exact this

theorem Own1.row {W : World} {base g n cap : Nat} {f : Nat → Int} (h : Own1 W base g n cap f) : IRow W (some ⟨g, 0, none⟩) (mk n f) := by
  refine ⟨fun e => (by cases e), fun ad e j hj => ?_⟩
  obtain rfl : (⟨g, 0, none⟩ : Addr) = ad := by simpa using e
  rw [mk_length] at hj
  rw [zero_add_addr, h.cell hj, co_mk, if_pos hj]

theorem Own1.below {W W' : World} {base g n cap : Nat} {f : Nat → Int} (h : Own1 W base g n cap f) (hb : Below W.heap.size W W') : Own1 W' base g n cap f := owns_below h hb

/-- Another own block is written: this one stays. -/
theorem Own1.other {W : World} {base g n cap : Nat} {f : Nat → Int} (h : Own1 W base g n cap f) {g' : Nat} (hne : g ≠ g') (i : Nat) (u : Value) : Own1 (W.setCell ⟨g', i, none⟩ u) base g n cap f := by
  refine ⟨h.1, ?_⟩
  rcases h.2 with ⟨h', hn⟩ | ⟨g1, cap1, cur, h', hb', hg, rest⟩
  · exact .inl ⟨h', hn⟩
  · have e : g1 = g := by
      have := (Value.slice.inj h').1
      simpa using this.symm
    exact .inr ⟨g1, cap1, cur, h', hb', (Below.heap_setCell _ _ _ _ (by simp only; rw [e]; exact hne)).trans hg, rest⟩

theorem Own1.congr {W : World} {base g n cap : Nat} {f f' : Nat → Int} (h : Own1 W base g n cap f) (e : f = f') : Own1 W base g n cap f' := e ▸ h

theorem Own1.drewN {W : World} {base g n cap : Nat} {f : Nat → Int} (h : Own1 W base g n cap f) (k : Nat) : Own1 (W.drewN k) base g n cap f := h

theorem own1_of {W : World} {base g n cap : Nat} {l : List Int} (h : W.ownsRow base 2 1 (.slice (some ⟨g, 0, none⟩) n cap) n (ivals l)) : Own1 W base g n cap (co l) := by
  have hn : n = l.length := by have := h.1; rw [ivals_length] at this; omega
  subst hn
  unfold Own1
  rw [mk_of]; exact h

theorem made_zero (n : Nat) : (madeCells (Value.int .i64 0).cells (n * 1)).toList = ivals (mk n (fun _ => 0)) := by
  simp [madeCells, mk, ivals, Value.cells, Nat.mod_one, Function.comp_def]

theorem infoI : (Try.prog.info? 2).map (fun i => (i.zero, i.size, i.bytes)) = some (some (.int .i64 0), 1, 8) := by kernel_rfl

theorem info_ex : ∃ i, Try.prog.info? 2 = some i ∧ i.zero = some (.int .i64 0) ∧ i.size = 1 ∧ i.bytes = 8 := by
  have h := infoI
  cases e : Try.prog.info? 2 with
  | none => rw [e] at h; simp at h
  | some i => rw [e] at h; simp at h; exact ⟨i, rfl, h.1, h.2.1, h.2.2⟩

theorem run_append_none {P : Program} (w : World) (t ty e : TypeId) (i : TypeInfo) (ht : P.underlying t = some (.slice e)) (hi : P.info? e = some i) (g c : Nat) :
    (Builtin.append_ #[t, t] ty #[.slice (some ⟨g, 0, none⟩) 0 0, .slice none 0 c]).run P w = .ok (.slice (some ⟨g, 0, none⟩) 0 0) w := by
  simp [Builtin.append_, run_underlying ht, sizeOf, typeInfo, hi, Builtin.lenOf, Builtin.firstCells, storeCells]

/-- 'append([]int64{}, a...)': a copy, whatever a is. -/
theorem wpList_copy {P : Program} (w : World) {ops : Array Oper} {rest : List Oper} {o : Oper} {a : Act} {Q : Exit → Act → World → Prop} (hgd : o.guard = none) (s x : Operand) (t : TypeId)
    (ho : o.op = .call { callee := .builtin .append, args := #[s, x], argTypes := #[t, t] })
    (base : Nat) (e : TypeId) (i : TypeInfo) (ht : P.underlying t = some (.slice e)) (hi : P.info? e = some i) (hz : i.zero = some (.int .i64 0)) (hsize : i.size = 1) (hby : i.bytes = 8)
    (g0 : Nat) (hs : a.eval s = .slice (some ⟨g0, 0, none⟩) 0 0) (hown : w.ownsRow base e 1 (.slice (some ⟨g0, 0, none⟩) 0 0) 0 [])
    (ao : Option Addr) (n c : Nat) (l : List Int) (hx : a.eval x = .slice ao n c) (hn : n = l.length) (hrow : IRow w ao l) (h63 : n ≤ 4096) (hbase : base ≤ w.heap.size)
    (h : ∀ g cap w', w'.ownsRow base e 1 (.slice (some ⟨g, 0, none⟩) n cap) n (ivals l) → w.grownBy w' (some g0) → g < w'.heap.size → wpList P ops Q rest (a.put o.dst (.slice (some ⟨g, 0, none⟩) n cap)) w') : wpList P ops Q (o :: rest) a w := by
  subst hn
  by_cases h0 : l.length = 0
  · have el : l = [] := List.length_eq_zero_iff.1 h0
    subst el
    rcases ao with _ | ad
    · refine wpList_plain hgd fun K hK => ?_
      have hr := run_append_none (P := P) w t o.type e i ht hi g0 c
      have hx' : a.eval x = .slice none 0 c := hx
      unfold Oper.wp execOp
      simp only [ho, resolve, invoke, builtin, Sem.run_bind, Sem.run_pure, Result.andThen_ok, List.map_toArray, List.map_cons, List.map_nil, hs, hx', hr]
      exact hK _ _ (h g0 0 w (by simpa [ivals] using hown) (World.grownBy.refl _ _) (World.ownsRow.lt hown g0 rfl).2)
    · refine wpList_append_fits w hgd s x t ho base e i 1 ht hi hsize g0 0 0 [] hs hown ad 0 c [] hx rfl (fun j u hj => by simp at hj) (by simp) (by simp) ?_
      intro w' h1 h2
      exact h g0 0 w' (by simpa [ivals] using h1) h2 (World.ownsRow.lt h1 g0 rfl).2
  · rcases ao with _ | ad
    · exact absurd (by rw [hrow.1 rfl]; rfl) h0
    · refine wpList_append_own0 w hgd s x t ho base e i (.int .i64 0) 1 8 ht hi hz hsize hby rfl (by decide) (.slice (some ⟨g0, 0, none⟩) 0 0) 0 [] hs hown ad l.length c (ivals l) hx (by rw [ivals_length]; omega) (irow_news hrow) (ivals_one l) (by omega) (by unfold maxLen; omega) (by omega) hbase ?_
      intro g cap w' h1 h2 h3 h4
      simp only [Nat.zero_add, List.nil_append] at h1 ⊢
      exact h g cap w' h1 h2 h4

/-- The call has returned a slice that reads as r. -/
def RetL (r : List Int) (e : Ending) (w' : World) : Prop := ∃ bo cb, e = .returned (.slice bo r.length cb) ∧ r.length ≤ cb ∧ IRow w' bo r

def slen : Value → Nat
  | .slice _ n _ => n
  | _ => 0

/-- An argument's numbers, as a list. -/
theorem longs_view {H : Type} {enc : TypeId × Value → H} {P : Program} {W : World} {sp : Nat → Bool} {hd : Bool} {t te : TypeId} {v : Value} {d : DataW H} {p : List MemPlace}
    (ht : P.underlying t = some (.slice te)) (ce : P.cellsOf te = 1) (ue : P.underlying te = some (.int .i64)) (h : DataW.Trod enc P W 0 sp hd t v d p) (hv : ∃ a len cap, v = .slice a len cap) :
    ∃ (bo : Option Addr) (cb : Nat) (F : List Int), v = .slice bo F.length cb ∧ IRow W bo F ∧ F.length ≤ cb ∧ F.length ≤ 9223372036854775807 := by
  obtain ⟨a0, len0, cap0, rfl⟩ := hv
  obtain ⟨fuel, hf⟩ := h
  have hf' : DataW.trod enc P W 0 sp hd fuel t [.slice a0 len0 cap0] = some (d, p) := hf
  rcases open_slice1 ht ce hf' with ⟨hc, hx⟩ | ⟨a, len, cap, m, n, V, D, Pl, hcs, hb, hl, hm, hmm, hx, hall⟩
  · have e : (Value.slice a0 len0 cap0) = .slice none 0 0 := by simpa using hc
    exact ⟨none, 0, [], e, irow_nil _ _, by simp, by simp⟩
  · have e : (Value.slice a0 len0 cap0) = .slice (some a) len cap := by simpa using hcs
    have hlm : len ≤ m := by rw [hmm]; split <;> omega
    have each : ∀ i, i < len → ∃ z : Int, W.cell? (a.add i) = some (.int .i64 z) := by
      intro i hi
      obtain ⟨c0, t0⟩ := hall i (by omega)
      obtain ⟨z0, e0, _, w0⟩ := DataW.trod_int ue t0
      simp at e0
      rw [e0] at c0
      exact ⟨z0, c0⟩
    obtain ⟨q, hq⟩ := choose_lt each
    have hlen : (mk len q).length = len := mk_length _ _
    refine ⟨some a, cap, mk len q, by rw [hlen]; exact e, ⟨fun e => (by cases e), fun ad e j hj => ?_⟩, by rw [hlen]; exact hl, ?_⟩
    · obtain rfl : a = ad := by simpa using e
      rw [hlen] at hj
      rw [co_mk, if_pos hj]
      exact hq j hj
    · rw [hlen]; unfold maxLen at hm; omega

end Go.Proofs.Ytpnmepobdnclkaa.Base4
