/-
  Rows one behind the other, in new memory (slices.Concat of two of them), of numbers and of points.
-/
import Derived.Test.YtpnmepobdnclkaaBase4
import Derived.Lib.AppendZeros
namespace Go.Proofs.Ytpnmepobdnclkaa.Calls87
set_option linter.unusedVariables false
open Go.ChangeShapes Go.WideShapes Go.ChangeAt Go.RowKit Go.Deep Go.Proofs.Ytpnmepobdnclkaa.Base Go.Proofs.Ytpnmepobdnclkaa.Base2 Go.Proofs.Ytpnmepobdnclkaa.Num16 Go.Proofs.Ytpnmepobdnclkaa.Num34 Go.Proofs.Ytpnmepobdnclkaa.Base4

/-! ### rows of points -/

theorem lies_of {W : World} {ao : Option Addr} {l : List (Int × Int)} (h : PRow W ao l) : Lies W ao l := fun ad e => by
  cases l with
  | nil => exact .inl rfl
  | cons x xs =>
    have c := (h.2 ad e 0 (by simp)).1
    have := cell_lt c
    rw [add_block] at this
    exact .inr this

theorem pb {W W' : World} {ao : Option Addr} {l : List (Int × Int)} (h : PRow W ao l) (hB : Below W.heap.size W W') : PRow W' ao l := prow_below h hB (lies_of h)

theorem prow_nil (W : World) (ao : Option Addr) : PRow W ao [] := ⟨fun _ => rfl, fun ad e j hj => by simp at hj⟩

/-- What a call's own row of any form reads as. -/
theorem prow_owns {W : World} {base : Nat} {e : TypeId} {v : Value} {n : Nat} {l : List (Int × Int)} (h : W.ownsRow base e 2 v n (flatP l)) :
    ∃ ao cap, v = .slice ao l.length cap ∧ l.length ≤ cap ∧ PRow W ao l := by
  have hn : n = l.length := by have := h.1; rw [flatP_length] at this; omega
  subst hn
  rcases h.2 with ⟨rfl, hn⟩ | ⟨g, cap, cur, rfl, hb, hg, hnc, hcm, hcs, htake⟩
  · have e : l = [] := List.length_eq_zero_iff.1 (by omega)
    subst e
    exact ⟨none, 0, rfl, by simp, prow_nil _ _⟩
  · exact ⟨some ⟨g, 0, none⟩, cap, rfl, hnc, prow_owned ⟨by rw [flatP_length], .inr ⟨g, cap, cur, rfl, hb, hg, hnc, hcm, hcs, htake⟩⟩⟩

theorem infoPt : (Try.prog.info? 30).map (fun i => (i.zero, i.size, i.bytes)) = some (some (.agg #[.int .i64 0, .int .i64 0]), 2, 16) := by kernel_rfl

theorem infoPt_ex : ∃ i, Try.prog.info? 30 = some i ∧ i.zero = some (.agg #[.int .i64 0, .int .i64 0]) ∧ i.size = 2 ∧ i.bytes = 16 := by
  have h := infoPt
  cases e : Try.prog.info? 30 with
  | none => rw [e] at h; simp at h
  | some i => rw [e] at h; simp at h; exact ⟨i, rfl, h.1, h.2.1, h.2.2⟩

/-! ### append of nothing -/

theorem run_append_nothing {P : Program} (w : World) (t ty e : TypeId) (i : TypeInfo) (ht : P.underlying t = some (.slice e)) (hi : P.info? e = some i) (g n cap c : Nat) (hn : n ≤ cap) :
    (Builtin.append_ #[t, t] ty #[.slice (some ⟨g, 0, none⟩) n cap, .slice none 0 c]).run P w = .ok (.slice (some ⟨g, 0, none⟩) n cap) w := by
  simp [Builtin.append_, run_underlying ht, sizeOf, typeInfo, hi, Builtin.lenOf, Builtin.firstCells, storeCells, hn]

/-! ### new memory for a row -/

theorem grown_owns (w : World) (e : TypeId) (z : Array Value) (size n cap : Nat) (hz : z.size = size) (hcap : n ≤ cap) (hm : cap ≤ maxLen) :
    (w.drew.alloc (.cells (Builtin.zeroCells z n ++ Builtin.zeroCells z (cap - n)) e)).ownsRow w.heap.size e size (.slice (some ⟨w.heap.size, 0, none⟩) 0 cap) 0 [] := by
  refine ⟨by simp, .inr ⟨w.heap.size, cap, _, rfl, Nat.le_refl _, World.alloc_heap_new w.drew _, Nat.zero_le _, hm, ?_, by simp⟩⟩
  rw [Array.size_append, size_zeroCells, size_zeroCells, ← hz, ← Nat.add_mul, Nat.add_sub_cancel' hcap]

/-- A row of nothing in new memory. -/
def GrownR (w : World) (e : TypeId) (size : Nat) (en : Ending) (w' : World) : Prop := ∃ g cap, en = .returned (.slice (some ⟨g, 0, none⟩) 0 cap) ∧ w'.ownsRow w.heap.size e size (.slice (some ⟨g, 0, none⟩) 0 cap) 0 []

set_option maxRecDepth 100000 in
theorem slGrow_new (n : Nat) (h0 : 0 < n) (h1 : n ≤ 4096) (w : World) :
    Calls Try.prog 76 #[.slice none 0 0, .int .i64 (n : Int)] w fun e w' => GrownR w 2 1 e w' ∧ Below w.heap.size w w' := by
  obtain ⟨i0, hi, hz0, hz1, hz2⟩ := info_ex
  obtain ⟨W', cp, hr, hO, hB⟩ : ∃ W' cp, (∀ ty, (Builtin.append_ #[22, 3] ty #[.slice none 0 0, .int .i64 (n : Int)]).run Try.prog w = .ok (.slice (some ⟨w.heap.size, 0, none⟩) n cp) W') ∧ Hid (W'.ownsRow w.heap.size 2 1 (.slice (some ⟨w.heap.size, 0, none⟩) 0 cp) 0 []) ∧ Hid (Below w.heap.size w W') :=
    ⟨_, _, fun ty => Lib.run_append_nil_zeros (P := Try.prog) w 22 3 ty 2 i0 (.int .i64 0) .i64 .i64 Try.underlying22 Try.underlying3 hi hz0 n h0 (by rw [hz1]; decide) (by omega) (by rw [hz2]; omega),
      grown_owns w 2 (Value.int .i64 0).cells 1 n _ rfl (grownCap_ge _ _ _ _) (grownCap_le_maxLen _ _ _ _ (by unfold maxLen; omega)), (Below.refl _ w).drew.alloc (Nat.le_refl _) _⟩
  have h0' : (0 : Int) < (n : Int) := by omega
  clear hi hz0 hz1 hz2
  go_enter Try.func76, Try.ntmps76
  go_wp2_with (at_builtin; refine Lib.wpList_append_run _ rfl _ _ _ _ rfl _ _ rfl rfl _ _ (hr _) ?_)
  go_ret
  exact ⟨⟨_, _, rfl, hO.out⟩, hB.out⟩

theorem ib {W W' : World} {ao : Option Addr} {l : List Int} (h : IRow W ao l) (hB : Below W.heap.size W W') : IRow W' ao l := irow_below h hB (Nat.le_refl _)

/-- The call has returned points that read as r. -/
def RetP (r : List (Int × Int)) (e : Ending) (w' : World) : Prop := ∃ bo cb, e = .returned (.slice bo r.length cb) ∧ r.length ≤ cb ∧ PRow w' bo r

/-- append onto an own row that has room or may grow: of whatever row, also of none. -/
theorem wpList_append_sl {P : Program} (w : World) {ops : Array Oper} {rest : List Oper} {o : Oper} {a : Act} {Q : Exit → Act → World → Prop} (hgd : o.guard = none) (s x : Operand) (t : TypeId)
    (ho : o.op = .call { callee := .builtin .append, args := #[s, x], argTypes := #[t, t] })
    (base : Nat) (e : TypeId) (i : TypeInfo) (ht : P.underlying t = some (.slice e)) (hi : P.info? e = some i) (hz : i.zero = some (.int .i64 0)) (hsize : i.size = 1) (hby : i.bytes = 8)
    (g n cap : Nat) (xs : List Value) (hs : a.eval s = .slice (some ⟨g, 0, none⟩) n cap) (hown : w.ownsRow base e 1 (.slice (some ⟨g, 0, none⟩) n cap) n xs)
    (ao : Option Addr) (m c : Nat) (l : List Int) (hx : a.eval x = .slice ao m c) (hm : m = l.length) (hrow : IRow w ao l) (h63 : n + m ≤ 4096) (hbase : base ≤ w.heap.size)
    (h : ∀ g cap w', w'.ownsRow base e 1 (.slice (some ⟨g, 0, none⟩) (n + m) cap) (n + m) (xs ++ ivals l) → Below base w w' → wpList P ops Q rest (a.put o.dst (.slice (some ⟨g, 0, none⟩) (n + m) cap)) w') : wpList P ops Q (o :: rest) a w := by
  subst hm
  have hcap : n ≤ cap := by
    rcases hown.2 with ⟨h', _⟩ | ⟨g', cap', cur, h', _, hg, hnc, _⟩
    · simp at h'
    · simp only [Value.slice.injEq, Option.some.injEq, Addr.mk.injEq, and_true, true_and] at h'
      obtain ⟨rfl, rfl⟩ := h'
      exact hnc
  by_cases h0 : l.length = 0
  · have el : l = [] := List.length_eq_zero_iff.1 h0
    subst el
    rcases ao with _ | ad
    · refine wpList_plain hgd fun K hK => ?_
      have hr := run_append_nothing (P := P) w t o.type e i ht hi g n cap c hcap
      have hx' : a.eval x = .slice none 0 c := hx
      unfold Oper.wp execOp
      simp only [ho, resolve, invoke, builtin, Sem.run_bind, Sem.run_pure, Result.andThen_ok, List.map_toArray, List.map_cons, List.map_nil, hs, hx', hr]
      exact hK _ _ (h g cap w (by simpa [ivals] using hown) (Below.refl _ _))
    · refine wpList_append_fits w hgd s x t ho base e i 1 ht hi hsize g n cap xs hs hown ad 0 c [] hx (by simp) (fun j u hj => by simp at hj) (by simp) (by omega) ?_
      intro w' h1 h2
      exact h g cap w' (by simpa [ivals] using h1) (below_grown hown h2 (Nat.le_refl _) hbase)
  · rcases ao with _ | ad
    · exact absurd (by rw [hrow.1 rfl]; rfl) h0
    · refine wpList_append_own0 w hgd s x t ho base e i (.int .i64 0) 1 8 ht hi hz hsize hby rfl (by decide) (.slice (some ⟨g, 0, none⟩) n cap) n xs hs hown ad l.length c (ivals l) hx (by rw [ivals_length]; omega) (irow_news hrow) (ivals_one l) (by omega) (by unfold maxLen; omega) (by omega) hbase ?_
      intro g' cap' w' h1 h2 h3 h4
      exact h g' cap' w' h1 (below_grown hown h2 (Nat.le_refl _) hbase)

set_option maxRecDepth 100000 in
set_option maxHeartbeats 1000000 in
theorem slConcat2 (B : Nat) (o1 o2 : Option Addr) (c1 c2 : Nat) (l1 l2 : List Int) (h1 : 1 ≤ l1.length) (hl : l1.length + l2.length ≤ 4096) (w : World) (d0 : w.cell? ⟨B, 0, none⟩ = some (.slice o1 l1.length c1)) (d1 : w.cell? ⟨B, 1, none⟩ = some (.slice o2 l2.length c2)) (r1 : IRow w o1 l1) (r2 : IRow w o2 l2) :
    Calls Try.prog 67 #[.slice (some ⟨B, 0, none⟩) 2 2] w fun e w' => RetL (l1 ++ l2) e w' ∧ Below w.heap.size w w' := by
  obtain ⟨i0, hi, hz0, hz1, hz2⟩ := info_ex
  obtain ⟨n1, hn1⟩ : ∃ n1, n1 = l1.length := ⟨_, rfl⟩
  obtain ⟨n2, hn2⟩ : ∃ n2, n2 = l2.length := ⟨_, rfl⟩
  have HN1 := hid hn1
  have HN2 := hid hn2
  rw [← hn1] at d0 h1
  rw [← hn2] at d1
  have hl' : n1 + n2 ≤ 4096 := by omega
  have cG := slGrow_new (n1 + n2) (by omega) hl' w
  rw [Int.natCast_add] at cG
  have R1 := hid r1
  have R2 := hid r2
  have D0 := hid d0
  have D1 := hid d1
  clear hn1 hn2 r1 r2 hl
  go_enter Try.func67, Try.ntmps67
  go_wp2
  go_loop [3, 11] (fun sz i => (sz = .int .i64 0 ∧ i = .int .i64 0) ∨ (sz = .int .i64 (n1 : Int) ∧ i = .int .i64 1) ∨ (sz = .int .i64 ((n1 : Int) + (n2 : Int)) ∧ i = .int .i64 2)) (fun sz i => (3 - intOf i).toNat)
  case atStart => exact .inl ⟨rfl, rfl⟩
  case round =>
    rcases hrel with ⟨rfl, rfl⟩ | ⟨rfl, rfl⟩ | ⟨rfl, rfl⟩
    · go_wp2
      go_round
      case rel => exact .inr (.inl ⟨by simp, rfl⟩)
      case measure => decide
    · have hs : (0 : Int) ≤ (n1 : Int) + (n2 : Int) := by omega
      have hs2 : (n1 : Int) + (n2 : Int) ≤ 4096 := by omega
      go_wp2
      go_round
      case rel => exact .inr (.inr ⟨rfl, rfl⟩)
      case measure => decide
    · clear d0 d1
      go_wp2_with (go_at_call 76; refine cG.mono ?_; rintro e w1 ⟨⟨g, cg, rfl, hO⟩, hB1⟩; have HO := hid hO; have HB1 := hid hB1; have d0 := (hB1.cell (p := ⟨B, 0, none⟩) (cell_lt D0.out)).trans D0.out; have d1 := (hB1.cell (p := ⟨B, 1, none⟩) (cell_lt D1.out)).trans D1.out; clear hO hB1)
      clear cG d0 d1
      go_loopw [6, 27] (fun v i wr => ∃ g k cp : Nat, ∃ l : List Int, v = .slice (some ⟨g, 0, none⟩) k cp ∧ Hid (wr.ownsRow w.heap.size 2 1 (.slice (some ⟨g, 0, none⟩) k cp) k (ivals l)) ∧ Hid (Below w.heap.size w wr) ∧ ((i = .int .i64 0 ∧ 0 = k ∧ Hid (l = [])) ∨ (i = .int .i64 1 ∧ n1 = k ∧ Hid (l = l1)) ∨ (i = .int .i64 2 ∧ n1 + n2 = k ∧ Hid (l = l1 ++ l2)))) (fun v i wr => (3 - intOf i).toNat)
      case atStart => exact ⟨g, 0, cg, [], rfl, HO, HB1, .inl ⟨rfl, rfl, rfl⟩⟩
      case round =>
        obtain ⟨g, k, cp, l, rfl, HO, HB, ⟨rfl, rfl, HL⟩ | ⟨rfl, rfl, HL⟩ | ⟨rfl, rfl, HL⟩⟩ := hrel
        · have d0 := (HB.out.cell (p := ⟨B, 0, none⟩) (cell_lt D0.out)).trans D0.out
          have hsz := HB.out.size
          go_wp2_with (at_builtin; refine wpList_append_sl _ rfl _ _ 22 rfl w.heap.size 2 i0 Try.underlying22 hi hz0 hz1 hz2 g 0 cp _ rfl HO.out o1 n1 c1 l1 rfl HN1.out (ib R1.out HB.out) (by omega) hsz ?_; intro g' cp' w' hO hB; have HO2 := hid hO; have HB2 := hid (HB.out.trans hB); clear hO hB)
          go_roundw
          case rel => exact ⟨g', n1, cp', l1, rfl, hid (by have := HO2.out; rw [HL.out] at this; simpa [ivals] using this), HB2, .inr (.inl ⟨rfl, rfl, rfl⟩)⟩
          case measure => decide
        · have d1 := (HB.out.cell (p := ⟨B, 1, none⟩) (cell_lt D1.out)).trans D1.out
          have hsz := HB.out.size
          go_wp2_with (at_builtin; refine wpList_append_sl _ rfl _ _ 22 rfl w.heap.size 2 i0 Try.underlying22 hi hz0 hz1 hz2 g n1 cp _ rfl HO.out o2 n2 c2 l2 rfl HN2.out (ib R2.out HB.out) (by omega) hsz ?_; intro g' cp' w' hO hB; have HO2 := hid hO; have HB2 := hid (HB.out.trans hB); clear hO hB)
          go_roundw
          case rel => exact ⟨g', n1 + n2, cp', l1 ++ l2, rfl, hid (by have := HO2.out; rw [HL.out] at this; simpa [ivals] using this), HB2, .inr (.inr ⟨rfl, rfl, rfl⟩)⟩
          case measure => decide
        · have hfin : Hid (∃ bo cb, (.slice (some ⟨g, 0, none⟩) (n1 + n2) cp : Value) = .slice bo (l1 ++ l2).length cb ∧ (l1 ++ l2).length ≤ cb ∧ IRow wr bo (l1 ++ l2)) := by
            have := HO.out
            rw [HL.out] at this
            exact irow_owns this
          go_wp2
          go_ret
          obtain ⟨bo, cb, e1, e2, e3⟩ := hfin.out
          exact ⟨⟨bo, cb, congrArg Ending.returned e1, e2, e3⟩, HB.out⟩

/-- append onto an own row that has room or may grow: of whatever row, also of none. -/
theorem wpList_append_pts {P : Program} (w : World) {ops : Array Oper} {rest : List Oper} {o : Oper} {a : Act} {Q : Exit → Act → World → Prop} (hgd : o.guard = none) (s x : Operand) (t : TypeId)
    (ho : o.op = .call { callee := .builtin .append, args := #[s, x], argTypes := #[t, t] })
    (base : Nat) (e : TypeId) (i : TypeInfo) (ht : P.underlying t = some (.slice e)) (hi : P.info? e = some i) (hz : i.zero = some (.agg #[.int .i64 0, .int .i64 0])) (hsize : i.size = 2) (hby : i.bytes = 16)
    (g n cap : Nat) (xs : List Value) (hs : a.eval s = .slice (some ⟨g, 0, none⟩) n cap) (hown : w.ownsRow base e 2 (.slice (some ⟨g, 0, none⟩) n cap) n xs)
    (ao : Option Addr) (m c : Nat) (l : List (Int × Int)) (hx : a.eval x = .slice ao m c) (hm : m = l.length) (hrow : PRow w ao l) (h63 : n + m ≤ 4096) (hbase : base ≤ w.heap.size)
    (h : ∀ g cap w', w'.ownsRow base e 2 (.slice (some ⟨g, 0, none⟩) (n + m) cap) (n + m) (xs ++ flatP l) → Below base w w' → wpList P ops Q rest (a.put o.dst (.slice (some ⟨g, 0, none⟩) (n + m) cap)) w') : wpList P ops Q (o :: rest) a w := by
  subst hm
  have hcap : n ≤ cap := by
    rcases hown.2 with ⟨h', _⟩ | ⟨g', cap', cur, h', _, hg, hnc, _⟩
    · simp at h'
    · simp only [Value.slice.injEq, Option.some.injEq, Addr.mk.injEq, and_true, true_and] at h'
      obtain ⟨rfl, rfl⟩ := h'
      exact hnc
  by_cases h0 : l.length = 0
  · have el : l = [] := List.length_eq_zero_iff.1 h0
    subst el
    rcases ao with _ | ad
    · refine wpList_plain hgd fun K hK => ?_
      have hr := run_append_nothing (P := P) w t o.type e i ht hi g n cap c hcap
      have hx' : a.eval x = .slice none 0 c := hx
      unfold Oper.wp execOp
      simp only [ho, resolve, invoke, builtin, Sem.run_bind, Sem.run_pure, Result.andThen_ok, List.map_toArray, List.map_cons, List.map_nil, hs, hx', hr]
      exact hK _ _ (h g cap w (by simpa [flatP] using hown) (Below.refl _ _))
    · refine wpList_append_fits w hgd s x t ho base e i 2 ht hi hsize g n cap xs hs hown ad 0 c [] hx (by simp) (fun j u hj => by simp at hj) (by simp) (by omega) ?_
      intro w' h1 h2
      exact h g cap w' (by simpa [flatP] using h1) (below_grown hown h2 (Nat.le_refl _) hbase)
  · rcases ao with _ | ad
    · exact absurd (by rw [hrow.1 rfl]; rfl) h0
    · refine wpList_append_own0 w hgd s x t ho base e i (.agg #[.int .i64 0, .int .i64 0]) 2 16 ht hi hz hsize hby rfl (by decide) (.slice (some ⟨g, 0, none⟩) n cap) n xs hs hown ad l.length c (flatP l) hx (by rw [flatP_length]) (prow_news hrow) (flatP_one l) (by omega) (by unfold maxLen; omega) (by omega) hbase ?_
      intro g' cap' w' h1 h2 h3 h4
      exact h g' cap' w' h1 (below_grown hown h2 (Nat.le_refl _) hbase)

end Go.Proofs.Ytpnmepobdnclkaa.Calls87
