/-
  Rows of bytes one behind the other, in new memory: slices.Concat of two of them, what package hash counts, the document's text with its length; two rows held against each other.
-/
import Derived.Test.YtpflkihagebmlabBase8
import Derived.Test.YtpflkihagebmlabNum55
import Derived.Lib.AppendZeros
import Derived.Laws.BytesArg
import Derived.Laws.BitsAllLaws
namespace Go.Proofs.Ytpflkihagebmlab.Calls126
set_option linter.unusedVariables false
open Go.ChangeShapes Go.WideShapes Go.ChangeAt Go.RowKit Go.Deep Go.Proofs.Ytpflkihagebmlab.Base Go.Proofs.Ytpflkihagebmlab.Base2 Go.Proofs.Ytpflkihagebmlab.Base7 Go.Proofs.Ytpflkihagebmlab.Base8 Go.Proofs.Ytpflkihagebmlab.Num55

theorem infoU8 : (Try.prog.info? 5).map (fun i => (i.zero, i.size, i.bytes)) = some (some (.int .u8 0), 1, 1) := by kernel_rfl

theorem yb' {W W' : World} {ao : Option Addr} {l : List Nat} (h : YRow W ao l) (hB : Below W.heap.size W W') : YRow W' ao l := yrow_below h hB

/-! ### append of nothing -/

theorem run_append_nothing {P : Program} (w : World) (t ty e : TypeId) (i : TypeInfo) (ht : P.underlying t = some (.slice e)) (hi : P.info? e = some i) (g n cap c : Nat) (hn : n ≤ cap) :
    (Builtin.append_ #[t, t] ty #[.slice (some ⟨g, 0, none⟩) n cap, .slice none 0 c]).run P w = .ok (.slice (some ⟨g, 0, none⟩) n cap) w := by
  simp [Builtin.append_, run_underlying ht, sizeOf, typeInfo, hi, Builtin.lenOf, Builtin.firstCells, storeCells, hn]

/-! ### new memory for a row -/

theorem grown_owns (w : World) (e : TypeId) (z : Array Value) (size n cap : Nat) (hz : z.size = size) (hcap : n ≤ cap) (hm : cap ≤ maxLen) :
    (w.drew.alloc (.cells (Builtin.zeroCells z n ++ Builtin.zeroCells z (cap - n)) e)).ownsRow w.heap.size e size (.slice (some ⟨w.heap.size, 0, none⟩) 0 cap) 0 [] := by
  refine ⟨by simp, .inr ⟨w.heap.size, cap, _, rfl, Nat.le_refl _, World.alloc_heap_new w.drew _, Nat.zero_le _, hm, ?_, by simp⟩⟩
  rw [Array.size_append, size_zeroCells, size_zeroCells, ← hz, ← Nat.add_mul, Nat.add_sub_cancel' hcap]

/-- A row of nothing in new memory. -/
def GrownR (w : World) (e : TypeId) (size : Nat) (en : Ending) (w' : World) : Prop := ∃ g cap, en = .returned (.slice (some ⟨g, 0, none⟩) 0 cap) ∧ w'.ownsRow w.heap.size e size (.slice (some ⟨g, 0, none⟩) 0 cap) 0 []

set_option maxRecDepth 100000 in
theorem yGrow_new (n : Nat) (h0 : 0 < n) (h1 : n ≤ 8192) (w : World) :
    Calls Try.prog 63 #[.slice none 0 0, .int .i64 (n : Int)] w fun e w' => GrownR w 5 1 e w' ∧ Below w.heap.size w w' := by
  obtain ⟨i0, hi, hz0, hz1, hz2⟩ := infoY infoU8
  obtain ⟨W', cp, hr, hO, hB⟩ : ∃ W' cp, (∀ ty, (Builtin.append_ #[37, 3] ty #[.slice none 0 0, .int .i64 (n : Int)]).run Try.prog w = .ok (.slice (some ⟨w.heap.size, 0, none⟩) n cp) W') ∧ Hid (W'.ownsRow w.heap.size 5 1 (.slice (some ⟨w.heap.size, 0, none⟩) 0 cp) 0 []) ∧ Hid (Below w.heap.size w W') :=
    ⟨_, _, fun ty => Lib.run_append_nil_zeros (P := Try.prog) w 37 3 ty 5 i0 (.int .u8 0) .i64 .i64 Try.underlying37 Try.underlying3 hi hz0 n h0 (by rw [hz1]; decide) (by omega) (by rw [hz2]; omega),
      grown_owns w 5 (Value.int .u8 0).cells 1 n _ rfl (grownCap_ge _ _ _ _) (grownCap_le_maxLen _ _ _ _ (by unfold maxLen; omega)), (Below.refl _ w).drew.alloc (Nat.le_refl _) _⟩
  have h0' : (0 : Int) < (n : Int) := by omega
  clear hi hz0 hz1 hz2
  go_enter Try.func63, Try.ntmps63
  go_wp2_with (at_builtin; refine Lib.wpList_append_run _ rfl _ _ _ _ rfl _ _ rfl rfl _ _ (hr _) ?_)
  go_ret
  exact ⟨⟨_, _, rfl, hO.out⟩, hB.out⟩

/-- append onto an own row that has room or may grow: of whatever row, also of none. -/
theorem wpList_append_y {P : Program} (w : World) {ops : Array Oper} {rest : List Oper} {o : Oper} {a : Act} {Q : Exit → Act → World → Prop} (hgd : o.guard = none) (s x : Operand) (t : TypeId)
    (ho : o.op = .call { callee := .builtin .append, args := #[s, x], argTypes := #[t, t] })
    (base : Nat) (e : TypeId) (i : TypeInfo) (ht : P.underlying t = some (.slice e)) (hi : P.info? e = some i) (hz : i.zero = some (.int .u8 0)) (hsize : i.size = 1) (hby : i.bytes = 1)
    (g n cap : Nat) (xs : List Value) (hs : a.eval s = .slice (some ⟨g, 0, none⟩) n cap) (hown : w.ownsRow base e 1 (.slice (some ⟨g, 0, none⟩) n cap) n xs)
    (ao : Option Addr) (m c : Nat) (l : List Nat) (hx : a.eval x = .slice ao m c) (hm : m = l.length) (hrow : YRow w ao l) (h63 : n + m ≤ 8192) (hbase : base ≤ w.heap.size)
    (h : ∀ g cap w', w'.ownsRow base e 1 (.slice (some ⟨g, 0, none⟩) (n + m) cap) (n + m) (xs ++ yv l) → Below base w w' → wpList P ops Q rest (a.put o.dst (.slice (some ⟨g, 0, none⟩) (n + m) cap)) w') : wpList P ops Q (o :: rest) a w := by
  subst hm
  have hcap : n ≤ cap := by
    rcases hown.2 with ⟨h', _⟩ | ⟨g', cap', cur, h', _, hg, hnc, _⟩
    · simp at h'
    · simp only [Value.slice.injEq, Option.some.injEq, Addr.mk.injEq, and_true, true_and] at h'
      obtain ⟨rfl, rfl⟩ := h'
      exact hnc
  by_cases h0 : l.length = 0
  · have el : l = [] := List.length_eq_zero_iff.1 h0
    subst el
    rcases ao with _ | ad
    · refine wpList_plain hgd fun K hK => ?_
      have hr := run_append_nothing (P := P) w t o.type e i ht hi g n cap c hcap
      have hx' : a.eval x = .slice none 0 c := hx
      unfold Oper.wp execOp
      simp only [ho, resolve, invoke, builtin, Sem.run_bind, Sem.run_pure, Result.andThen_ok, List.map_toArray, List.map_cons, List.map_nil, hs, hx', hr]
      exact hK _ _ (h g cap w (by simpa [yv] using hown) (Below.refl _ _))
    · refine wpList_append_fits w hgd s x t ho base e i 1 ht hi hsize g n cap xs hs hown ad 0 c [] hx (by simp) (fun j u hj => by simp at hj) (by simp) (by omega) ?_
      intro w' h1 h2
      exact h g cap w' (by simpa [yv] using h1) (below_grown hown h2 (Nat.le_refl _) hbase)
  · rcases ao with _ | ad
    · exact absurd (by have := congrArg List.length (hrow.1 rfl); rw [yv_length] at this; exact this) h0
    · refine wpList_append_own0 w hgd s x t ho base e i (.int .u8 0) 1 1 ht hi hz hsize hby rfl (by decide) (.slice (some ⟨g, 0, none⟩) n cap) n xs hs hown ad l.length c (yv l) hx (by rw [yv_length]; omega) (hrow.2 ad rfl) (yv_one l) (by omega) (by unfold maxLen; omega) (by omega) hbase ?_
      intro g' cap' w' h1 h2 h3 h4
      exact h g' cap' w' h1 (below_grown hown h2 (Nat.le_refl _) hbase)

/-- The call has returned a row of its own, which reads as l. -/
def RetYO (b : Nat) (l : List Nat) (e : Ending) (w' : World) : Prop := ∃ g cb, e = .returned (.slice (some ⟨g, 0, none⟩) l.length cb) ∧ b ≤ g ∧ g < w'.heap.size ∧ l.length ≤ cb ∧ YRow w' (some ⟨g, 0, none⟩) l

theorem RetYO.plain {b : Nat} {l : List Nat} {e : Ending} {w' : World} (h : RetYO b l e w') : RetY l e w' := by
  obtain ⟨g, cb, h1, _, _, h3, h4⟩ := h
  exact ⟨_, cb, h1, h3, h4⟩

theorem reto_owns {W : World} {base : Nat} {e : TypeId} {g n cap : Nat} {l : List Nat} (h : W.ownsRow base e 1 (.slice (some ⟨g, 0, none⟩) n cap) n (yv l)) : RetYO base l (.returned (.slice (some ⟨g, 0, none⟩) n cap)) W := by
  have hl := World.ownsRow.lt h g rfl
  obtain ⟨ao, c, h1, h2, h3⟩ := y_owns h
  simp only [Value.slice.injEq] at h1
  obtain ⟨h1, rfl, rfl⟩ := h1
  rw [← h1] at h3
  exact ⟨g, cap, rfl, hl.1, hl.2, h2, h3⟩

set_option maxRecDepth 100000 in
set_option maxHeartbeats 1000000 in
theorem yConcat2o (B : Nat) (o1 o2 : Option Addr) (c1 c2 : Nat) (l1 l2 : List Nat) (h1 : 1 ≤ l1.length + l2.length) (hl : l1.length + l2.length ≤ 8192) (w : World) (d0 : w.cell? ⟨B, 0, none⟩ = some (.slice o1 l1.length c1)) (d1 : w.cell? ⟨B, 1, none⟩ = some (.slice o2 l2.length c2)) (r1 : YRow w o1 l1) (r2 : YRow w o2 l2) :
    Calls Try.prog 58 #[.slice (some ⟨B, 0, none⟩) 2 2] w fun e w' => RetYO w.heap.size (l1 ++ l2) e w' ∧ Below w.heap.size w w' := by
  obtain ⟨i0, hi, hz0, hz1, hz2⟩ := infoY infoU8
  obtain ⟨n1, hn1⟩ : ∃ n1, n1 = l1.length := ⟨_, rfl⟩
  obtain ⟨n2, hn2⟩ : ∃ n2, n2 = l2.length := ⟨_, rfl⟩
  have HN1 := hid hn1
  have HN2 := hid hn2
  rw [← hn1] at d0 h1
  rw [← hn2] at d1 h1
  have hl' : n1 + n2 ≤ 8192 := by omega
  have cG := yGrow_new (n1 + n2) (by omega) hl' w
  rw [Int.natCast_add] at cG
  have R1 := hid r1
  have R2 := hid r2
  have D0 := hid d0
  have D1 := hid d1
  clear hn1 hn2 r1 r2 hl
  go_enter Try.func58, Try.ntmps58
  go_wp2
  go_loop [3, 11] (fun sz i => (sz = .int .i64 0 ∧ i = .int .i64 0) ∨ (sz = .int .i64 (n1 : Int) ∧ i = .int .i64 1) ∨ (sz = .int .i64 ((n1 : Int) + (n2 : Int)) ∧ i = .int .i64 2)) (fun sz i => (3 - intOf i).toNat)
  case atStart => exact .inl ⟨rfl, rfl⟩
  case round =>
    rcases hrel with ⟨rfl, rfl⟩ | ⟨rfl, rfl⟩ | ⟨rfl, rfl⟩
    · go_wp2
      go_round
      case rel => exact .inr (.inl ⟨by simp, rfl⟩)
      case measure => decide
    · have hs : (0 : Int) ≤ (n1 : Int) + (n2 : Int) := by omega
      have hs2 : (n1 : Int) + (n2 : Int) ≤ 8192 := by omega
      go_wp2
      go_round
      case rel => exact .inr (.inr ⟨rfl, rfl⟩)
      case measure => decide
    · clear d0 d1
      go_wp2_with (go_at_call 63; refine cG.mono ?_; rintro e w1 ⟨⟨g, cg, rfl, hO⟩, hB1⟩; have HO := hid hO; have HB1 := hid hB1; have d0 := (hB1.cell (p := ⟨B, 0, none⟩) (cell_lt D0.out)).trans D0.out; have d1 := (hB1.cell (p := ⟨B, 1, none⟩) (cell_lt D1.out)).trans D1.out; clear hO hB1)
      clear cG d0 d1
      go_loopw [6, 27] (fun v i wr => ∃ g k cp : Nat, ∃ l : List Nat, v = .slice (some ⟨g, 0, none⟩) k cp ∧ Hid (wr.ownsRow w.heap.size 5 1 (.slice (some ⟨g, 0, none⟩) k cp) k (yv l)) ∧ Hid (Below w.heap.size w wr) ∧ ((i = .int .i64 0 ∧ 0 = k ∧ Hid (l = [])) ∨ (i = .int .i64 1 ∧ n1 = k ∧ Hid (l = l1)) ∨ (i = .int .i64 2 ∧ n1 + n2 = k ∧ Hid (l = l1 ++ l2)))) (fun v i wr => (3 - intOf i).toNat)
      case atStart => exact ⟨g, 0, cg, [], rfl, HO, HB1, .inl ⟨rfl, rfl, rfl⟩⟩
      case round =>
        obtain ⟨g, k, cp, l, rfl, HO, HB, ⟨rfl, rfl, HL⟩ | ⟨rfl, rfl, HL⟩ | ⟨rfl, rfl, HL⟩⟩ := hrel
        · have d0 := (HB.out.cell (p := ⟨B, 0, none⟩) (cell_lt D0.out)).trans D0.out
          have hsz := HB.out.size
          go_wp2_with (at_builtin; refine wpList_append_y _ rfl _ _ 37 rfl w.heap.size 5 i0 Try.underlying37 hi hz0 hz1 hz2 g 0 cp _ rfl HO.out o1 n1 c1 l1 rfl HN1.out (yb' R1.out HB.out) (by omega) hsz ?_; intro g' cp' w' hO hB; have HO2 := hid hO; have HB2 := hid (HB.out.trans hB); clear hO hB)
          go_roundw
          case rel => exact ⟨g', n1, cp', l1, rfl, hid (by have := HO2.out; rw [HL.out] at this; simpa [yv] using this), HB2, .inr (.inl ⟨rfl, rfl, rfl⟩)⟩
          case measure => decide
        · have d1 := (HB.out.cell (p := ⟨B, 1, none⟩) (cell_lt D1.out)).trans D1.out
          have hsz := HB.out.size
          go_wp2_with (at_builtin; refine wpList_append_y _ rfl _ _ 37 rfl w.heap.size 5 i0 Try.underlying37 hi hz0 hz1 hz2 g n1 cp _ rfl HO.out o2 n2 c2 l2 rfl HN2.out (yb' R2.out HB.out) (by omega) hsz ?_; intro g' cp' w' hO hB; have HO2 := hid hO; have HB2 := hid (HB.out.trans hB); clear hO hB)
          go_roundw
          case rel => exact ⟨g', n1 + n2, cp', l1 ++ l2, rfl, hid (by have := HO2.out; rw [HL.out] at this; simpa [yv] using this), HB2, .inr (.inr ⟨rfl, rfl, rfl⟩)⟩
          case measure => decide
        · have hfin : Hid (RetYO w.heap.size (l1 ++ l2) (.returned (.slice (some ⟨g, 0, none⟩) (n1 + n2) cp)) wr) := by
            have := HO.out
            rw [HL.out] at this
            exact reto_owns this
          go_wp2
          go_ret
          exact ⟨hfin.out, HB.out⟩

theorem yConcat2 (B : Nat) (o1 o2 : Option Addr) (c1 c2 : Nat) (l1 l2 : List Nat) (h1 : 1 ≤ l1.length + l2.length) (hl : l1.length + l2.length ≤ 8192) (w : World) (d0 : w.cell? ⟨B, 0, none⟩ = some (.slice o1 l1.length c1)) (d1 : w.cell? ⟨B, 1, none⟩ = some (.slice o2 l2.length c2)) (r1 : YRow w o1 l1) (r2 : YRow w o2 l2) :
    Calls Try.prog 58 #[.slice (some ⟨B, 0, none⟩) 2 2] w fun e w' => RetY (l1 ++ l2) e w' ∧ Below w.heap.size w w' :=
  (yConcat2o B o1 o2 c1 c2 l1 l2 h1 hl w d0 d1 r1 r2).mono (fun e w' h => ⟨h.1.plain, h.2⟩)

/-! ### a text with its length -/

theorem yv4 (a b c d : Nat) : yv [a, b, c, d] = [.int .u8 (a : Int), .int .u8 (b : Int), .int .u8 (c : Int), .int .u8 (d : Int)] := rfl

theorem yrow_new (w : World) (t : TypeId) (l : List Nat) (cs : Array Value) (h : cs.toList = yv l) : YRow (w.alloc (.cells cs t)) (some ⟨w.heap.size, 0, none⟩) l := by
  refine ⟨fun e => (by cases e), fun ad e j u hu => ?_⟩
  obtain rfl : (⟨w.heap.size, 0, none⟩ : Addr) = ad := by simpa using e
  rw [v_zero, (BoxC.new w t cs).cell j]
  rw [← h] at hu
  simpa using hu

theorem two_cells (w : World) (o : Obj) (t : TypeId) (a b : Value) : ((w.alloc o).alloc (.cells #[a, b] t)).cell? ⟨w.heap.size + 1, 0, none⟩ = some a ∧ ((w.alloc o).alloc (.cells #[a, b] t)).cell? ⟨w.heap.size + 1, 1, none⟩ = some b := by
  have h := BoxC.new (w.alloc o) t #[a, b]
  rw [World.size_alloc] at h
  exact ⟨h.cell 0, h.cell 1⟩

set_option maxRecDepth 100000 in
theorem counted_any (o : Option Addr) (c : Nat) (l : List Nat) (hl : l.length ≤ 4096) (w : World) (r : YRow w o l) :
    Calls Try.prog 52 #[.slice o l.length c] w fun e w' => RetY (pad l) e w' ∧ Below w.heap.size w w' := by
  obtain ⟨n, hn⟩ : ∃ n, n = l.length := ⟨_, rfl⟩
  obtain ⟨o1, ho1⟩ : ∃ o1, o1 = Obj.cells #[.int .u8 ((n : Int) % 256), .int .u8 ((n : Int) / 256), .int .u8 ((n : Int) / 65536), .int .u8 ((n : Int) / 16777216)] 5 := ⟨_, rfl⟩
  have hB1 := (Below.refl _ w).alloc (Nat.le_refl _) o1
  have hB2 := hB1.alloc hB1.size (.cells #[.slice o l.length c, .slice (some ⟨w.heap.size, 0, none⟩) 4 4] 37)
  have hB12 := (Below.refl _ (w.alloc o1)).alloc (Nat.le_refl _) (.cells #[.slice o l.length c, .slice (some ⟨w.heap.size, 0, none⟩) 4 4] 37)
  have r4 : YRow (w.alloc o1) (some ⟨w.heap.size, 0, none⟩) (len4 n) := by
    rw [ho1]
    refine yrow_new w 5 (len4 n) _ ?_
    have hn4 : n ≤ 4096 := by omega
    rw [len4, show n / 256 % 256 = n / 256 by omega, show n / 65536 % 256 = n / 65536 by omega, show n / 16777216 % 256 = n / 16777216 by omega]
    simp [yv4]
  have cC := yConcat2 (w.heap.size + 1) o (some ⟨w.heap.size, 0, none⟩) c 4 l (len4 n) (by simp [len4]) (by simp [len4]; omega) _ (two_cells w o1 37 _ _).1 (two_cells w o1 37 _ _).2 (yb' r hB2) (yb' r4 hB12)
  have HB2 := hid hB2
  have hp : l ++ len4 n = pad l := by rw [hn]; rfl
  rw [hp, show (len4 n).length = 4 from rfl] at cC
  rw [← hn] at cC HB2 hl ⊢
  rw [ho1] at cC HB2
  have HN := hid hn
  clear ho1 hB1 hB2 hB12 r4 r hp hn
  go_enter Try.func52, Try.ntmps52
  go_wp2_with (go_at_call 58; refine cC.mono ?_; rintro e W ⟨⟨bo, cb, rfl, hcb, hr⟩, hB⟩; have HR := hid hr; have HC := hid hcb; have HB := hid (below_trans HB2.out hB); clear hr hB hcb)
  go_ret
  exact ⟨⟨bo, cb, rfl, HC.out, HR.out⟩, HB.out⟩

end Go.Proofs.Ytpflkihagebmlab.Calls126
