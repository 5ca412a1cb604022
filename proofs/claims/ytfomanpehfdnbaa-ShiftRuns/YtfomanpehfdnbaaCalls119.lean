/-
  Package shift: the row of a bit; rows of each degree in a map.
-/
import Derived.Test.YtfomanpehfdnbaaCalls118
import Derived.Test.YtfomanpehfdnbaaBase3
import Derived.Maps.OwnSet
import Derived.Deep.RegionWith
import Derived.Deep.RegionHeld3
import Derived.Deep.LoopGhost
namespace Go.Proofs.Ytfomanpehfdnbaa.Calls119
set_option linter.unusedVariables false
open Go.ChangeShapes Go.WideShapes Go.ChangeAt Go.RowKit Go.Deep Go.Maps Go.Proofs.Ytfomanpehfdnbaa.Base Go.Proofs.Ytfomanpehfdnbaa.Base2 Go.Proofs.Ytfomanpehfdnbaa.Base7 Go.Proofs.Ytfomanpehfdnbaa.Num44 Go.Proofs.Ytfomanpehfdnbaa.Num54 Go.Proofs.Ytfomanpehfdnbaa.Num65 Go.Proofs.Ytfomanpehfdnbaa.Num66 Go.Proofs.Ytfomanpehfdnbaa.Calls118
open Go.Proofs.Ytfomanpehfdnbaa.Base3 (RV wpList_lookup_val)

/-- A polynomial's own block. -/
def Bx (W : World) (B a b : Nat) : Prop := BoxC W B 38 #[.int .u64 (a : Int), .int .u64 (b : Int)]

theorem Bx.c0 {W : World} {B a b : Nat} (h : Bx W B a b) : W.cell? ⟨B, 0, none⟩ = some (.int .u64 (a : Int)) := by rw [BoxC.cell h 0]; rfl

theorem Bx.c1 {W : World} {B a b : Nat} (h : Bx W B a b) : W.cell? ⟨B, 1, none⟩ = some (.int .u64 (b : Int)) := by rw [BoxC.cell h 1]; rfl

theorem Bx.fz {W : World} {B a b : Nat} (h : Bx W B a b) (i : Nat) : W.frozen? ⟨B, i, none⟩ = false := BoxC.frozen h i

theorem Bx.lt {W : World} {B a b : Nat} (h : Bx W B a b) : B < W.heap.size := BoxC.lt h

theorem Bx.up {W W' : World} {B a b : Nat} (h : Bx W B a b) (hb : Below W.heap.size W W') : Bx W' B a b := BoxC.below h hb (BoxC.lt h)

theorem Bx.alloc {W : World} {B a b : Nat} (h : Bx W B a b) (o : Obj) : Bx (W.alloc o) B a b := BoxC.alloc h o

theorem Bx.new (W : World) (a b : Nat) : Bx (W.alloc (.cells #[.int .u64 (a : Int), .int .u64 (b : Int)] 38)) W.heap.size a b := BoxC.new _ _ _

theorem Bx.set {W : World} {B a b : Nat} (h : Bx W B a b) (c d : Nat) : Bx ((W.setCell ⟨B, 0, none⟩ (.int .u64 (c : Int))).setCell ⟨B, 1, none⟩ (.int .u64 (d : Int))) B c d := BoxC.set2 h _ _

theorem Bx.other {W : World} {B B' a b : Nat} (h : Bx W B a b) (hne : B ≠ B') (u v : Value) : Bx ((W.setCell ⟨B', 0, none⟩ u).setCell ⟨B', 1, none⟩ v) B a b := BoxC.other (BoxC.other h hne 0 u) hne 1 v

theorem set_two {B : Nat} {w W : World} {g : Nat} (h : Below B w W) (hg : B ≤ g) (u v : Value) : Below B w ((W.setCell ⟨g, 0, none⟩ u).setCell ⟨g, 1, none⟩ v) := v_set (v_set h hg 0 u) hg 1 v

set_option maxRecDepth 100000 in
set_option maxHeartbeats 1000000 in
theorem behind_any (ao : Option Addr) (cap : Nat) (l : List Bool) (hl : l.length ≤ 64) (p M : Nat) (hM : M ≤ p) (hp : p < l.length) (w : World) (hrow : BRow w ao l) :
    Calls Try.prog 18 #[.slice ao l.length cap, .int .i64 (p : Int), .int .i64 (M : Int)] w fun e w' => (∃ a b : Nat, e = .returned (pn a b) ∧ Wd a b ∧ ∀ j, pb a b j = rwp (gb l) M p j) ∧ Below w.heap.size w w' := by
  rcases ao with _ | ad
  · exact (brow_none hrow hp).elim
  obtain ⟨N, hN⟩ : ∃ N, N = l.length := ⟨_, rfl⟩
  have HN : Hid (N = l.length) := hN
  rw [← hN] at hl hp ⊢
  have HR := hid hrow
  clear hN hrow
  have e0 := Bx.new w 0 0
  have e1 := Bx.new (w.alloc (.cells #[.int .u64 ((0 : Nat) : Int), .int .u64 ((0 : Nat) : Int)] 38)) 0 0
  go_enter Try.func18, Try.ntmps18
  go_wp2
  have HB0 := hid (((Below.refl w.heap.size w).alloc (Nat.le_refl _) (.cells #[.int .u64 0, .int .u64 0] 38)).alloc (by simp) (.cells #[.int .u64 0, .int .u64 0] 38))
  have E0 := hid (e0.alloc (.cells #[.int .u64 0, .int .u64 0] 38))
  have E1 := hid e1
  clear e0 e1
  go_loopw [12] (fun i wr => ∃ (k a b : Nat), i = .int .i64 (k : Int) ∧ k ≤ M + 1 ∧ Hid (Wd a b) ∧ Hid (∀ j, pb a b j = (decide (j < k) && gb l (p - j))) ∧ Hid (Bx wr w.heap.size 0 0) ∧ Hid (Bx wr (w.heap.size + 1) a b) ∧ Hid (Below w.heap.size w wr)) (fun i wr => ((M : Int) + 1 - intOf i).toNat)
  case atStart => exact ⟨0, 0, 0, rfl, by omega, ⟨by decide, by decide⟩, fun j => by rw [pb_zero]; simp, E0.out, hid (by simpa using E1.out), HB0.out⟩
  case round =>
    obtain ⟨k, a, b, rfl, hk, HW, HP, HX0, HX1, HB⟩ := hrel
    by_cases hgo : k < M + 1
    · have hgo' : (k : Int) < (M : Int) + 1 := by omega
      obtain ⟨q, hq⟩ : ∃ q, q = p - k := ⟨_, rfl⟩
      have hqi : (p : Int) - (k : Int) = (q : Int) := by omega
      have hqN : (q : Int) < (N : Int) := by omega
      have c1 := brow_cell (brow_below HR.out HB.out) (j := q) (by have := HN.out; omega)
      have HG := hid (show gb l q = gb l (p - k) by rw [hq])
      generalize gb l q = x at *
      clear hq
      cases x with
      | true =>
        have d0 := HX1.out.c0
        have d1 := HX1.out.c1
        have hsz := HB.out.size
        go_wp2_with (go_at_call 21; refine (with_any a b k HW.out (by omega) _).mono ?_; rintro e w2 ⟨⟨c, d, rfl, hw2, hp2⟩, hB2⟩; have HW2 := hid hw2; have HP2 := hid hp2; have X1 := HX1.out.up hB2; have x0 := X1.c0; have x1 := X1.c1; have f0 := X1.fz 0; have f1 := X1.fz 1; have HX2 := hid X1; have HXZ := hid (HX0.out.up hB2); have HB2 := hid (below_trans HB.out hB2); clear hw2 hp2 hB2 X1)
        go_roundw
        case rel => exact ⟨k + 1, c, d, by simp, by omega, HW2.out, fun j => by
          rw [HP2.out j, HP.out j]
          by_cases e : j = k
          · subst e; rw [← HG.out]; simp
          · have : decide (j = k) = false := by simpa using e
            rw [this, Bool.or_false]
            congr 1
            simp; omega, HXZ.out.other (by omega) _ _, HX2.out.set c d, set_two HB2.out (by omega) _ _⟩
        case measure => simp [intOf]; omega
      | false =>
        go_wp2
        go_roundw
        case rel => exact ⟨k + 1, a, b, by simp, by omega, HW.out, fun j => by
          rw [HP.out j]
          by_cases e : j = k
          · subst e; rw [← HG.out]; simp
          · congr 1
            simp; omega, HX0.out, HX1.out, HB.out⟩
        case measure => simp [intOf]; omega
    · have hgo' : ¬ (k : Int) < (M : Int) + 1 := by omega
      obtain rfl : k = M + 1 := by omega
      have d0 := HX1.out.c0
      have d1 := HX1.out.c1
      have y0 := HX0.out.c0
      have y1 := HX0.out.c1
      have f0 := HX0.out.fz 0
      have f1 := HX0.out.fz 1
      have hE := HX0.out.set a b
      have r0 := hE.c0
      have r1 := hE.c1
      have HBE := hid (set_two HB.out (Nat.le_refl _) (.int .u64 (a : Int)) (.int .u64 (b : Int)))
      clear hE
      go_wp2
      exact bodyPost_ret (v := pn a b) (by simp [results, Try.results18, go_sem, r0, r1]) rfl ⟨⟨a, b, rfl, HW.out, fun j => by
        rw [HP.out j]; unfold rwp
        by_cases e : j ≤ M
        · rw [if_pos e]; simp; omega
        · rw [if_neg e]; simp; omega⟩, HBE.out⟩

/-! ### the map of rows -/

/-- The map's table. -/
structure TbD (D : DataW Value) (f : Tbl) : Prop where
  has : ∀ d : Int, Go.Maps.has D (.int .i64 d) = true ↔ ∃ k : Nat, d = (k : Int) ∧ f k ≠ none
  get : ∀ (k a b : Nat), f k = some (a, b) → ∀ z, D.atKey (.int .i64 (k : Int)) z = .held (pn a b)

theorem TbD.start : TbD (.map []) (fun _ => none) := ⟨fun d => ⟨fun h => by simp [Go.Maps.has] at h, fun ⟨k, _, h⟩ => absurd rfl h⟩, fun k a b h => by cases h⟩

theorem keylit (x : Int) : WideAt.IsKeyLit (.int .i64 x) := trivial

theorem TbD.add {D : DataW Value} {f : Tbl} (h : TbD D f) (hm : IsMap D) (k a b : Nat) : TbD (D.put (.int .i64 (k : Int)) (.held (pn a b))) (addT f k a b) := by
  refine ⟨fun d => ?_, fun j x y hj z => ?_⟩
  · by_cases e : d = (k : Int)
    · subst e
      refine ⟨fun _ => ⟨k, rfl, by unfold addT; rw [if_pos rfl]; simp⟩, fun _ => has_put_same hm (keylit _) _⟩
    · rw [has_put_other (by simpa using e), h.has d]
      constructor
      · rintro ⟨j, hj, hf⟩
        refine ⟨j, hj, ?_⟩
        unfold addT
        rw [if_neg (by omega)]; exact hf
      · rintro ⟨j, hj, hf⟩
        refine ⟨j, hj, ?_⟩
        unfold addT at hf
        rwa [if_neg (by omega)] at hf
  · unfold addT at hj
    by_cases e : j = k
    · subst e
      rw [if_pos rfl] at hj
      obtain ⟨rfl, rfl⟩ := Prod.mk.inj (Option.some.inj hj)
      exact atKey_put_same hm (keylit _) _ z
    · rw [if_neg e] at hj
      rw [atKey_put_other (by simp; omega)]
      exact h.get j x y hj z

/-- What a look at the degree d tells. -/
def LkAt (f : Tbl) (d : Int) (c e : Nat) (fd : Bool) : Prop := (fd = true ∧ ∃ k : Nat, d = (k : Int) ∧ f k = some (c, e)) ∨ (fd = false ∧ c = 0 ∧ e = 0 ∧ ∀ k : Nat, d = (k : Int) → f k = none)

theorem lk_ex (f : Tbl) (d : Int) : ∃ c e fd, LkAt f d c e fd := by
  rcases Classical.em (∃ k : Nat, d = (k : Int) ∧ f k ≠ none) with ⟨k, h1, h2⟩ | h
  · cases hf : f k with
    | none => exact absurd hf h2
    | some p => exact ⟨p.1, p.2, true, .inl ⟨rfl, k, h1, hf⟩⟩
  · refine ⟨0, 0, false, .inr ⟨rfl, rfl, rfl, fun k e => ?_⟩⟩
    cases hf : f k with
    | none => rfl
    | some p => exact absurd ⟨k, e, by rw [hf]; simp⟩ h

theorem LkAt.has {D : DataW Value} {f : Tbl} {d : Int} {c e : Nat} {fd : Bool} (hT : TbD D f) (h : LkAt f d c e fd) : Go.Maps.has D (.int .i64 d) = fd := by
  rcases h with ⟨rfl, k, h1, h2⟩ | ⟨rfl, _, _, h2⟩
  · exact (hT.has d).2 ⟨k, h1, by rw [h2]; simp⟩
  · cases hh : Go.Maps.has D (.int .i64 d) with
    | false => rfl
    | true =>
      obtain ⟨k, h3, h4⟩ := (hT.has d).1 hh
      exact absurd (h2 k h3) h4

theorem LkAt.val {D : DataW Value} {f : Tbl} {d : Int} {c e : Nat} {fd : Bool} (hT : TbD D f) (h : LkAt f d c e fd) : D.atKey (.int .i64 d) (.held (pn 0 0)) = .held (pn c e) := by
  have hh := h.has hT
  rcases h with ⟨rfl, k, h1, h2⟩ | ⟨rfl, rfl, rfl, h2⟩
  · subst h1; exact hT.get k c e h2 _
  · exact atKey_of_not_has hh _

theorem key_dg {x : Int} (h : -1 ≤ x ∧ x ≤ 127) : keyOf Try.prog 3 (.int .i64 x) = some (.int .i64 x) := keyOf_int_mk Try.underlying3 (by
  have m0 : IntKind.i64.min = -9223372036854775808 := by decide
  have m1 : IntKind.i64.max = 9223372036854775807 := by decide
  simp [Lit.wf]; omega)

/-- A look that tells what lies there, or the zero, and which. -/
theorem wpList_lookup_okv {P : Program} (w : World) {ops : Array Oper} {rest : List Oper} {o : Oper} {a : Act} {Q : Exit → Act → World → Prop}
    (hg : o.guard = none) (m x : Operand) (t : TypeId) (hop : o.op = Op.lookup t m x true)
    (k e : TypeId) (K : Go.Maps.Keyed P k) (ht : P.underlying t = some (.map k e)) {z : Value} (hz : (zeroValue e).run P w = .ok z w) (b n : Nat) (D : DataW Value)
    (hm : a.eval m = .map (some b)) (hown : w.ownsMap P k RV b n D) (key : Value) (kl : Lit) (hx : a.eval x = key) (hkey : keyOf P k key = some kl) (v : Value) (hat : D.atKey kl (.held z) = .held v) (c : Bool) (hc : Go.Maps.has D kl = c)
    (hK : wpList P ops Q rest (a.put o.dst (.tuple #[v, .bool c])) w) :
    wpList P ops Q (o :: rest) a w :=
  wpList_lookup_own_ok w hg m x t hop k e K ht RV hz (.held z) [] rfl b n D hm hown key kl hx hkey (fun u ps hv => by
    have e : u = v := by
      rw [hat] at hv
      exact (show u = v ∧ ps = [] by simpa [RV] using hv).1
    subst e
    rw [hc]; exact hK)

theorem mapp_below {W W' : World} {n b m : Nat} {D : DataW Value} (h : W.ownsMap Try.prog 3 RV b m D) (hb : Below n W W') (hn : b < n) : W'.ownsMap Try.prog 3 RV b m D := by
  obtain ⟨es, clock, h1, h2⟩ := h
  exact ⟨es, clock, (hb.block b hn).trans h1, h2⟩

theorem dg_ex {a b : Nat} (h : Wd a b) : ∃ d, Dg a b d := by
  by_cases h0 : b = 0
  · subst h0
    have la := ln_len 64 a h.1 (by omega)
    exact ⟨_, dg_lo la.1 la.2⟩
  · have lb := ln_len 64 b h.2 (by omega)
    exact ⟨_, dg_hi h lb.1 h0⟩

/-- What echelon answers. -/
def EchR (l : Nat → Bool) (M N : Nat) (e : Ending) (w' : World) : Prop :=
  (∃ b n D f, e = .returned (.tuple #[.map (some b), .bool true]) ∧ w'.ownsMap Try.prog 3 RV b n D ∧ TbD D f ∧ Ech l M N f ∧ b < w'.heap.size) ∨ (e = .returned (.tuple #[.map none, .bool false]) ∧ ¬ ∃ t, Makes l M N t)

set_option maxRecDepth 100000 in
set_option maxHeartbeats 4000000 in
theorem echelon_any (ao : Option Addr) (cap : Nat) (l : List Bool) (hl : l.length ≤ 64) (M : Nat) (hM : M ≤ l.length) (w : World) (hrow : BRow w ao l) :
    Calls Try.prog 14 #[.slice ao l.length cap, .int .i64 (M : Int)] w fun e w' => EchR (gb l) M l.length e w' ∧ Below w.heap.size w w' := by
  have cB := hid (fun p (h1 : M ≤ p) (h2 : p < l.length) (w' : World) (hr : BRow w' ao l) => behind_any ao cap l hl p M h1 h2 w' hr)
  have HR := hid (fun (w' : World) (h : Below w.heap.size w w') => brow_below hrow h)
  obtain ⟨L, hL⟩ : ∃ L, L = gb l := ⟨_, rfl⟩
  rw [← hL] at cB ⊢
  obtain ⟨R, hRd⟩ : ∃ R : World → Prop, R = fun w' => BRow w' ao l := ⟨_, rfl⟩
  have cB2 : Hid (∀ p, M ≤ p → p < l.length → ∀ w', R w' → Calls Try.prog 18 #[.slice ao l.length cap, .int .i64 (p : Int), .int .i64 (M : Int)] w' fun e w'' => (∃ a b : Nat, e = .returned (pn a b) ∧ Wd a b ∧ ∀ j, pb a b j = rwp L M p j) ∧ Below w'.heap.size w' w'') := by
    subst hRd; exact cB
  have HR2 : Hid (∀ w', Below w.heap.size w w' → R w') := by subst hRd; exact HR
  obtain ⟨N, hN⟩ : ∃ N, N = l.length := ⟨_, rfl⟩
  rw [← hN] at hl hM cB2 ⊢
  clear hN cB HR hrow hL hRd
  have hmk := run_makeMap (P := Try.prog) 33 w
  go_enter Try.func14, Try.ntmps14
  go_wp2
  clear hmk
  have hM0 := hid (World.ownsMap_made w Try.prog 3 RV)
  have hB0 : Below w.heap.size w (w.alloc (.map #[] 0)) := (Below.refl _ w).alloc (Nat.le_refl _) _
  have hs0 : w.heap.size < (w.alloc (.map #[] 0)).heap.size := by simp
  obtain ⟨W0, hW0⟩ : ∃ W0, w.alloc (.map #[] 0) = W0 := ⟨_, rfl⟩
  rw [hW0] at hM0 hB0 hs0 ⊢
  clear hW0
  go_loopw [7] (fun i wr => ∃ (p n : Nat) (D : DataW Value) (f : Tbl), i = .int .i64 (p : Int) ∧ M ≤ p ∧ p ≤ N ∧ n ≤ p ∧ Hid (TbD D f) ∧ Hid (Ech L M p f) ∧ Hid (wr.ownsMap Try.prog 3 RV w.heap.size n D) ∧ Below w.heap.size w wr ∧ w.heap.size < wr.heap.size) (fun i wr => ((N : Int) - intOf i).toNat)
  case atStart => exact ⟨M, 0, .map [], _, rfl, by omega, by omega, by omega, TbD.start, Ech.start L M, hM0.out, hB0, hs0⟩
  case round =>
    obtain ⟨p, n, D, f, rfl, hp1, hp2, hn, HT, HE, HM, hB, hs⟩ := hrel
    by_cases hgo : p < N
    · have hgo' : (p : Int) < (N : Int) := by omega
      have cBp := cB2.out p hp1 hgo
      have hRr := hid (HR2.out wr hB)
      obtain ⟨W1, hW1⟩ : ∃ W1, W1 = wr := ⟨_, rfl⟩
      rw [← hW1] at HM hB hs hRr ⊢
      clear hW1
      go_wp2_with (first
        | (go_at_call 18; refine (cBp _ hRr.out).mono ?_; rintro e w2 ⟨⟨a, b, rfl, hw2, hp2'⟩, hB2⟩
           have HC := hid (Cur.start (f := f) hw2 hp2')
           obtain ⟨d, hd⟩ := dg_ex hw2
           obtain ⟨c, e, fd, hlk⟩ := lk_ex f d
           have hdb := dg_bd hw2 hd
           have hcd := fun w' => degree_any a b hw2 d hd w'
           have X8 := Bx.new w2 a b
           have x80 := X8.c0
           have x81 := X8.c1
           have HX8 := hid X8
           have Hd := hid hd
           have Hlk := hid hlk
           clear X8 hd hlk hp2')
        | (go_at_call 19; refine (hcd _).mono ?_; rintro e w3 ⟨rfl, hB3⟩
           have hB23 := (hB2.alloc hB2.size (.cells #[.int .u64 (a : Int), .int .u64 (b : Int)] 38)).trans (hB3.mono (by simp; have := hB2.size; omega))
           have HM3 := hid (mapp_below HM.out hB23 hs))
        | (at_lookup; refine wpList_lookup_okv _ rfl _ _ 33 rfl 3 38 (int_keyed Try.underlying3) Try.underlying33 (Try.zeroValue38 _) w.heap.size n D rfl HM3.out _ _ rfl (key_dg hdb) (pn c e) (Hlk.out.val HT.out) fd (Hlk.out.has HT.out) ?_))
      have hX8 := hid ((HX8.out.up hB3).alloc (.cells #[.int .u64 (c : Int), .int .u64 (e : Int)] 38))
      have hX9 := hid (Bx.new w3 c e)
      have hBz := hid (hB23.alloc hB23.size (.cells #[.int .u64 (c : Int), .int .u64 (e : Int)] 38))
      have h8 : W1.heap.size ≤ w2.heap.size ∧ w2.heap.size ≠ w3.heap.size ∧ W1.heap.size ≤ w3.heap.size := by
        have h1 := hB2.size
        have h2 := hB3.size
        rw [World.size_alloc] at h2
        omega
      have HDs := hid hdb
      clear hcd x80 x81 HX8 hw2 hB2 hB3 hB23 HM3 hdb cBp
      obtain ⟨B8, hB8⟩ : ∃ B8, B8 = w2.heap.size := ⟨_, rfl⟩
      rw [← hB8] at h8 hX8 ⊢
      obtain ⟨B9, hB9⟩ : ∃ B9, B9 = w3.heap.size := ⟨_, rfl⟩
      rw [← hB9] at h8 hX9 ⊢
      obtain ⟨W2, hW2⟩ : ∃ W2, W2 = w3.alloc (.cells #[.int .u64 (c : Int), .int .u64 (e : Int)] 38) := ⟨_, rfl⟩
      rw [← hW2] at hX8 hX9 hBz ⊢
      clear hB8 hB9 hW2
      go_loopg [9, 10] (d + 1).toNat (fun gk v9 v10 wz => ∃ (a b c e B9 : Nat) (d : Int) (fd : Bool), v9 = .pointer (some ⟨B9, 0, none⟩) ∧ v10 = .bool fd ∧ Hid (gk = (d + 1).toNat) ∧ Hid (Dg a b d) ∧ Hid (Cur L M p f a b) ∧ Hid (LkAt f d c e fd) ∧ Hid (Bx wz B8 a b) ∧ Hid (Bx wz B9 c e) ∧ B8 ≠ B9 ∧ W1.heap.size ≤ B9 ∧ Hid (Below W1.heap.size W1 wz))
      case atStart => exact ⟨a, b, c, e, B9, d, fd, rfl, rfl, rfl, Hd, HC, Hlk, hX8, hX9, h8.2.1, h8.2.2, hBz⟩
      case round =>
        clear Hd HC Hlk hX8 hX9 hBz HDs
        obtain ⟨a, b, c, e, B9, d, fd, rfl, rfl, hgk, hd, hC, hlk, hX8, hX9, hne, hB9, hBz⟩ := hrel
        have x80 := hX8.out.c0
        have x81 := hX8.out.c1
        cases fd with
        | true =>
          obtain ⟨k, hdk, hfk⟩ : ∃ k : Nat, d = (k : Int) ∧ f k = some (c, e) := by
            rcases hlk.out with ⟨_, k, h1, h2⟩ | ⟨h, _⟩
            · exact ⟨k, h1, h2⟩
            · cases h
          have x90 := hX9.out.c0
          have x91 := hX9.out.c1
          have hC2 := hC.out.step HE.out hfk
          have cP := fun w' => plus_any a b c e hC.out.wd (HE.out.wd k c e hfk) w'
          have hls := fun {z : Int} => Cur.less (f := f) (e := z) HE.out (by rw [← hdk]; exact hd.out) hfk
          obtain ⟨a2, ha2⟩ : ∃ a2, a2 = a ^^^ c := ⟨_, rfl⟩
          obtain ⟨b2, hb2⟩ : ∃ b2, b2 = b ^^^ e := ⟨_, rfl⟩
          rw [← ha2, ← hb2] at hC2 cP
          rw [← ha2, ← hb2] at hls
          obtain ⟨d2, hd2⟩ := dg_ex hC2.wd
          obtain ⟨c2, e2, fd2, hlk2⟩ := lk_ex f d2
          have hdb := dg_bd hC2.wd hd2
          have hlt := hls hd2
          have cD := fun w' => degree_any a2 b2 hC2.wd d2 hd2 w'
          have HC2 := hid hC2
          have Hd2 := hid hd2
          have Hlk2 := hid hlk2
          have HG := hid (show (d2 + 1).toNat < gk by rw [hgk.out]; omega)
          clear ha2 hb2 hls hC2 hd2 hlk2 hlt hfk hgk hd hC hlk hdk
          go_wp2_with (first
            | (go_at_call 20; refine (cP _).mono ?_; rintro e' w4 ⟨rfl, hB4⟩
               have X8 := hX8.out.up hB4
               have X9 := hX9.out.up hB4
               have y80 := X8.c0
               have y81 := X8.c1
               have f80 := X8.fz 0
               have f81 := X8.fz 1
               have X8S := X8.set a2 b2
               have X9S := X9.other (fun h => hne h.symm) (.int .u64 (a2 : Int)) (.int .u64 (b2 : Int))
               have z90 := X9S.c0
               have z91 := X9S.c1
               have X8A := X8S.alloc (.cells #[.int .u64 (c : Int), .int .u64 (e : Int)] 38)
               have z80 := X8A.c0
               have z81 := X8A.c1
               have HX8A := hid X8A
               have HX9A := hid (Bx.new ((w4.setCell ⟨B8, 0, none⟩ (.int .u64 (a2 : Int))).setCell ⟨B8, 1, none⟩ (.int .u64 (b2 : Int))) c e)
               have hB4a := hid (below_trans hBz.out hB4)
               have hB4b := hid (set_two hB4a.out h8.1 (.int .u64 (a2 : Int)) (.int .u64 (b2 : Int)))
               have hB4c := hid (hB4b.out.alloc hB4b.out.size (.cells #[.int .u64 (c : Int), .int .u64 (e : Int)] 38))
               have hlt8 := X8.lt
               have hs4 := hB4a.out.size
               simp only [World.size_setCell] at HX9A
               clear X8 X9 X8S X9S X8A hB4)
            | (go_at_call 19; refine (cD _).mono ?_; rintro e' w5 ⟨rfl, hB5⟩
               have hBz5 := hid (below_trans hB4c.out hB5)
               have HM5 := hid (mapp_below HM.out hBz5.out hs)
               have X8 := hid (HX8A.out.up hB5)
               have X9 := hid (HX9A.out.up hB5)
               have v90 := X9.out.c0
               have v91 := X9.out.c1
               have g90 := X9.out.fz 0
               have g91 := X9.out.fz 1)
            | (at_lookup; refine wpList_lookup_okv _ rfl _ _ 33 rfl 3 38 (int_keyed Try.underlying3) Try.underlying33 (Try.zeroValue38 _) w.heap.size n D rfl HM5.out _ _ rfl (key_dg hdb) (pn c2 e2) (Hlk2.out.val HT.out) fd2 (Hlk2.out.has HT.out) ?_))
          go_roundg (d2 + 1).toNat
          case rel => exact ⟨a2, b2, c2, e2, w4.heap.size, d2, fd2, rfl, rfl, rfl, Hd2, HC2, Hlk2, X8.out.other (by omega) _ _, X9.out.set c2 e2, by omega, hs4, set_two hBz5.out hs4 _ _⟩
          case measure => exact HG.out
        | false =>
          have hno : Hid (∀ k : Nat, d = (k : Int) → f k = none) := by
            rcases hlk.out with ⟨h, _⟩ | ⟨_, _, _, h⟩
            · cases h
            · exact h
          have cD := fun w' => degree_any a b hC.out.wd d hd.out w'
          have hdb := dg_bd hC.out.wd hd.out
          have HMz := hid (mapp_below HM.out hBz.out hs)
          have hwz := hBz.out.size
          have hBww := below_trans hB (hBz.out)
          by_cases hd1 : d = -1
          · subst hd1
            have HE2 := hid (HE.out.same hC.out hp1 hd.out)
            clear hlk hgk hno
            go_wp2_with (go_at_call 19; refine (cD _).mono ?_; rintro e' w5 ⟨rfl, hB5⟩)
            go_roundw
            case rel => exact ⟨p + 1, n, D, f, by simp, by omega, by omega, by omega, HT, HE2, mapp_below HMz.out hB5 (by omega), below_trans hBww hB5, by have := hB5.size; omega⟩
            case measure => exact measK hgo
          · by_cases hd0 : d = 0
            · subst hd0
              have HE2 := hid (HE.out.never hC.out hp1 hgo hd.out)
              clear hlk hgk hno hd1
              go_wp2_with (go_at_call 19; refine (cD _).mono ?_; rintro e' w5 ⟨rfl, hB5⟩)
              go_ret2
              exact ⟨.inr ⟨rfl, HE2.out⟩, below_trans hBww hB5⟩
            · obtain ⟨k, hk⟩ : ∃ k : Nat, d = (k : Int) := ⟨d.toNat, by omega⟩
              have hk1 : 1 ≤ k := by omega
              have HE2 := hid (HE.out.add hC.out hp1 (by rw [← hk]; exact hd.out) hk1 (hno.out k hk))
              have HT2 := hid (HT.out.add HMz.out.isMap k a b)
              have hd1' : (d == -1) = false := by simpa using hd1
              have hd0' : (d == 0) = false := by simpa using hd0
              clear hlk hgk hno
              go_wp2_with (first
                | (go_at_call 19; refine (cD _).mono ?_; rintro e' w5 ⟨rfl, hB5⟩))
              have hX85 := hid (hX8.out.up hB5)
              have hB15 := hid (below_trans hBz.out hB5)
              have c50 := hX85.out.c0
              have c51 := hX85.out.c1
              clear hX8 hX9 x80 x81 HMz
              go_region_with (first
                | (go_at_call 19; refine (cD _).mono ?_; rintro e' w6 ⟨rfl, hB6⟩
                   have hX86 := hid (Bx.up (W := w5.drew) (show Bx w5.drew B8 a b from hX85.out) hB6)
                   have hB16 := hid (hB15.out.drew.trans (hB6.mono hB15.out.drew.size))
                   have d60 := hX86.out.c0
                   have d61 := hX86.out.c1
                   have HM6 := hid (mapp_below HM.out hB16.out hs)
                   obtain ⟨w7, hrun, r1, r2⟩ := HM6.out.update (int_keyed Try.underlying3) Try.underlying33 (by unfold maxLen; omega) (key_dg (x := (k : Int)) (by omega)) (show RV (pn a b) = some (.held (pn a b), []) from rfl)
                   have R1 := hid r1
                   have R2 := hid r2
                   clear r1 r2))
              all_goals go_wp2
              all_goals go_roundw
              all_goals first
                | exact measK hgo
                | exact ⟨p + 1, n + 1, _, addT f k a b, by simp, by omega, by omega, by omega, HT2, HE2, R1, (below_trans hB hB16.out).grown R2.out (by have := hB16.out.size; omega) (fun j e => by cases e; exact Nat.le_refl _), by have h1 := R2.out.size; have h2 := hB16.out.size; omega⟩
    · have hgo' : ¬ (p : Int) < (N : Int) := by omega
      obtain rfl : p = N := by omega
      go_wp2
      go_ret2
      exact ⟨.inl ⟨_, n, D, f, rfl, HM.out, HT.out, HE.out, hs⟩, hB⟩

/-! ### the least rule that holds to all rows -/

/-- A look that tells what lies there, or the zero. -/
theorem wpList_lookup_zv {P : Program} (w : World) {ops : Array Oper} {rest : List Oper} {o : Oper} {a : Act} {Q : Exit → Act → World → Prop}
    (hg : o.guard = none) (m x : Operand) (t : TypeId) (hop : o.op = Op.lookup t m x false)
    (k e : TypeId) (K : Go.Maps.Keyed P k) (ht : P.underlying t = some (.map k e)) {z : Value} (hz : (zeroValue e).run P w = .ok z w) (b n : Nat) (D : DataW Value)
    (hm : a.eval m = .map (some b)) (hown : w.ownsMap P k RV b n D) (key : Value) (kl : Lit) (hx : a.eval x = key) (hkey : keyOf P k key = some kl) (v : Value) (hat : D.atKey kl (.held z) = .held v)
    (hK : wpList P ops Q rest (a.put o.dst v) w) :
    wpList P ops Q (o :: rest) a w := by
  refine wpList_plain hg fun K' hK' => ?_
  obtain ⟨u, ps, hrun, hu⟩ := hown.lookup K ht hz (zd := .held z) (zp := []) rfl hkey
  have e : u = v := by
    rw [hat] at hu
    exact (show u = v ∧ ps = [] by simpa [RV] using hu).1
  subst e
  unfold Oper.wp
  simp [execOp, hop, hm, hx, hrun, Result.andThen]
  exact hK' _ _ hK

set_option maxRecDepth 100000 in
set_option maxHeartbeats 1000000 in
theorem least_any (l : Nat → Bool) (M N : Nat) (hM : M ≤ 64) (b n : Nat) (D : DataW Value) (f : Tbl) (hT : TbD D f) (hE : Ech l M N f) (w : World) (hm : w.ownsMap Try.prog 3 RV b n D) :
    Calls Try.prog 15 #[.map (some b), .int .i64 (M : Int)] w fun e w' => (∃ x y : Nat, e = .returned (pn x y) ∧ Lst f (M + 1) x y) ∧ Below w.heap.size w w' := by
  have hbw : b < w.heap.size := by
    obtain ⟨es, clock, h1, _⟩ := hm
    exact (Array.getElem?_eq_some_iff.1 h1).1
  have HM := hid (fun (w' : World) (h : Below w.heap.size w w') => mapp_below hm h hbw)
  have HT := hid hT
  have HE := hid hE
  have hM1 := HM.out w (Below.refl _ _)
  have e0 := Bx.new w 0 0
  clear hT hE hm hbw
  go_enter Try.func15, Try.ntmps15
  go_wp2_with (go_at_call 21; refine (with_any 0 0 0 ⟨by decide, by decide⟩ (by decide) _).mono ?_; rintro e w2 ⟨⟨x, y, rfl, hw2, hp2⟩, hB2⟩
               have HW2 := hid hw2; have HP2 := hid hp2
               have E0 := hid ((e0.up hB2).alloc (.cells #[.int .u64 (x : Int), .int .u64 (y : Int)] 38))
               have E1 := hid (Bx.new w2 x y)
               have hBa := ((Below.refl w.heap.size w).alloc (Nat.le_refl _) (.cells #[.int .u64 0, .int .u64 0] 38))
               have hBb := hBa.trans (hB2.mono hBa.size)
               have hB3 := hid (hBb.alloc hBb.size (.cells #[.int .u64 (x : Int), .int .u64 (y : Int)] 38))
               have h8 : w.heap.size ≠ w2.heap.size ∧ w.heap.size ≤ w2.heap.size := (by have := hB2.size; rw [World.size_alloc] at this; omega)
               clear hw2 hp2 hB2 hBa hBb)
  have HL := hid (Lst.start HE.out HW2.out (fun j => by rw [HP2.out j, pb_zero, Bool.false_or]))
  clear e0 HW2 HP2
  obtain ⟨B8, hB8⟩ : ∃ B8, B8 = w2.heap.size := ⟨_, rfl⟩
  rw [← hB8] at h8 E1 ⊢
  obtain ⟨W2, hW2⟩ : ∃ W2, W2 = w2.alloc (.cells #[.int .u64 (x : Int), .int .u64 (y : Int)] 38) := ⟨_, rfl⟩
  rw [← hW2] at E0 E1 hB3 ⊢
  clear hB8 hW2
  go_loopw [6] (fun i wr => ∃ (k x y : Nat), i = .int .i64 (k : Int) ∧ 1 ≤ k ∧ k ≤ M + 1 ∧ Hid (Lst f k x y) ∧ Hid (Bx wr w.heap.size 0 0) ∧ Hid (Bx wr B8 x y) ∧ Hid (Below w.heap.size w wr)) (fun i wr => ((M : Int) + 1 - intOf i).toNat)
  case atStart => exact ⟨1, x, y, rfl, by omega, by omega, HL, E0, E1, hB3⟩
  case round =>
    clear HL E0 E1 hB3
    obtain ⟨k, x, y, rfl, hk1, hk, HL, E0, E1, hB⟩ := hrel
    by_cases hgo : k ≤ M
    · have hgo' : (k : Int) ≤ (M : Int) := by omega
      obtain ⟨c, e, fd, hlk⟩ := lk_ex f (k : Int)
      have hwd : Wd c e := by
        rcases hlk with ⟨_, j, _, h2⟩ | ⟨_, rfl, rfl, _⟩
        · exact HE.out.wd j c e h2
        · exact ⟨by decide, by decide⟩
      have cO := fun w' => odd_any c e x y hwd HL.out.wd w'
      have Hlk := hid hlk
      have HMr := hid (HM.out wr hB.out)
      have c0 := E1.out.c0
      have c1 := E1.out.c1
      have hs := hB.out.size
      cases hodd : xs 128 (fun i => pb c e i && pb x y i) with
      | true =>
        rw [hodd] at cO
        have hfk : f k = some (c, e) := by
          rcases hlk with ⟨_, j, h1, h2⟩ | ⟨_, rfl, rfl, _⟩
          · obtain rfl : k = j := by omega
            exact h2
          · rw [xs_false (fun i _ => by rw [pb_zero]; rfl)] at hodd; cases hodd
        have hodd2 : Hid (xs k (fun i => pb c e i && pb x y i) = true) := by
          have := odd_at HE.out HL.out (by omega) hk1 hfk
          show _ = _
          rw [← this]; exact hodd
        have HF := hid hfk
        clear hlk hodd hwd hfk
        go_wp2_with (first
          | (at_lookup; refine wpList_lookup_zv _ rfl _ _ 33 rfl 3 38 (int_keyed Try.underlying3) Try.underlying33 (Try.zeroValue38 _) b n D rfl HMr.out _ _ rfl (key_dg (x := (k : Int)) (by omega)) (pn c e) (Hlk.out.val HT.out) ?_)
          | (go_at_call 22; refine (cO _).mono ?_; rintro e' w4 ⟨rfl, hB4⟩
             have X0 := hid (E0.out.up hB4)
             have X1 := E1.out.up hB4
             have y0 := X1.c0
             have y1 := X1.c1
             have HX1 := hid X1
             have hBB := hid (below_trans hB.out hB4))
          | (go_at_call 21; refine (with_any x y k HL.out.wd (by omega) _).mono ?_; rintro e' w5 ⟨⟨x2, y2, rfl, hw2, hp2⟩, hB5⟩
             have HL2 := hid (HL.out.set HE.out hk1 HF.out hodd2.out hw2 hp2)
             have X05 := hid (X0.out.up hB5)
             have X15 := hid (HX1.out.up hB5)
             have v0 := X15.out.c0
             have v1 := X15.out.c1
             have g0 := X15.out.fz 0
             have g1 := X15.out.fz 1
             have hB5b := hid (below_trans hBB.out hB5)
             clear hw2 hp2))
        go_roundw
        case rel => exact ⟨k + 1, x2, y2, by simp, by omega, by omega, HL2, X05.out.other h8.1 _ _, X15.out.set x2 y2, set_two hB5b.out h8.2 _ _⟩
        case measure => simp [intOf]; omega
      | false =>
        rw [hodd] at cO
        have HL2 := hid (HL.out.skip hk1 (fun c' d' h => by
          rcases hlk with ⟨_, j, h1, h2⟩ | ⟨_, rfl, rfl, h2⟩
          · obtain rfl : k = j := by omega
            rw [h2] at h
            obtain ⟨rfl, rfl⟩ := Prod.mk.inj (Option.some.inj h)
            rw [← odd_at HE.out HL.out (by omega) hk1 h2]; exact hodd
          · rw [h2 k rfl] at h; cases h))
        clear hlk hodd hwd
        go_wp2_with (first
          | (at_lookup; refine wpList_lookup_zv _ rfl _ _ 33 rfl 3 38 (int_keyed Try.underlying3) Try.underlying33 (Try.zeroValue38 _) b n D rfl HMr.out _ _ rfl (key_dg (x := (k : Int)) (by omega)) (pn c e) (Hlk.out.val HT.out) ?_)
          | (go_at_call 22; refine (cO _).mono ?_; rintro e' w4 ⟨rfl, hB4⟩
             have X0 := hid (E0.out.up hB4)
             have X1 := hid (E1.out.up hB4)
             have hBB := hid (below_trans hB.out hB4)))
        go_roundw
        case rel => exact ⟨k + 1, x, y, by simp, by omega, by omega, HL2, X0, X1, hBB⟩
        case measure => simp [intOf]; omega
    · have hgo' : ¬ (k : Int) ≤ (M : Int) := by omega
      obtain rfl : k = M + 1 := by omega
      have d0 := E1.out.c0
      have d1 := E1.out.c1
      have y0 := E0.out.c0
      have y1 := E0.out.c1
      have f0 := E0.out.fz 0
      have f1 := E0.out.fz 1
      have hE' := E0.out.set x y
      have r0 := hE'.c0
      have r1 := hE'.c1
      have HBE := hid (set_two hB.out (Nat.le_refl _) (.int .u64 (x : Int)) (.int .u64 (y : Int)))
      clear hE'
      go_wp2
      exact bodyPost_ret (v := pn x y) (by simp [results, Try.results15, go_sem, r0, r1]) rfl ⟨⟨x, y, rfl, HL.out⟩, HBE.out⟩

end Go.Proofs.Ytfomanpehfdnbaa.Calls119
