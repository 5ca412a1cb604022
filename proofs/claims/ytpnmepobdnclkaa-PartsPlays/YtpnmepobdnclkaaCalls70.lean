/-
  Package poly: two points at one place; what is wrong with points, in all.
-/
import Derived.Test.YtpnmepobdnclkaaCalls69
import Derived.Deep.QuietTactic
import Derived.BigQuiet
namespace Go.Proofs.Ytpnmepobdnclkaa.Calls70
set_option linter.unusedVariables false
open Go.ChangeShapes Go.WideShapes Go.ChangeAt Go.RowKit Go.Deep Go.Maps Go.Proofs.Ytpnmepobdnclkaa.Base Go.Proofs.Ytpnmepobdnclkaa.Num Go.Proofs.Ytpnmepobdnclkaa.Num13 Go.Proofs.Ytpnmepobdnclkaa.Num16 Go.Proofs.Ytpnmepobdnclkaa.Num17 Go.Proofs.Ytpnmepobdnclkaa.Num34 Go.Proofs.Ytpnmepobdnclkaa.Num35 Go.Proofs.Ytpnmepobdnclkaa.Base4 Go.Proofs.Ytpnmepobdnclkaa.Calls56 Go.Proofs.Ytpnmepobdnclkaa.Calls57 Go.Proofs.Ytpnmepobdnclkaa.Calls69
open Go.Proofs.Ytpnmepobdnclkaa.Base3 (RV)

/-- A look at a number that may lack: then it is the zero. -/
theorem wpList_lookup_at {P : Program} (w : World) {ops : Array Oper} {rest : List Oper} {o : Oper} {a : Act} {Q : Exit → Act → World → Prop}
    (hg : o.guard = none) (m x : Operand) (t : TypeId) (hop : o.op = Op.lookup t m x false)
    (k e : TypeId) (K : Go.Maps.Keyed P k) (ht : P.underlying t = some (.map k e)) {z : Value} (hz : (zeroValue e).run P w = .ok z w) (b n : Nat) (D : DataW Value)
    (hm : a.eval m = .map (some b)) (hown : w.ownsMap P k RV b n D) (key : Value) (kl : Lit) (hx : a.eval x = key) (hkey : keyOf P k key = some kl) (v : Value) (hat : D.atKey kl (.held z) = .held v)
    (hK : wpList P ops Q rest (a.put o.dst v) w) :
    wpList P ops Q (o :: rest) a w := by
  refine wpList_plain hg fun K' hK' => ?_
  obtain ⟨u, ps, hrun, hu⟩ := hown.lookup K ht hz (zd := .held z) (zp := []) rfl hkey
  have e : u = v := by
    rw [hat] at hu
    exact (show u = v ∧ ps = [] by simpa [RV] using hu).1
  subst e
  unfold Oper.wp
  simp [execOp, hop, hm, hx, hrun, Result.andThen]
  exact hK' _ _ hK

/-- How often it was there, of places that are all different. -/
def occ (X : Nat → Int) (k : Nat) (x : Int) : Int := if x ∈ mk k X then 1 else 0

theorem occ_no {X : Nat → Int} {k : Nat} {x : Int} (h : ∀ j, j < k → X j ≠ x) : occ X k x = 0 := by
  unfold occ
  rw [if_neg]
  intro hm
  obtain ⟨i, hi, e⟩ := mk_mem hm
  exact h i hi e

theorem occ_yes {X : Nat → Int} {k j : Nat} (h : j < k) : occ X k (X j) = 1 := by
  unfold occ
  rw [if_pos]
  exact List.mem_map.2 ⟨j, List.mem_range.2 h, rfl⟩

theorem occ_next {X : Nat → Int} {k : Nat} {y : Int} (h : y ≠ X k) : occ X (k + 1) y = occ X k y := by
  unfold occ
  rw [mk_succ]
  simp [h]

/-- The map: how often each place was there. -/
def Cnt (X : Nat → Int) (k : Nat) (D : DataW Value) : Prop := ∀ x, D.atKey (.int .i64 x) (.held (.int .i64 0)) = .held (.int .i64 (occ X k x))

theorem Cnt.start (X : Nat → Int) : Cnt X 0 (.map []) := fun x => by
  show DataW.held _ = _
  rw [occ_no (fun j hj => absurd hj (by omega))]

theorem keylit (x : Int) : WideAt.IsKeyLit (.int .i64 x) := trivial

theorem Cnt.next {X : Nat → Int} {k : Nat} {D : DataW Value} (h : Cnt X k D) (hm : IsMap D) : Cnt X (k + 1) (D.put (.int .i64 (X k)) (.held (.int .i64 1))) := fun x => by
  by_cases e : x = X k
  · subst e
    rw [atKey_put_same hm (keylit _), occ_yes (by omega)]
  · rw [atKey_put_other (by simp; exact e), h x, occ_next e]

theorem key_in {x : Int} (h : 0 ≤ x ∧ x < 251) : keyOf Try.prog 2 (.int .i64 x) = some (.int .i64 x) := keyOf_int_mk Try.underlying2 (by
  have m0 : IntKind.i64.min = -9223372036854775808 := by decide
  have m1 : IntKind.i64.max = 9223372036854775807 := by decide
  simp [Lit.wf]; omega)

theorem map_below {W W' : World} {n b m : Nat} {D : DataW Value} (h : W.ownsMap Try.prog 2 RV b m D) (hb : Below n W W') (hn : b < n) : W'.ownsMap Try.prog 2 RV b m D := by
  obtain ⟨es, clock, h1, h2⟩ := h
  exact ⟨es, clock, (hb.block b hn).trans h1, h2⟩

theorem dis_step {l : List (Int × Int)} {k : Nat} (h : Dis l k) (hn : ∀ j, j < k → px l j ≠ px l k) : Dis l (k + 1) := fun i j hi hj => by
  by_cases e : i = k
  · subst e; exact (hn j hj).symm
  · exact h i j (by omega) hj

set_option maxRecDepth 100000 in
theorem samePlace_any (ao : Option Addr) (cap : Nat) (l : List (Int × Int)) (hl : l.length ≤ 13) (hin : InP 251 l l.length) (b : Bool) (hb : b = false ↔ Dis l l.length) (w : World) (hrow : PRow w ao l) (hli : Lies w ao l) :
    Calls Try.prog 71 #[.slice ao l.length cap] w fun e w' => e = .returned (.bool b) ∧ Below w.heap.size w w' := by
  have hmk := run_makeMap (P := Try.prog) 108 w
  obtain ⟨N, hN⟩ : ∃ N, N = l.length := ⟨_, rfl⟩
  have HN : Hid (N = l.length) := hN
  have HB : Hid (b = false ↔ Dis l l.length) := hb
  have HI := hid hin
  rw [← hN] at hl ⊢
  clear hN hb hin
  go_enter Try.func71, Try.ntmps71
  go_wp2
  clear hmk
  have hM0 := hid (World.ownsMap_made w Try.prog 2 RV)
  have hB0 : Hid (Below w.heap.size w (w.alloc (.map #[] 0))) := (Below.refl _ w).alloc (Nat.le_refl _) _
  have hs0 : w.heap.size < (w.alloc (.map #[] 0)).heap.size := by simp
  obtain ⟨W0, hW0⟩ : ∃ W0, w.alloc (.map #[] 0) = W0 := ⟨_, rfl⟩
  rw [hW0] at hM0 hB0 hs0 ⊢
  clear hW0
  go_loopw [9] (fun i wr => ∃ (k : Nat) (D : DataW Value), i = .int .i64 (k : Int) ∧ k ≤ N ∧ Hid (Dis l k) ∧ Hid (Cnt (px l) k D) ∧ Hid (wr.ownsMap Try.prog 2 RV w.heap.size k D) ∧ Hid (Below w.heap.size w wr) ∧ w.heap.size < wr.heap.size) (fun i wr => ((N : Int) - intOf i).toNat)
  case atStart => exact ⟨0, .map [], rfl, by omega, fun i j hi => absurd hi (by omega), Cnt.start _, hM0, hB0, hs0⟩
  case round =>
    obtain ⟨k, D, rfl, hk, hD, hC, hM, hBr, hs⟩ := hrel
    by_cases hgo : k < N
    · have hgo' : (k : Int) < (N : Int) := by omega
      have hkl : Hid (k < l.length) := by have := HN.out; show k < l.length; omega
      rcases ao with _ | ad
      · exact (prow_none hrow hkl.out).elim
      · obtain ⟨c1, c2⟩ := pcell (prow_below hrow hBr.out hli) hkl.out
        have hxb := (HI.out k hkl.out).1
        have hmap : Hid (IsMap D) := hM.out.isMap
        have hat := hid (hC.out (px l k))
        have hBa := hid ((Below.refl _ wr).alloc (Nat.le_refl _) (.cells #[.int .i64 (px l k), .int .i64 (py l k)] 30))
        have hM1 := hid (map_below hM.out hBa.out hs)
        rcases Classical.em (∀ j, j < k → px l j ≠ px l k) with hnew | hold
        · have hD2 := hid (dis_step hD.out hnew)
          have hC2 := hid (hC.out.next hmap.out)
          rw [occ_no hnew] at hat
          have hat2 : Hid ((D.put (.int .i64 (px l k)) (.held (.int .i64 1))).atKey (.int .i64 (px l k)) (.held (.int .i64 0)) = .held (.int .i64 1)) := atKey_put_same hmap.out (keylit _) _ _
          clear hnew
          generalize px l k = x at *
          generalize py l k = y at *
          go_wp2_with (first
            | (at_lookup; refine wpList_lookup_at _ rfl _ _ 108 rfl 2 3 (int_keyed Try.underlying2) Try.underlying108 (Try.zeroValue3 _) w.heap.size k D rfl hM1.out _ _ rfl (key_in hxb) (.int .i64 0) hat.out ?_)
            | (at_mapUpdate; refine wpList_mapUpdate_own _ rfl _ _ _ 108 rfl 2 3 (int_keyed Try.underlying2) Try.underlying108 RV w.heap.size k D rfl hM1.out (by unfold maxLen; omega) _ _ _ rfl rfl (key_in hxb) (.held (.int .i64 1)) [] rfl ?_; intro w2 hown2 hgrow2; have hs2 := hgrow2.size; rw [World.size_alloc] at hs2; have HO2 := hid hown2; have hB2 := hid ((hBr.out.trans (hBa.out.mono hBr.out.size)).grown hgrow2 (by simp; omega) (fun k e => by cases e; exact Nat.le_refl _)); have dx : w2.cell? ⟨wr.heap.size, 0, none⟩ = some (.int .i64 x) := (by
                have h1 : (wr.alloc (.cells #[.int .i64 x, .int .i64 y] 30)).cell? ⟨wr.heap.size, 0, none⟩ = some (.int .i64 x) := (by simp)
                exact (World.cell?_of_block (hgrow2.block wr.heap.size (by simp) (fun e => by have h9 := Option.some.inj e; omega))).trans h1); clear hown2 hgrow2)
            | (at_lookup; refine wpList_lookup_at _ rfl _ _ 108 rfl 2 3 (int_keyed Try.underlying2) Try.underlying108 (Try.zeroValue3 _) w.heap.size (k + 1) _ rfl HO2.out _ _ rfl (key_in hxb) (.int .i64 1) hat2.out ?_))
          go_roundw
          case rel => exact ⟨k + 1, _, by simp, by omega, hD2, hC2, HO2, hB2, by omega⟩
          case measure => exact measK hgo
        · obtain ⟨j, hj, he⟩ : ∃ j, j < k ∧ px l j = px l k := by
            rcases Classical.em (∃ j, j < k ∧ px l j = px l k) with h | h
            · exact h
            · exact absurd (fun j hj e => h ⟨j, hj, e⟩) hold
          have eb : b = true := by
            cases b with
            | true => rfl
            | false => exact absurd he.symm (HB.out.1 rfl k j hkl.out hj)
          rw [← he, occ_yes hj, he] at hat
          have hat2 : Hid ((D.put (.int .i64 (px l k)) (.held (.int .i64 2))).atKey (.int .i64 (px l k)) (.held (.int .i64 0)) = .held (.int .i64 2)) := atKey_put_same hmap.out (keylit _) _ _
          subst eb
          clear hold he
          generalize px l k = x at *
          generalize py l k = y at *
          go_wp2_with (first
            | (at_lookup; refine wpList_lookup_at _ rfl _ _ 108 rfl 2 3 (int_keyed Try.underlying2) Try.underlying108 (Try.zeroValue3 _) w.heap.size k D rfl hM1.out _ _ rfl (key_in hxb) (.int .i64 1) hat.out ?_)
            | (at_mapUpdate; refine wpList_mapUpdate_own _ rfl _ _ _ 108 rfl 2 3 (int_keyed Try.underlying2) Try.underlying108 RV w.heap.size k D rfl hM1.out (by unfold maxLen; omega) _ _ _ rfl rfl (key_in hxb) (.held (.int .i64 2)) [] rfl ?_; intro w2 hown2 hgrow2; have hs2 := hgrow2.size; rw [World.size_alloc] at hs2; have HO2 := hid hown2; have hB2 := hid ((hBr.out.trans (hBa.out.mono hBr.out.size)).grown hgrow2 (by simp; omega) (fun k e => by cases e; exact Nat.le_refl _)); have dx : w2.cell? ⟨wr.heap.size, 0, none⟩ = some (.int .i64 x) := (by
                have h1 : (wr.alloc (.cells #[.int .i64 x, .int .i64 y] 30)).cell? ⟨wr.heap.size, 0, none⟩ = some (.int .i64 x) := (by simp)
                exact (World.cell?_of_block (hgrow2.block wr.heap.size (by simp) (fun e => by have h9 := Option.some.inj e; omega))).trans h1); clear hown2 hgrow2)
            | (at_lookup; refine wpList_lookup_at _ rfl _ _ 108 rfl 2 3 (int_keyed Try.underlying2) Try.underlying108 (Try.zeroValue3 _) w.heap.size (k + 1) _ rfl HO2.out _ _ rfl (key_in hxb) (.int .i64 2) hat2.out ?_))
          go_ret
          exact ⟨rfl, hB2.out⟩
    · have hgo' : ¬ (k : Int) < (N : Int) := by omega
      obtain rfl : k = N := by omega
      have eb : b = false := HB.out.2 (by rw [← HN.out]; exact hD.out)
      subst eb
      go_wp2
      go_ret
      exact ⟨rfl, hBr.out⟩

end Go.Proofs.Ytpnmepobdnclkaa.Calls70
