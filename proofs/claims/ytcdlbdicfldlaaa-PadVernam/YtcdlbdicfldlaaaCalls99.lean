/-
  How often each number stands in a list, as a map; a column of rows.
-/
import Derived.Test.YtcdlbdicfldlaaaCalls98
import Derived.Test.YtcdlbdicfldlaaaNum40
import Derived.Maps.OwnSet
import Derived.Maps.OwnOps
import Derived.Maps.Views
import Derived.Maps.Ext
import Derived.Lib.SlMapEqual
namespace Go.Proofs.Ytcdlbdicfldlaaa.Calls99
set_option linter.unusedVariables false
open Go.ChangeShapes Go.WideShapes Go.ChangeAt Go.RowKit Go.Deep Go.Maps Go.Proofs.Ytcdlbdicfldlaaa.Base Go.Proofs.Ytcdlbdicfldlaaa.Base2 Go.Proofs.Ytcdlbdicfldlaaa.Num16 Go.Proofs.Ytcdlbdicfldlaaa.Num17 Go.Proofs.Ytcdlbdicfldlaaa.Num34 Go.Proofs.Ytcdlbdicfldlaaa.Num40 Go.Proofs.Ytcdlbdicfldlaaa.Base4 Go.Proofs.Ytcdlbdicfldlaaa.Base5 Go.Proofs.Ytcdlbdicfldlaaa.Calls96 Go.Proofs.Ytcdlbdicfldlaaa.Calls97 Go.Proofs.Ytcdlbdicfldlaaa.Calls98

def InjK (f : Nat → Int) (k : Nat) : Prop := ∀ i j, i < k → j < k → f i = f j → i = j

/-- The map has how often each number is among the first k of f. -/
structure CntD (f : Nat → Int) (k : Nat) (D : DataW Value) : Prop where
  atx : ∀ x, D.atKey (.int .i64 x) (.lit (.int .i64 0)) = .lit (.int .i64 (kc f x k : Nat))
  hask : ∀ kl, has D kl = true ↔ ∃ j, j < k ∧ kl = .int .i64 (f j)
  tidy : Tidy D
  le : size D ≤ k
  inj : size D = k ↔ InjK f k

theorem CntD.start (f : Nat → Int) : CntD f 0 (.map []) where
  atx := fun x => rfl
  hask := fun kl => ⟨fun h => (by cases h), fun ⟨j, hj, _⟩ => absurd hj (by omega)⟩
  tidy := tidy_empty
  le := Nat.le_refl _
  inj := ⟨fun _ i j hi => absurd hi (by omega), fun _ => rfl⟩

theorem keylit (x : Int) : WideAt.IsKeyLit (.int .i64 x) := trivial

theorem CntD.next {f : Nat → Int} {k : Nat} {D : DataW Value} (h : CntD f k D) : CntD f (k + 1) (D.put (.int .i64 (f k)) (.lit (.int .i64 ((kc f (f k) k : Nat) + 1)))) := by
  have hm := h.tidy.isMap
  have hnew : Maps.has D (.int .i64 (f k)) = true ↔ ∃ j, j < k ∧ f j = f k := (h.hask _).trans ⟨fun ⟨j, h1, h2⟩ => ⟨j, h1, by simpa using h2.symm⟩, fun ⟨j, h1, h2⟩ => ⟨j, h1, by rw [h2]⟩⟩
  have hsz := size_put h.tidy (k := .int .i64 (f k)) (.lit (.int .i64 ((kc f (f k) k : Nat) + 1)) : DataW Value)
  have hle := h.le
  refine ⟨fun x => ?_, fun kl => ?_, h.tidy.put (keylit _) _, ?_, ?_⟩
  · by_cases e : x = f k
    · subst e
      rw [atKey_put_same hm (keylit _)]
      show _ = DataW.lit (.int .i64 ((kc f (f k) k + (if f k = f k then 1 else 0) : Nat) : Int))
      rw [if_pos rfl, Int.natCast_add]; rfl
    · rw [atKey_put_other (by simp; exact e), h.atx x]
      show _ = DataW.lit (.int .i64 ((kc f x k + (if f k = x then 1 else 0) : Nat) : Int))
      rw [if_neg (fun e2 => e e2.symm), Nat.add_zero]
  · by_cases e : kl = .int .i64 (f k)
    · subst e
      rw [has_put_same hm (keylit _)]
      exact ⟨fun _ => ⟨k, by omega, rfl⟩, fun _ => rfl⟩
    · rw [has_put_other e, h.hask kl]
      constructor
      · rintro ⟨j, h1, h2⟩; exact ⟨j, by omega, h2⟩
      · rintro ⟨j, h1, h2⟩
        refine ⟨j, ?_, h2⟩
        by_cases e2 : j = k
        · subst e2; exact absurd h2 e
        · omega
  · rw [hsz]; split <;> omega
  · rw [hsz]
    by_cases hh : Maps.has D (.int .i64 (f k)) = true
    · rw [if_pos hh]
      obtain ⟨j, h1, h2⟩ := hnew.1 hh
      exact ⟨fun e => by omega, fun hi => by have := hi j k (by omega) (by omega) h2; omega⟩
    · rw [if_neg hh]
      have hno : ∀ j, j < k → f j ≠ f k := fun j h1 h2 => hh (hnew.2 ⟨j, h1, h2⟩)
      constructor
      · intro e i j hi hj hij
        have hI := h.inj.1 (by omega)
        by_cases e1 : i = k
        · by_cases e2 : j = k
          · omega
          · subst e1; exact absurd hij.symm (hno j (by omega))
        · by_cases e2 : j = k
          · subst e2; exact absurd hij (hno i (by omega))
          · exact hI i j (by omega) (by omega) hij
      · intro hi
        have := h.inj.2 (fun i j h1 h2 h3 => hi i j (by omega) (by omega) h3)
        omega

theorem len_le_any {α : Type} : ∀ {l m : List α}, l.Nodup → (∀ x ∈ l, x ∈ m) → l.length ≤ m.length
  | [], _, _, _ => Nat.zero_le _
  | x :: t, m, hn, hs => by
    obtain ⟨hx, hn'⟩ := List.nodup_cons.1 hn
    obtain ⟨a, b, rfl⟩ := List.append_of_mem (hs x (by simp))
    have := len_le_any (l := t) (m := a ++ b) hn' (fun y hy => by
      have h1 := hs y (by simp [hy])
      have h2 : y ≠ x := fun e => hx (e ▸ hy)
      simp only [List.mem_append, List.mem_cons] at h1 ⊢
      rcases h1 with h1 | h1 | h1
      · exact .inl h1
      · exact absurd h1 h2
      · exact .inr h1)
    simp only [List.length_append, List.length_cons] at this ⊢
    omega

/-- Are two elements the same number? -/
def eqI : DataW Value → DataW Value → Bool
  | .lit (.int _ x), .lit (.int _ y) => x == y
  | _, _ => false

theorem neq_int (W : World) (x y : Value) (xd yd : DataW Value) (xp yp : List MemPlace) (hx : plainElem Try.prog 3 x = some (xd, xp)) (hy : plainElem Try.prog 3 y = some (yd, yp)) :
    (binOp .neq 3 x y).run Try.prog W = .ok (.bool (!eqI xd yd)) W ∧ ∀ (a b : Operand), (eqGuard .neq 3 a b x y).run Try.prog W = .ok () W := by
  obtain ⟨a, rfl, h1, _⟩ := plainElem_int_inv Try.underlying3 hx
  obtain ⟨b, rfl, h2, _⟩ := plainElem_int_inv Try.underlying3 hy
  obtain rfl : xd = .lit (.int .i64 a) := by simpa using (congrArg Prod.fst h1)
  obtain rfl : yd = .lit (.int .i64 b) := by simpa using (congrArg Prod.fst h2)
  refine ⟨?_, fun _ _ => by rw [eqGuard_at_int]; rfl⟩
  simp [go_sem, eqI, binOp]
  rfl

structure Ents (f : Nat → Int) (k : Nat) (es : List (Lit × DataW Value)) : Prop where
  of : ∀ p ∈ es, ∃ j, j < k ∧ p.1 = .int .i64 (f j)
  val : ∀ p ∈ es, ∀ x, p.1 = .int .i64 x → p.2 = .lit (.int .i64 (kc f x k : Nat))
  ex : ∀ j, j < k → ∃ p ∈ es, p.1 = .int .i64 (f j)
  nd : (es.map Prod.fst).Nodup

theorem ents_of {f : Nat → Int} {k : Nat} {es : List (Lit × DataW Value)} (h : CntD f k (.map es)) (hr : es.Pairwise (fun p q => p.1.before q.1 = true)) (hk : ∀ p ∈ es, WideAt.IsKeyLit p.1) : Ents f k es := by
  have hap := apart_of_rising hr
  refine ⟨fun p hp => (h.hask _).1 (List.any_eq_true.2 ⟨p, hp, WideAt.sameKey_self (hk p hp)⟩), fun p hp x hx => ?_, fun j hj => ?_, List.pairwise_map.2 (hap.imp fun h => h)⟩
  · have h1 := WideAt.atKey_mem (.lit (.int .i64 0)) (hk p hp) hap (show (p.1, p.2) ∈ es from hp)
    rw [hx, h.atx x] at h1
    exact h1.symm
  · have h1 := (h.hask (.int .i64 (f j))).2 ⟨j, hj, rfl⟩
    obtain ⟨p, hp, hs⟩ := List.any_eq_true.1 h1
    exact ⟨p, hp, WideAt.sameKey_eq hs⟩

theorem equal_iff {f g : Nat → Int} {k : Nat} {D1 D2 : DataW Value} (h1 : CntD f k D1) (h2 : CntD g k D2) (c1 : Canon D1) (c2 : Canon D2) :
    Lib.equalFuncD eqI D1 D2 = true ↔ ∀ x, kc f x k = kc g x k := by
  obtain ⟨es1, rfl, r1, k1⟩ := c1
  obtain ⟨es2, rfl, r2, k2⟩ := c2
  have E1 := ents_of h1 r1 k1
  have E2 := ents_of h2 r2 k2
  unfold Lib.equalFuncD
  rw [Bool.and_eq_true, decide_eq_true_iff, List.all_eq_true]
  show (es1.length = es2.length ∧ ∀ p ∈ es1, Lib.goodD eqI (.map es2) p = true) ↔ _
  have good : ∀ p ∈ es1, Lib.goodD eqI (.map es2) p = true ↔ (∃ j x, j < k ∧ g j = x ∧ p.1 = .int .i64 x ∧ kc f x k = kc g x k) := fun p hp => by
    obtain ⟨i, hi, e⟩ := E1.of p hp
    have hv := E1.val p hp _ e
    unfold Lib.goodD
    rw [Bool.and_eq_true, h2.hask, hv, e]
    constructor
    · rintro ⟨⟨j, h3, h4⟩, h5⟩
      have hh := (h2.hask (.int .i64 (f i))).2 ⟨j, h3, h4⟩
      rw [atKey_indep hh .nil (.lit (.int .i64 0)), h2.atx] at h5
      simp [eqI] at h5
      refine ⟨j, f i, h3, ?_, rfl, by omega⟩
      simpa using h4.symm
    · rintro ⟨j, x, h3, h4, h5, h6⟩
      have e2 : f i = x := by simpa using h5
      rw [e2]
      have hh := (h2.hask (.int .i64 x)).2 ⟨j, h3, by rw [h4]⟩
      refine ⟨⟨j, h3, by rw [h4]⟩, ?_⟩
      rw [atKey_indep hh .nil (.lit (.int .i64 0)), h2.atx, h6]
      simp [eqI]
  constructor
  · rintro ⟨hsz, hall⟩ x
    rcases Classical.em (∃ j, j < k ∧ f j = x) with ⟨i, hi, e⟩ | hno
    · obtain ⟨p, hp, hpe⟩ := E1.ex i hi
      obtain ⟨j, y, h3, h4, h5, h6⟩ := (good p hp).1 (hall p hp)
      have : x = y := by rw [hpe, e] at h5; simpa using h5
      rw [this]; exact h6
    · have z1 : kc f x k = 0 := by
        have : ¬ 1 ≤ kc f x k := fun h => hno (kc_pos.1 h)
        omega
      have z2 : ¬ 1 ≤ kc g x k := fun h => by
        obtain ⟨j, hj, e⟩ := kc_pos.1 h
        obtain ⟨q, hq, hqe⟩ := E2.ex j hj
        rw [e] at hqe
        have := len_le_any (l := (.int .i64 x) :: es1.map Prod.fst) (m := es2.map Prod.fst) (List.nodup_cons.2 ⟨fun hm => by
          obtain ⟨p, hp, e2⟩ := List.mem_map.1 hm
          obtain ⟨i, hi, e3⟩ := E1.of p hp
          rw [e2] at e3
          exact hno ⟨i, hi, by simpa using e3.symm⟩, E1.nd⟩) (fun y hy => by
          rcases List.mem_cons.1 hy with rfl | hy
          · exact List.mem_map.2 ⟨q, hq, hqe⟩
          · obtain ⟨p, hp, rfl⟩ := List.mem_map.1 hy
            obtain ⟨j', x', h3, h4, h5, h6⟩ := (good p hp).1 (hall p hp)
            obtain ⟨q', hq', e'⟩ := E2.ex j' h3
            rw [h4] at e'
            exact List.mem_map.2 ⟨q', hq', by rw [e', h5]⟩)
        simp only [List.length_cons, List.length_map] at this
        omega
      omega
  · intro h
    have hfg : ∀ x, (∃ j, j < k ∧ f j = x) ↔ (∃ j, j < k ∧ g j = x) := fun x => by rw [← kc_pos, ← kc_pos, h x]
    have sub : ∀ y ∈ es1.map Prod.fst, y ∈ es2.map Prod.fst := fun y hy => by
      obtain ⟨p, hp, rfl⟩ := List.mem_map.1 hy
      obtain ⟨i, hi, e⟩ := E1.of p hp
      obtain ⟨j, hj, e2⟩ := (hfg _).1 ⟨i, hi, rfl⟩
      obtain ⟨q, hq, e3⟩ := E2.ex j hj
      exact List.mem_map.2 ⟨q, hq, by rw [e3, e2, e]⟩
    have sub2 : ∀ y ∈ es2.map Prod.fst, y ∈ es1.map Prod.fst := fun y hy => by
      obtain ⟨p, hp, rfl⟩ := List.mem_map.1 hy
      obtain ⟨i, hi, e⟩ := E2.of p hp
      obtain ⟨j, hj, e2⟩ := (hfg _).2 ⟨i, hi, rfl⟩
      obtain ⟨q, hq, e3⟩ := E1.ex j hj
      exact List.mem_map.2 ⟨q, hq, by rw [e3, e2, e]⟩
    have l1 := len_le_any E1.nd sub
    have l2 := len_le_any E2.nd sub2
    simp only [List.length_map] at l1 l2
    refine ⟨by omega, fun p hp => (good p hp).2 ?_⟩
    obtain ⟨i, hi, e⟩ := E1.of p hp
    obtain ⟨j, hj, e2⟩ := (hfg _).1 ⟨i, hi, rfl⟩
    exact ⟨j, f i, hj, e2, e, h _⟩

/-! ### count -/

theorem key_in {x : Int} (h : 0 ≤ x ∧ x < 4096) : keyOf Try.prog 3 (.int .i64 x) = some (.int .i64 x) := keyOf_int_mk Try.underlying3 (by
  have m0 : IntKind.i64.min = -9223372036854775808 := by decide
  have m1 : IntKind.i64.max = 9223372036854775807 := by decide
  simp [Lit.wf]; omega)

theorem wf_in {x : Int} (h : 0 ≤ x ∧ x < 4096) : (Lit.int .i64 x).wf = true := by
  have m0 : IntKind.i64.min = -9223372036854775808 := by decide
  have m1 : IntKind.i64.max = 9223372036854775807 := by decide
  simp [Lit.wf]; omega

/-- A map that the call has made: how often each of the first k of f is there. -/
def MapC (f : Nat → Int) (k b : Nat) (W : World) : Prop := ∃ D n, CntD f k D ∧ W.ownsMap Try.prog 3 (plainElem Try.prog 3) b n D

theorem map_below {W W' : World} {n b m : Nat} {D : DataW Value} (h : W.ownsMap Try.prog 3 (plainElem Try.prog 3) b m D) (hb : Below n W W') (hn : b < n) : W'.ownsMap Try.prog 3 (plainElem Try.prog 3) b m D := by
  obtain ⟨es, clock, h1, h2⟩ := h
  exact ⟨es, clock, (hb.block b hn).trans h1, h2⟩

theorem MapC.below {f : Nat → Int} {k b : Nat} {W W' : World} (h : MapC f k b W) (hb : Below W.heap.size W W') : MapC f k b W' := by
  obtain ⟨D, n, h1, h2⟩ := h
  exact ⟨D, n, h1, map_below h2 hb h2.lt⟩

/-- The call has returned such a map, in new memory. -/
def RetM (f : Nat → Int) (k : Nat) (W : World) (e : Ending) (w' : World) : Prop := ∃ b, e = .returned (.map (some b)) ∧ W.heap.size ≤ b ∧ MapC f k b w'

set_option maxRecDepth 100000 in
theorem count_any (ao : Option Addr) (cap : Nat) (l : List Int) (hl : l.length ≤ 16) (hin : ∀ x ∈ l, 0 ≤ x ∧ x < 4096) (w : World) (hrow : IRow w ao l) :
    Calls Try.prog 23 #[.slice ao l.length cap] w fun e w' => RetM (co l) l.length w e w' ∧ Below w.heap.size w w' := by
  have hmk := run_makeMap (P := Try.prog) 36 w
  obtain ⟨N, hN⟩ : ∃ N, N = l.length := ⟨_, rfl⟩
  have HN : Hid (N = l.length) := hN
  have HI := hid hin
  rw [← hN] at hl ⊢
  clear hN hin
  go_enter Try.func23, Try.ntmps23
  go_wp2
  clear hmk
  have hM0 := hid (World.ownsMap_made (H := Value) w Try.prog 3 (plainElem Try.prog 3))
  have hB0 : Hid (Below w.heap.size w (w.alloc (.map #[] 0))) := (Below.refl _ w).alloc (Nat.le_refl _) _
  have hs0 : w.heap.size < (w.alloc (.map #[] 0)).heap.size := by simp
  obtain ⟨W0, hW0⟩ : ∃ W0, w.alloc (.map #[] 0) = W0 := ⟨_, rfl⟩
  rw [hW0] at hM0 hB0 hs0 ⊢
  clear hW0
  go_loopw [9] (fun i wr => ∃ (k : Nat) (D : DataW Value), i = .int .i64 (k : Int) ∧ k ≤ N ∧ Hid (CntD (co l) k D) ∧ Hid (wr.ownsMap Try.prog 3 (plainElem Try.prog 3) w.heap.size k D) ∧ Hid (Below w.heap.size w wr) ∧ w.heap.size < wr.heap.size) (fun i wr => ((N : Int) - intOf i).toNat)
  case atStart => exact ⟨0, .map [], rfl, by omega, CntD.start _, hM0, hB0, hs0⟩
  case round =>
    obtain ⟨k, D, rfl, hk, hC, hM, hBr, hs⟩ := hrel
    by_cases hgo : k < N
    · have hgo' : (k : Int) < (N : Int) := by omega
      have hkl : Hid (k < l.length) := by have := HN.out; show k < l.length; omega
      rcases ao with _ | ad
      · exact (irow_none hrow hkl.out).elim
      · have c1 := (ib hrow hBr.out).2 ad rfl k hkl.out
        have hxb := HI.out _ (co_mem hkl.out)
        have hat := hid (hC.out.atx (co l k))
        have hC2 := hid hC.out.next
        have hcb := kc_le (co l) (co l k) k
        generalize kc (co l) (co l k) k = cn at *
        generalize co l k = x at *
        go_wp2_with (first
          | (at_lookup; refine wpList_lookup_own_int _ rfl _ _ 36 rfl 3 3 .i64 (int_keyed Try.underlying3) Try.underlying36 Try.underlying3 (Try.zeroValue3 _) w.heap.size k D rfl hM.out _ _ rfl (key_in hxb) ?_; intro c hat2 hwc; have hcc : c = (cn : Int) := (by rw [hat.out] at hat2; simpa using hat2.symm); subst hcc; clear hwc hat2)
          | (at_mapUpdate; refine wpList_mapUpdate_own _ rfl _ _ _ 36 rfl 3 3 (int_keyed Try.underlying3) Try.underlying36 (plainElem Try.prog 3) w.heap.size k D rfl hM.out (by unfold maxLen; omega) _ _ _ rfl rfl (key_in hxb) (.lit (.int .i64 ((cn : Int) + 1))) [] (plainElem_int Try.underlying3 (wf_in (by omega))) ?_; intro w2 hown2 hgrow2; have hs2 := hgrow2.size; have HO2 := hid hown2; have hB2 := hid (hBr.out.grown hgrow2 (by omega) (fun k e => by cases e; exact Nat.le_refl _)); clear hown2 hgrow2))
        go_roundw
        case rel => exact ⟨k + 1, _, by simp, by omega, hC2, HO2, hB2, by omega⟩
        case measure => exact measK hgo
    · have hgo' : ¬ (k : Int) < (N : Int) := by omega
      obtain rfl : k = N := by omega
      go_wp2
      go_ret
      exact ⟨⟨_, rfl, Nat.le_refl _, D, k, hC.out, hM.out⟩, hBr.out⟩

/-! ### column -/

theorem infoN : (Try.prog.info? 3).map (fun i => (i.zero, i.size, i.bytes)) = some (some (.int .i64 0), 1, 8) := by kernel_rfl

theorem infoN_ex : ∃ i, Try.prog.info? 3 = some i ∧ i.zero = some (.int .i64 0) ∧ i.size = 1 ∧ i.bytes = 8 := by
  have h := infoN
  cases e : Try.prog.info? 3 with
  | none => rw [e] at h; simp at h
  | some i => rw [e] at h; simp at h; exact ⟨i, rfl, h.1, h.2.1, h.2.2⟩

theorem below_snoc {W w1 : World} {base : Nat} {e : TypeId} {size : Nat} {v : Value} {k : Nat} {xs : List Value} {tmp : Obj} {w : World} (hB : Below w.heap.size w W) (hb : w.heap.size ≤ base)
    (hown : W.ownsRow base e size v k xs) (hgrow : (W.alloc tmp).grownBy w1 v.ownBlock) : Below w.heap.size w w1 := by
  refine (hB.alloc hB.size tmp).grown hgrow (by have := hB.size; simp; omega) fun j ej => ?_
  exact Nat.le_trans hb (hown.lt j ej).1

theorem ivals_succ (K : Nat) (f : Nat → Int) : ivals (mk (K + 1) f) = ivals (mk K f) ++ [.int .i64 (f K)] := by
  rw [mk_succ, ivals_snoc]

set_option maxRecDepth 100000 in
theorem column_any (ao : Option Addr) (cap : Nat) (L : List (List Int)) (m : Nat) (hl : L.length ≤ 16) (hm : ∀ j, j < L.length → m < (rw' L j).length) (w : World) (hrow : RRow w ao L) :
    Calls Try.prog 24 #[.slice ao L.length cap, .int .i64 (m : Int)] w fun e w' => RetL (mk L.length (fun k => co (rw' L k) m)) e w' ∧ Below w.heap.size w w' := by
  obtain ⟨i0, hi, hz0, hz1, hz2⟩ := infoN_ex
  obtain ⟨N, hN⟩ : ∃ N, N = L.length := ⟨_, rfl⟩
  have HN : Hid (N = L.length) := hN
  have HM := hid hm
  have HR := hid hrow
  rw [← hN] at hl ⊢
  clear hN hm hrow
  go_enter Try.func24, Try.ntmps24
  go_wp2
  go_loopw [5, 10] (fun v i wr => ∃ k : Nat, i = .int .i64 (k : Int) ∧ k ≤ N ∧ Hid (wr.ownsRow w.heap.size 3 1 v k (ivals (mk k (fun k => co (rw' L k) m)))) ∧ Hid (Below w.heap.size w wr)) (fun v i wr => ((N : Int) - intOf i).toNat)
  case atStart => exact ⟨0, rfl, by omega, World.ownsRow_nil _ _ _ _, Below.refl _ _⟩
  case round =>
    obtain ⟨k, rfl, hk, HO, HB⟩ := hrel
    by_cases hgo : k < N
    · have hgo' : (k : Int) < (N : Int) := by omega
      have hkl : Hid (k < L.length) := by have := HN.out; show k < L.length; omega
      rcases ao with _ | ad
      · exact (rrow_none HR.out hkl.out).elim
      · obtain ⟨bo, cc, c1, hr, hlc, hlm⟩ := (rb HR.out HB.out).2 ad rfl k hkl.out
        have hml := HM.out k hkl.out
        rcases bo with _ | bd
        · exact (irow_none hr hml).elim
        · have c2 := hr.2 bd rfl m hml
          have hsn : Hid (ivals (mk (k + 1) (fun k => co (rw' L k) m)) = ivals (mk k (fun k => co (rw' L k) m)) ++ [.int .i64 (co (rw' L k) m)]) := ivals_succ k _
          generalize co (rw' L k) m = x at *
          generalize (rw' L k).length = n at *
          have hml' : (m : Int) < (n : Int) := by omega
          have hBs := HB.out.size
          clear hr hlc
          go_wp2_with (at_builtin; refine wpList_append_own _ rfl _ _ 30 rfl w.heap.size 3 i0 (.int .i64 0) 1 8 Try.underlying30 hi hz0 hz1 hz2 rfl (by decide) _ _ _ rfl (HO.out.alloc _) ⟨wr.heap.size, 0, none⟩ 1 1 [.int .i64 x] rfl rfl one_cell (by simp [Value.oneCell']) (by unfold maxLen; omega) (by omega) (by simp; omega) ?_; intro v' w3 hown' hgrow _; have HO3 := hid hown'; have HB3 := hid (below_snoc HB.out (Nat.le_refl _) HO.out hgrow); clear hown' hgrow)
          go_roundw
          case rel => exact ⟨k + 1, by simp, by omega, by show World.ownsRow _ _ _ _ _ _ _; rw [hsn.out]; exact HO3.out, HB3⟩
          case measure => exact measK hgo
    · have hgo' : ¬ (k : Int) < (N : Int) := by omega
      obtain rfl : k = N := by omega
      obtain ⟨bo, cb, hv, hlb, hr⟩ := irow_owns HO.out
      have hR := hid hr
      have hC := hid hlb
      subst hv
      clear hr hlb
      rw [mk_length]
      go_wp2
      go_ret
      exact ⟨⟨bo, cb, by rw [mk_length]; rfl, hC.out, hR.out⟩, HB.out⟩

end Go.Proofs.Ytcdlbdicfldlaaa.Calls99
