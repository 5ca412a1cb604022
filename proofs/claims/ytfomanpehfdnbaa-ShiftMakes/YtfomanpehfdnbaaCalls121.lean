/-
  What a rule makes: package shift's Run, the document's; two lists of bools held against each other; whether a rule makes a list.
-/
import Derived.Test.YtfomanpehfdnbaaBase7
import Derived.Test.YtfomanpehfdnbaaNum54
import Derived.Laws.CopyOwn
namespace Go.Proofs.Ytfomanpehfdnbaa.Calls121
set_option linter.unusedVariables false
open Go.ChangeShapes Go.WideShapes Go.ChangeAt Go.RowKit Go.Deep Go.Proofs.Ytfomanpehfdnbaa.Base Go.Proofs.Ytfomanpehfdnbaa.Base2 Go.Proofs.Ytfomanpehfdnbaa.Base7 Go.Proofs.Ytfomanpehfdnbaa.Num44 Go.Proofs.Ytfomanpehfdnbaa.Num54

/-! ### plain -/

def rbit (T F r : List Bool) (i : Nat) : Bool := if i < F.length then gb F i else xs T.length (fun k => gb T k && gb r (i - k - 1))

/-- The first n bits that the rule makes. -/
def rn (T F : List Bool) : Nat → List Bool
  | 0 => []
  | n + 1 => rn T F n ++ [rbit T F (rn T F n) n]

theorem rn_length (T F : List Bool) : ∀ n, (rn T F n).length = n
  | 0 => rfl
  | n + 1 => by show (rn T F n ++ [_]).length = n + 1; rw [List.length_append, rn_length T F n]; rfl

theorem gb_snoc_lt {l : List Bool} {x : Bool} {j : Nat} (h : j < l.length) : gb (l ++ [x]) j = gb l j := by
  simp [gb, List.getD, List.getElem?_append_left h]

theorem gb_snoc_at (l : List Bool) (x : Bool) : gb (l ++ [x]) l.length = x := by simp [gb, List.getD]

/-- The bit i that it makes. -/
def rb (T F : List Bool) (i : Nat) : Bool := gb (rn T F (i + 1)) i

theorem rn_get (T F : List Bool) : ∀ (n i : Nat), i < n → gb (rn T F n) i = rb T F i
  | n + 1, i, h => by
    by_cases e : i = n
    · subst e; rfl
    · show gb (rn T F n ++ [_]) i = _
      rw [gb_snoc_lt (by rw [rn_length]; omega), rn_get T F n i (by omega)]

theorem rn_mb (T F : List Bool) (n : Nat) : rn T F n = mb n (rb T F) :=
  gb_ext (by rw [rn_length, mb_length]) (fun i hi => by rw [rn_length] at hi; rw [rn_get T F n i hi, gb_mb hi])

theorem rb_eq (T F : List Bool) (i : Nat) : rb T F i = rbit T F (rn T F i) i := by
  show gb (rn T F i ++ [rbit T F (rn T F i) i]) i = _
  have := gb_snoc_at (rn T F i) (rbit T F (rn T F i) i)
  rw [rn_length] at this
  exact this

theorem rb_first {T F : List Bool} {i : Nat} (h : i < F.length) : rb T F i = gb F i := by
  rw [rb_eq]; unfold rbit; rw [if_pos h]

theorem rb_rule {T F : List Bool} {i : Nat} (h : F.length ≤ i) (h2 : T.length ≤ i) : rb T F i = xs T.length (fun k => gb T k && rb T F (i - k - 1)) := by
  rw [rb_eq]; unfold rbit; rw [if_neg (by omega)]
  exact xs_congr (fun k hk => by rw [rn_get T F i _ (by omega)])

/-- A rule makes a list just if the list is what it makes of its own first bits. -/
theorem run_iff {T l : List Bool} (h : T.length ≤ l.length) : rn T (l.take T.length) l.length = l ↔ Makes (gb l) T.length l.length (gb T) := by
  have hF : (l.take T.length).length = T.length := by rw [List.length_take]; omega
  constructor
  · intro e i h1 h2
    have hg : ∀ j, j < l.length → rb T (l.take T.length) j = gb l j := fun j hj => by
      rw [← rn_get T (l.take T.length) l.length j hj, e]
    rw [← hg i h2, rb_rule (by rw [hF]; exact h1) h1]
    exact xs_congr (fun k hk => by rw [hg _ (by omega)])
  · intro hm
    have hg : ∀ n j, j < n → j < l.length → rb T (l.take T.length) j = gb l j := by
      intro n
      induction n with
      | zero => intro j hj; omega
      | succ n ih =>
        intro j hj hjl
        by_cases e : j < T.length
        · rw [rb_first (by rw [hF]; exact e), gb_take e]
        · rw [rb_rule (by rw [hF]; omega) (by omega), hm j (by omega) hjl]
          exact xs_congr (fun k hk => by rw [ih _ (by omega) (by omega)])
    refine gb_ext (rn_length _ _ _) (fun i hi => ?_)
    rw [rn_length] at hi
    rw [rn_get _ _ _ _ hi, hg (i + 1) i (by omega) hi]

/-! ### copy -/

theorem splice_b {n k : Nat} (h : k ≤ n) (f : Nat → Bool) : splice (bv (mb n (fun _ => false))) 0 (bv (mb k f)) = bv (mb n (fun j => if j < k then f j else false)) := by
  unfold splice
  apply List.ext_getElem?
  intro j
  rw [List.take_zero, List.nil_append, Nat.zero_add, bv_length, mb_length]
  by_cases hj : j < k
  · rw [List.getElem?_append_left (by rw [bv_length, mb_length]; exact hj), bv_get (by rw [mb_length]; exact hj), bv_get (by rw [mb_length]; omega), gb_mb hj, gb_mb (by omega), if_pos hj]
  · rw [List.getElem?_append_right (by rw [bv_length, mb_length]; omega), bv_length, mb_length, List.getElem?_drop, show k + (j - k) = j by omega]
    by_cases hn : j < n
    · rw [bv_get (by rw [mb_length]; exact hn), bv_get (by rw [mb_length]; exact hn), gb_mb hn, gb_mb hn, if_neg hj]
    · rw [List.getElem?_eq_none (by rw [bv_length, mb_length]; omega), List.getElem?_eq_none (by rw [bv_length, mb_length]; omega)]

theorem infoBs : (Try.prog.info? 4).map (·.size) = some 1 := by kernel_rfl

/-- 'copy(list, first)' into a row that was made. -/
theorem wpList_copyB {w : World} {ops : Array Oper} {rest : List Oper} {o : Oper} {a : Act} {Q : Exit → Act → World → Prop} (hgd : o.guard = none) (d s : Operand)
    (ho : o.op = .call { callee := .builtin .copy, args := #[d, s], argTypes := #[22, 22] })
    (base g n : Nat) (sp : Option Addr) (sCap : Nat) (F : List Bool) (L : Nat) (hL : L = F.length) (hd : a.eval d = .slice (some ⟨g, 0, none⟩) n n) (hs : a.eval s = .slice sp L sCap)
    (hO : OwnB w base g n n (fun _ => false)) (hF : BRow w sp F) (hbase : base ≤ g)
    (h : ∀ w', OwnB w' base g n n (fun j => if j < min L n then gb F j else false) → Below base w w' → wpList Try.prog ops Q rest (a.put o.dst (goInt ((min L n : Nat) : Int))) w') : wpList Try.prog ops Q (o :: rest) a w := by
  subst hL
  rcases hO.2 with ⟨e, _⟩ | ⟨g', cap', cur, e, hb, hg, hnc, hcm, hcs, htake⟩
  · cases e
  · obtain ⟨rfl, rfl⟩ : g = g' ∧ n = cap' := by
      have e1 := Value.slice.inj e
      have e2 := Addr.mk.inj (Option.some.inj e1.1)
      exact ⟨e2.1, e1.2.2⟩
    have hcur : cur.toList = bv (mb n (fun _ => false)) := by
      rw [← htake, List.take_of_length_le (by rw [Array.length_toList, hcs]; omega)]
    have hlen : (bv (mb (min F.length n) (gb F))).length = min F.length n := by rw [bv_length, mb_length]
    refine wpList_copy_splice hgd d s 22 22 ho 4 Try.underlying22 infoBs (some ⟨g, 0, none⟩) sp n n F.length sCap hd hs g 0 (bv (mb n (fun _ => false))) 4 (by rw [← hcur]; exact hg) (bv (mb (min F.length n) (gb F))) (by rw [hlen]) (fun hp => ⟨rfl, ?_⟩) (by rw [hlen, bv_length, mb_length]; omega) (bv_one _) base w (Below.refl _ _) hbase ?_
    · rw [hlen] at hp
      rcases sp with _ | ad
      · exact (brow_none hF (j := 0) (by omega)).elim
      · refine ⟨ad, rfl, fun j v hv => ?_⟩
        have hj : j < min F.length n := by have := (List.getElem?_eq_some_iff.1 hv).1; rw [hlen] at this; exact this
        rw [bv_get (by rw [mb_length]; exact hj), gb_mb hj] at hv
        rw [← hv]
        exact brow_cell hF (by omega)
    · intro w' hw hB
      rw [hlen]
      refine h w' ?_ hB
      have hw' := hw.out
      rw [splice_b (by omega)] at hw'
      refine ⟨by rw [bv_length, mb_length]; omega, .inr ⟨g, n, _, rfl, hb, hw', hnc, hcm, ?_, ?_⟩⟩
      · rw [List.size_toArray, bv_length, mb_length]; omega
      · rw [List.take_of_length_le (by rw [bv_length, mb_length]; omega)]

/-! ### package shift's -/

theorem Run_large (to fo : Option Addr) (L F ct cf : Nat) (n : Int) (h : 64 < L ∨ n < 0 ∨ 64 < n) (w : World) :
    Calls Try.prog 8 #[.slice to L ct, .slice fo F cf, .int .i64 n] w fun e w' => e = .returned (.tuple #[.slice none 0 0, .int .i64 1]) ∧ Below w.heap.size w w' := by
  by_cases h1 : 64 < L
  · have h1' : (64 : Int) < (L : Int) := by omega
    go_enter Try.func8, Try.ntmps8
    go_wp2
    go_ret2
    exact ⟨rfl, Below.refl _ _⟩
  · have h1' : decide ((64 : Int) < (L : Int)) = false := by simp; omega
    by_cases h2 : n < 0
    · go_enter Try.func8, Try.ntmps8
      go_wp2
      go_ret2
      exact ⟨rfl, Below.refl _ _⟩
    · have h2' : decide (n < 0) = false := by simpa using h2
      have h3 : 64 < n := by omega
      go_enter Try.func8, Try.ntmps8
      go_wp2
      go_ret2
      exact ⟨rfl, Below.refl _ _⟩

theorem Run_form (to fo : Option Addr) (L F ct cf : Nat) (n : Int) (h1 : L ≤ 64) (h2 : 0 ≤ n) (h3 : n ≤ 64) (h4 : F ≠ L) (w : World) :
    Calls Try.prog 8 #[.slice to L ct, .slice fo F cf, .int .i64 n] w fun e w' => e = .returned (.tuple #[.slice none 0 0, .int .i64 4]) ∧ Below w.heap.size w w' := by
  have h1' : decide ((64 : Int) < (L : Int)) = false := by simp; omega
  have h2' : decide (n < 0) = false := by simp; omega
  have h3' : decide (64 < n) = false := by simp; omega
  have h4' : ¬ (F : Int) = (L : Int) := by omega
  go_enter Try.func8, Try.ntmps8
  go_wp2
  go_ret2
  exact ⟨rfl, Below.refl _ _⟩

set_option maxRecDepth 100000 in
set_option maxHeartbeats 1000000 in
theorem Run_yes (to fo : Option Addr) (ct cf : Nat) (T F : List Bool) (n : Nat) (hT : T.length ≤ 64) (hF : F.length = T.length) (hn : n ≤ 64) (w : World) (rT : BRow w to T) (rF : BRow w fo F) :
    Calls Try.prog 8 #[.slice to T.length ct, .slice fo F.length cf, .int .i64 (n : Int)] w fun e w' => RetBE (rn T F n) e w' ∧ Below w.heap.size w w' := by
  obtain ⟨i0, hi, hz0, hz1, hz2⟩ := infoBo_ex
  have HT := hid (fun (w' : World) (h : Below w.heap.size w w') => brow_below rT h)
  have HF := hid (fun (w' : World) (h : Below w.heap.size w w') => brow_below rF h)
  have hfirst := hid (fun i (hi : i < T.length) => rb_first (T := T) (F := F) (i := i) (by omega))
  have hrule := hid (fun i (hi : T.length ≤ i) => rb_rule (T := T) (F := F) (i := i) (by omega) hi)
  have hres := hid (rn_mb T F n)
  obtain ⟨L, hL⟩ : ∃ L, L = T.length := ⟨_, rfl⟩
  have HL := hid hL
  have HLF := hid hF
  rw [hF, ← hL]
  rw [← hL] at hT hfirst hrule HLF
  obtain ⟨R, hR⟩ : ∃ R, R = rb T F := ⟨_, rfl⟩
  rw [← hR] at hres hfirst hrule
  clear hR hL hF rT rF
  have h1' : decide ((64 : Int) < (L : Int)) = false := by simp; omega
  have h2' : decide ((n : Int) < 0) = false := by simp
  have h3' : decide ((64 : Int) < (n : Int)) = false := by simp; omega
  go_enter Try.func8, Try.ntmps8
  go_wp2_with (first
    | (at_make; refine wpList_make_full _ rfl _ _ 22 rfl w.heap.size 4 i0 (.bool false) 1 Try.underlying22 hi hz0 hz1 .i64 .i64 (n : Int) (n : Int) n rfl rfl rfl rfl (by rw [hz2]; omega) (by unfold maxLen; omega) (Nat.le_refl _) ?_; intro w1 hown1 hgrow1
       have hO1 := ownB_made hown1
       have hB1 : Below w.heap.size w w1 := (Below.refl _ w).grown hgrow1 (Nat.le_refl _) (fun j e => by cases e)
       have HO1 := hid hO1
       have HB1 := hid hB1
       clear hown1 hgrow1 hO1 hB1)
    | (refine wpList_copyB rfl _ _ rfl w.heap.size w.heap.size n fo cf F L HLF.out.symm rfl rfl HO1.out (HF.out w1 HB1.out) (Nat.le_refl _) ?_; intro w2 hO2 hB2
       have HO2 := hid hO2
       have HB2 := hid (HB1.out.trans hB2)
       clear hO2 hB2))
  have HO := hid (HO2.out.congr (f' := fun j => if j < L then R j else false) (fun j hj => by
    by_cases e : j < L
    · rw [if_pos (by omega), if_pos e]; exact (hfirst.out j e).symm
    · rw [if_neg (by omega), if_neg e]))
  clear HO1 HB1 HO2
  go_loopw [9] (fun i wr => ∃ p : Nat, i = .int .i64 (p : Int) ∧ L ≤ p ∧ Hid (OwnB wr w.heap.size w.heap.size n n (fun j => if j < p then R j else false)) ∧ Hid (Below w.heap.size w wr)) (fun i wr => ((n : Int) - intOf i).toNat)
  case atStart => exact ⟨L, rfl, by omega, HO, HB2⟩
  case round =>
    clear HO HB2
    obtain ⟨p, rfl, hp, HO, HB⟩ := hrel
    by_cases hgo : p < n
    · have hgo' : (p : Int) < (n : Int) := by omega
      obtain ⟨W1, hW1⟩ : ∃ W1, W1 = wr := ⟨_, rfl⟩
      rw [← hW1] at HO HB ⊢
      clear hW1
      have HO0 := hid (HO.out.congr (f' := fun j => if j < p then R j else if j = p then xs 0 (fun k => gb T k && R (p - k - 1)) else false) (fun j hj => by
        by_cases e : j < p
        · rw [if_pos e, if_pos e]
        · rw [if_neg e, if_neg e]
          by_cases e2 : j = p
          · rw [if_pos e2]; rfl
          · rw [if_neg e2]))
      clear HO
      go_wp2
      go_loopw [42] (fun i wr => ∃ k : Nat, i = .int .i64 (k : Int) ∧ k ≤ L ∧ Hid (OwnB wr w.heap.size w.heap.size n n (fun j => if j < p then R j else if j = p then xs k (fun k => gb T k && R (p - k - 1)) else false)) ∧ Hid (Below w.heap.size w wr)) (fun i wr => ((L : Int) - intOf i).toNat)
      case atStart => exact ⟨0, rfl, by omega, HO0, HB⟩
      case round =>
        clear HO0 HB
        obtain ⟨k, rfl, hk, HO, HB⟩ := hrel
        by_cases hgk : k < L
        · have hgk' : (k : Int) < (L : Int) := by omega
          rcases to with _ | ad
          · exact (brow_none (HT.out _ HB.out) (j := k) (by rw [← HL.out]; exact hgk)).elim
          · have c1 := brow_cell (HT.out _ HB.out) (j := k) (by rw [← HL.out]; exact hgk)
            obtain ⟨q, hq⟩ : ∃ q, q = p - k - 1 := ⟨_, rfl⟩
            have hqi : (p : Int) - 1 - (k : Int) = (q : Int) := by omega
            have hqn : (q : Int) < (n : Int) := by omega
            have c2 := HO.out.cell (i := q) (by omega)
            have c3 := HO.out.cell hgo
            have f3 := HO.out.frozen p
            rw [if_pos (by omega)] at c2
            rw [if_neg (by omega), if_pos rfl] at c3
            have hst : Hid (xs (k + 1) (fun k => gb T k && R (p - k - 1)) = xor (xs k (fun k => gb T k && R (p - k - 1))) (gb T k && R (p - k - 1))) := rfl
            rw [← hq] at hst
            obtain ⟨X1, hX1⟩ : ∃ X1, X1 = xs (k + 1) (fun k => gb T k && R (p - k - 1)) := ⟨_, rfl⟩
            have HX1 := hid hX1
            rw [← hX1] at hst
            clear hX1 hq
            obtain ⟨X0, hX0⟩ : ∃ X0, X0 = xs k (fun k => gb T k && R (p - k - 1)) := ⟨_, rfl⟩
            have HX0 := hid hX0
            rw [← hX0] at hst c3
            clear hX0
            generalize gb T k = x at *
            generalize R q = y at *
            have keep : x = false ∨ y = false → Hid (X0 = X1) := fun h => by
              show _ = _
              rw [hst.out]
              rcases h with rfl | rfl
              · cases X0 <;> rfl
              · cases X0 <;> cases x <;> rfl
            cases x with
            | false =>
              have he := keep (.inl rfl)
              clear keep hst c2
              go_wp2
              go_roundw
              case rel => exact ⟨k + 1, by simp, by omega, HO.out.congr (fun j hj => by rw [← HX1.out, ← he.out, HX0.out]), HB⟩
              case measure => exact measK hgk
            | true =>
              cases y with
              | false =>
                have he := keep (.inr rfl)
                clear keep hst
                go_wp2
                go_roundw
                case rel => exact ⟨k + 1, by simp, by omega, HO.out.congr (fun j hj => by rw [← HX1.out, ← he.out, HX0.out]), HB⟩
                case measure => exact measK hgk
              | true =>
                have he : Hid (X1 = !X0) := by show _ = _; rw [hst.out]; cases X0 <;> rfl
                clear keep hst
                go_wp2
                go_roundw
                case rel => exact ⟨k + 1, by simp, by omega, (HO.out.set p (!X0)).congr (fun j hj => by
                  unfold upb
                  by_cases e : j = p
                  · rw [if_pos e, if_neg (by omega), if_pos e, ← HX1.out, he.out]
                  · rw [if_neg e]
                    show (if j < p then R j else if j = p then _ else false) = _
                    rw [if_neg e, if_neg e]), v_set HB.out (Nat.le_refl _) p _⟩
                case measure => exact measK hgk
        · have hgk' : ¬ (k : Int) < (L : Int) := by omega
          obtain rfl : k = L := by omega
          have hr := hrule.out p hp
          go_wp2
          go_roundw
          case rel => exact ⟨p + 1, by simp, by omega, HO.out.congr (fun j hj => by
            by_cases e : j < p
            · rw [if_pos e, if_pos (by omega)]
            · rw [if_neg e]
              by_cases e2 : j = p
              · rw [if_pos e2, if_pos (by omega), e2, hr]
              · rw [if_neg e2, if_neg (by omega)]), HB⟩
          case measure => exact measK hgo
    · have hgo' : ¬ (p : Int) < (n : Int) := by omega
      have hO := hid (OwnB.row (HO.out.congr (f' := R) (fun j hj => if_pos (by omega))))
      go_wp2
      go_ret2
      refine ⟨⟨some ⟨w.heap.size, 0, none⟩, n, by rw [rn_length]; rfl, by rw [rn_length]; exact Nat.le_refl _, ?_⟩, HB.out⟩
      rw [hres.out]
      exact hO

/-! ### the document's -/

set_option maxRecDepth 100000 in
theorem refBools_any (ao bo : Option Addr) (ca cb : Nat) (a b : List Bool) (r : Bool) (hr : r = true ↔ a = b) (hl : a.length ≤ 9223372036854775807) (w : World) (ra : BRow w ao a) (rb : BRow w bo b) :
    Calls Try.prog 9 #[.slice ao a.length ca, .slice bo b.length cb] w fun e w' => e = .returned (.bool r) ∧ Below w.heap.size w w' := by
  by_cases hlen : a.length = b.length
  · have HA := hid (fun (w' : World) (h : Below w.heap.size w w') => brow_below ra h)
    have HB := hid (fun (w' : World) (h : Below w.heap.size w w') => brow_below rb h)
    have HR := hid hr
    rw [← hlen]
    obtain ⟨N, hN⟩ : ∃ N, N = a.length := ⟨_, rfl⟩
    have HNA := hid hN
    have HNB : Hid (N = b.length) := by show _ = _; omega
    rw [← hN] at hl ⊢
    clear hN hlen ra rb hr
    go_enter Try.func9, Try.ntmps9
    go_wp2
    go_loopw [5] (fun i wr => ∃ k : Nat, i = .int .i64 (k : Int) ∧ k ≤ N ∧ Hid (∀ j, j < k → gb a j = gb b j) ∧ Hid (Below w.heap.size w wr)) (fun i wr => ((N : Int) - intOf i).toNat)
    case atStart => exact ⟨0, rfl, by omega, fun j hj => by omega, Below.refl _ _⟩
    case round =>
      obtain ⟨k, rfl, hk, hA, hW⟩ := hrel
      by_cases hgo : k < N
      · have hgo' : (k : Int) < (N : Int) := by omega
        rcases ao with _ | ad
        · exact (brow_none (HA.out _ hW.out) (j := k) (by rw [← HNA.out]; exact hgo)).elim
        rcases bo with _ | bd
        · exact (brow_none (HB.out _ hW.out) (j := k) (by rw [← HNB.out]; exact hgo)).elim
        have c1 := brow_cell (HA.out _ hW.out) (j := k) (by rw [← HNA.out]; exact hgo)
        have c2 := brow_cell (HB.out _ hW.out) (j := k) (by rw [← HNB.out]; exact hgo)
        by_cases hx : gb a k = gb b k
        · have hA2 : Hid (∀ j, j < k + 1 → gb a j = gb b j) := fun j hj => by
            by_cases e : j = k
            · subst e; exact hx
            · exact hA.out j (by omega)
          rw [← hx] at c2
          generalize gb a k = x at *
          have hx1 : (x != x) = false := by cases x <;> rfl
          clear hx hA
          go_wp2_with go_region
          go_roundw
          case rel => exact ⟨k + 1, by simp, by omega, hA2, hW.out.drew⟩
          case measure => exact measK hgo
        · have e : Hid (false = r) := by
            show false = r
            cases r with
            | false => rfl
            | true => exact absurd (by rw [HR.out.1 rfl]) hx
          have hx1 : (gb a k != gb b k) = true := by simpa using hx
          have hx2 : (gb a k == gb b k) = false := by simpa using hx
          generalize gb a k = x at *
          generalize gb b k = y at *
          clear hA
          go_wp2_with go_region
          go_ret
          exact ⟨ret_bool e.out, hW.out.drew⟩
      · have hgo' : ¬ (k : Int) < (N : Int) := by omega
        obtain rfl : k = N := by omega
        have e : Hid (true = r) := (HR.out.2 (gb_ext (by rw [← HNA.out, ← HNB.out]) (fun i hi => hA.out i (by rw [HNA.out]; exact hi)))).symm
        clear hA
        go_wp2
        go_ret
        exact ⟨ret_bool e.out, hW.out⟩
  · have e : Hid (false = r) := by
      show false = r
      cases r with
      | false => rfl
      | true => exact absurd (by rw [hr.1 rfl]) hlen
    have h1 : ¬ (a.length : Int) = (b.length : Int) := by omega
    generalize a.length = n at *
    generalize b.length = m at *
    clear ra rb hr
    go_enter Try.func9, Try.ntmps9
    go_wp2
    go_ret
    exact ⟨ret_bool e.out, Below.refl _ _⟩

set_option maxRecDepth 100000 in
set_option maxHeartbeats 1000000 in
theorem refRun_any (to fo : Option Addr) (ct cf : Nat) (T F : List Bool) (n : Nat) (hT : T.length ≤ 4096) (hF : T.length ≤ F.length) (hF2 : F.length ≤ 9223372036854775807) (hn : n ≤ 4096) (w : World) (rT : BRow w to T) (rF : BRow w fo F) :
    Calls Try.prog 10 #[.slice to T.length ct, .slice fo F.length cf, .int .i64 (n : Int)] w fun e w' => RetB (rn T F n) e w' ∧ Below w.heap.size w w' := by
  obtain ⟨i0, hi, hz0, hz1, hz2⟩ := infoBo_ex
  have HT := hid (fun (w' : World) (h : Below w.heap.size w w') => brow_below rT h)
  have HF := hid (fun (w' : World) (h : Below w.heap.size w w') => brow_below rF h)
  obtain ⟨L, hL⟩ : ∃ L, L = T.length := ⟨_, rfl⟩
  have HL := hid hL
  obtain ⟨K, hK⟩ : ∃ K, K = F.length := ⟨_, rfl⟩
  have HK := hid hK
  rw [← hL] at hT hF ⊢
  rw [← hK] at hF hF2 ⊢
  clear hL hK rT rF
  go_enter Try.func10, Try.ntmps10
  go_wp2
  go_loopw [7, 8] (fun v i wr => ∃ k : Nat, i = .int .i64 (k : Int) ∧ k ≤ n ∧ Hid (wr.ownsRow w.heap.size 4 1 v k (bv (rn T F k))) ∧ Hid (Below w.heap.size w wr)) (fun v i wr => ((n : Int) - intOf i).toNat)
  case atStart => exact ⟨0, rfl, by omega, World.ownsRow_nil _ _ _ _, Below.refl _ _⟩
  case round =>
    obtain ⟨k, rfl, hk, HO, HB⟩ := hrel
    by_cases hgo : k < n
    · have hgo' : (k : Int) < (n : Int) := by omega
      have hbs := HB.out.size
      have hsn : Hid (bv (rn T F (k + 1)) = bv (rn T F k) ++ [.bool (rbit T F (rn T F k) k)]) := bv_snoc _ _
      by_cases hkF : k < K
      · have hkF' : (k : Int) < (K : Int) := by omega
        rcases fo with _ | ad
        · exact (brow_none (HF.out _ HB.out) (j := k) (by rw [← HK.out]; exact hkF)).elim
        have c1 := brow_cell (HF.out _ HB.out) (j := k) (by rw [← HK.out]; exact hkF)
        have hbit : Hid (rbit T F (rn T F k) k = gb F k) := if_pos (by rw [← HK.out]; exact hkF)
        rw [hbit.out] at hsn
        generalize gb F k = x at *
        go_wp2_with (at_builtin; refine wpList_append_own _ rfl _ _ 22 rfl w.heap.size 4 i0 (.bool false) 1 1 Try.underlying22 hi hz0 hz1 hz2 rfl (by decide) _ _ _ rfl (HO.out.alloc _) ⟨wr.heap.size, 0, none⟩ 1 1 [.bool x] rfl rfl v_one (by simp [Value.oneCell']) (by unfold maxLen; omega) (by omega) (by simp; omega) ?_; intro v' w3 hown' hgrow _; have HO3 := hid hown'; have HB3 := hid (v_snoc HB.out (Nat.le_refl _) HO.out hgrow); clear hown' hgrow)
        go_roundw
        case rel => exact ⟨k + 1, by simp, by omega, by show World.ownsRow _ _ _ _ _ _ _; rw [hsn.out]; exact HO3.out, HB3⟩
        case measure => exact measK hgo
      · have hkF' : ¬ (k : Int) < (K : Int) := by omega
        have hbit : Hid (rbit T F (rn T F k) k = xs L (fun j => gb T j && gb (rn T F k) (k - j - 1))) := by
          show rbit T F (rn T F k) k = _
          unfold rbit
          rw [if_neg (by rw [← HK.out]; exact hkF), ← HL.out]
        rw [hbit.out] at hsn
        obtain ⟨bo, cb, hv, hcb, hr⟩ := b_owns HO.out
        rw [rn_length] at hv hcb
        have HRw := hid hr
        have HLn := hid (rn_length T F k)
        obtain ⟨r, hrr⟩ : ∃ r, r = rn T F k := ⟨_, rfl⟩
        rw [← hrr] at HRw HLn HO hsn
        subst hv
        clear hrr hr hbit
        go_wp2
        go_loop [9, 10] (fun b j => ∃ m : Nat, b = .bool (xs m (fun j => gb T j && gb r (k - j - 1))) ∧ j = .int .i64 (m : Int) ∧ m ≤ L) (fun b j => ((L : Int) - intOf j).toNat)
        case atStart => exact ⟨0, rfl, rfl, by omega⟩
        case round =>
          obtain ⟨m, rfl, rfl, hm⟩ := hrel
          by_cases hgm : m < L
          · have hgm' : (m : Int) < (L : Int) := by omega
            rcases to with _ | ad
            · exact (brow_none (HT.out _ HB.out) (j := m) (by rw [← HL.out]; exact hgm)).elim
            have c1 := brow_cell (HT.out _ HB.out) (j := m) (by rw [← HL.out]; exact hgm)
            obtain ⟨q, hq⟩ : ∃ q, q = k - m - 1 := ⟨_, rfl⟩
            have hqi : (k : Int) - (m : Int) - 1 = (q : Int) := by omega
            have hqk : (q : Int) < (k : Int) := by omega
            rcases bo with _ | bd
            · exact (brow_none HRw.out (j := q) (by rw [HLn.out]; omega)).elim
            have c2 := brow_cell HRw.out (j := q) (by rw [HLn.out]; omega)
            have hst : Hid (xs (m + 1) (fun j => gb T j && gb r (k - j - 1)) = xor (xs m (fun j => gb T j && gb r (k - j - 1))) (gb T m && gb r (k - m - 1))) := rfl
            rw [← hq] at hst
            obtain ⟨X1, hX1⟩ : ∃ X1, X1 = xs (m + 1) (fun j => gb T j && gb r (k - j - 1)) := ⟨_, rfl⟩
            have HX1 := hid hX1
            rw [← hX1] at hst
            clear hX1 hq
            generalize xs m (fun j => gb T j && gb r (k - j - 1)) = X0 at *
            generalize gb T m = x at *
            generalize gb r q = y at *
            have keep : x = false ∨ y = false → Hid (X0 = X1) := fun h => by
              show _ = _
              rw [hst.out]
              rcases h with rfl | rfl
              · cases X0 <;> rfl
              · cases X0 <;> cases x <;> rfl
            cases x with
            | false =>
              have he := keep (.inl rfl)
              clear keep hst c2
              go_wp2
              go_round
              case rel => exact ⟨m + 1, by rw [← HX1.out, he.out], by simp, by omega⟩
              case measure => exact measK hgm
            | true =>
              cases y with
              | false =>
                have he := keep (.inr rfl)
                clear keep hst
                go_wp2
                go_round
                case rel => exact ⟨m + 1, by rw [← HX1.out, he.out], by simp, by omega⟩
                case measure => exact measK hgm
              | true =>
                have he : Hid (X1 = !X0) := by show _ = _; rw [hst.out]; cases X0 <;> rfl
                clear keep hst
                go_wp2
                go_round
                case rel => exact ⟨m + 1, by rw [← HX1.out, he.out], by simp, by omega⟩
                case measure => exact measK hgm
          · have hgm' : ¬ (m : Int) < (L : Int) := by omega
            obtain rfl : m = L := by omega
            generalize xs m (fun j => gb T j && gb r (k - j - 1)) = x at *
            go_wp2_with (at_builtin; refine wpList_append_own _ rfl _ _ 22 rfl w.heap.size 4 i0 (.bool false) 1 1 Try.underlying22 hi hz0 hz1 hz2 rfl (by decide) _ _ _ rfl (HO.out.alloc _) ⟨wr.heap.size, 0, none⟩ 1 1 [.bool x] rfl rfl v_one (by simp [Value.oneCell']) (by unfold maxLen; omega) (by omega) (by simp; omega) ?_; intro v' w3 hown' hgrow _; have HO3 := hid hown'; have HB3 := hid (v_snoc HB.out (Nat.le_refl _) HO.out hgrow); clear hown' hgrow)
            go_roundw
            case rel => exact ⟨k + 1, by simp, by omega, by show World.ownsRow _ _ _ _ _ _ _; rw [hsn.out]; exact HO3.out, HB3⟩
            case measure => exact measK hgo
    · have hgo' : ¬ (k : Int) < (n : Int) := by omega
      obtain rfl : k = n := by omega
      obtain ⟨bo, cb, hv, hcb, hr⟩ := b_owns HO.out
      have HRw := hid hr
      have HLn := hid (rn_length T F k)
      subst hv
      rw [HLn.out] at hcb ⊢
      clear hr HO
      go_wp2
      go_ret
      exact ⟨⟨bo, cb, by rw [HLn.out]; rfl, by rw [HLn.out]; exact hcb, HRw.out⟩, HB.out⟩

/-- Does the rule make the list? -/
def MkL (T l : List Bool) : Prop := T.length ≤ l.length ∧ Makes (gb l) T.length l.length (gb T)

set_option maxRecDepth 100000 in
theorem makes_any (to lo : Option Addr) (ct cl : Nat) (T l : List Bool) (r : Bool) (hr : r = true ↔ MkL T l) (hT : T.length ≤ 9223372036854775807) (hl : l.length ≤ 4096) (hcl : l.length ≤ cl) (w : World) (rT : BRow w to T) (rl : BRow w lo l) :
    Calls Try.prog 13 #[.slice to T.length ct, .slice lo l.length cl] w fun e w' => e = .returned (.bool r) ∧ Below w.heap.size w w' := by
  by_cases hle : T.length ≤ l.length
  · have hF : (l.take T.length).length = T.length := by rw [List.length_take]; omega
    have cR := fun (w' : World) (h : Below w.heap.size w w') => refRun_any to lo ct cl T (l.take T.length) l.length (by omega) (by omega) (by omega) hl w' (brow_below rT h) (brow_take (brow_below rl h) _)
    rw [hF] at cR
    have hrn := rn_length T (l.take T.length) l.length
    have hiff : r = true ↔ rn T (l.take T.length) l.length = l := by
      rw [run_iff hle]
      exact hr.trans ⟨fun h => h.2, fun h => ⟨hle, h⟩⟩
    have cE := fun (o : Option Addr) (c : Nat) (w' : World) (h : Below w.heap.size w w') (hb : BRow w' o (rn T (l.take T.length) l.length)) => refBools_any o lo c cl (rn T (l.take T.length) l.length) l r hiff (by rw [hrn]; omega) w' hb (brow_below rl h)
    rw [hrn] at cE
    have cR2 := hid (fun w' h => (cR w' h).mono (fun e w'' h' => (show (∃ bo cb, e = .returned (.slice bo l.length cb) ∧ Hid (BRow w'' bo (rn T (l.take T.length) l.length))) ∧ Below w'.heap.size w' w'' from ⟨by
      obtain ⟨bo, cb, h1, h2, h3⟩ := h'.1
      rw [hrn] at h1
      exact ⟨bo, cb, h1, h3⟩, h'.2⟩)))
    have c0 := cR2.out w (Below.refl _ _)
    have CE := hid cE
    have hle' : (T.length : Int) ≤ (l.length : Int) := by omega
    have hlc : T.length ≤ cl := by omega
    clear cR cR2 hrn hiff hF rT rl cE hr
    generalize rn T (l.take T.length) l.length = X at *
    generalize T.length = L at *
    generalize l.length = N at *
    go_enter Try.func13, Try.ntmps13
    go_wp2_with (first
      | (go_at_call 10; refine c0.mono ?_; rintro e w2 ⟨⟨bo, cb, rfl, hb⟩, hB2⟩; clear c0)
      | (go_at_call 9; refine (CE.out _ _ _ hB2 hb.out).mono ?_; rintro e w3 ⟨rfl, hB3⟩))
    go_ret
    exact ⟨rfl, below_trans hB2 hB3⟩
  · have e : Hid (false = r) := by
      show false = r
      cases r with
      | false => rfl
      | true => exact absurd (hr.1 rfl).1 hle
    have hle' : ¬ (T.length : Int) ≤ (l.length : Int) := by omega
    have hle2 : decide ((T.length : Int) ≤ (l.length : Int)) = false := by simp; omega
    have hle3 : decide (T.length ≤ l.length) = false := by simp; omega
    generalize T.length = L at *
    generalize l.length = N at *
    clear rT rl hr
    go_enter Try.func13, Try.ntmps13
    go_wp2
    go_ret
    exact ⟨ret_bool e.out, Below.refl _ _⟩

end Go.Proofs.Ytfomanpehfdnbaa.Calls121
