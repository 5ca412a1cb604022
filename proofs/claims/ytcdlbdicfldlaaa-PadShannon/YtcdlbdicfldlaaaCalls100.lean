/-
  Can what is told be read? Which message was it? Package pad's answers, and the document's.
-/
import Derived.Test.YtcdlbdicfldlaaaCalls99
import Derived.Deep.QuietTactic
import Derived.BigQuiet
namespace Go.Proofs.Ytcdlbdicfldlaaa.Calls100
set_option linter.unusedVariables false
open Go.ChangeShapes Go.WideShapes Go.ChangeAt Go.RowKit Go.Deep Go.Maps Go.Proofs.Ytcdlbdicfldlaaa.Base Go.Proofs.Ytcdlbdicfldlaaa.Base2 Go.Proofs.Ytcdlbdicfldlaaa.Num16 Go.Proofs.Ytcdlbdicfldlaaa.Num17 Go.Proofs.Ytcdlbdicfldlaaa.Num34 Go.Proofs.Ytcdlbdicfldlaaa.Num40 Go.Proofs.Ytcdlbdicfldlaaa.Base4 Go.Proofs.Ytcdlbdicfldlaaa.Base5 Go.Proofs.Ytcdlbdicfldlaaa.Calls96 Go.Proofs.Ytcdlbdicfldlaaa.Calls97 Go.Proofs.Ytcdlbdicfldlaaa.Calls98 Go.Proofs.Ytcdlbdicfldlaaa.Calls99

/-- Has the row a number twice? -/
def twB (l : List Int) : Bool := (List.range l.length).any fun i => (List.range i).any fun j => co l i == co l j

theorem twB_iff (l : List Int) : twB l = true ↔ ∃ i j, j < i ∧ i < l.length ∧ co l i = co l j := by
  unfold twB
  simp only [List.any_eq_true, List.mem_range, beq_iff_eq]
  constructor
  · rintro ⟨i, h1, j, h2, h3⟩; exact ⟨i, j, h2, h1, h3⟩
  · rintro ⟨i, j, h1, h2, h3⟩; exact ⟨i, h2, j, h1, h3⟩

theorem twB_inj (l : List Int) : twB l = false ↔ InjK (co l) l.length := by
  constructor
  · intro h i j hi hj e
    rcases Nat.lt_trichotomy i j with h1 | h1 | h1
    · have := (twB_iff l).2 ⟨j, i, h1, hj, e.symm⟩
      rw [h] at this; cases this
    · exact h1
    · have := (twB_iff l).2 ⟨i, j, h1, hi, e⟩
      rw [h] at this; cases this
  · intro h
    cases hb : twB l
    · rfl
    · obtain ⟨i, j, h1, h2, h3⟩ := (twB_iff l).1 hb
      have := h i j h2 (by omega) h3
      omega

theorem twice_ans (L : List (List Int)) (hsm : ∀ l ∈ L, l.length ≤ 16) (hbd : ∀ l ∈ L, ∀ x ∈ l, 0 ≤ x ∧ x < 4096) (w : World) : AnsR 22 #[] twB L w := by
  intro l hl hm bo c w' hB hr hlc
  have cC := count_any bo c l (hsm l hl) (hbd l hl) w' hr
  obtain ⟨n, hn⟩ : ∃ n, n = l.length := ⟨_, rfl⟩
  cases ht : twB l with
  | true =>
    have cC2 := cC.mono (R' := fun e w1 => (∃ b s, e = .returned (.map (some b)) ∧ (∀ ty, (Builtin.len_ #[36] ty #[.map (some b)]).run Try.prog w1 = .ok (.int .i64 ((s : Nat) : Int)) w1) ∧ (s : Int) < (n : Int)) ∧ Below w'.heap.size w' w1) (fun e w1 h => ⟨by
      obtain ⟨b, he, _, D, m, hD, hO⟩ := h.1
      refine ⟨b, size D, he, fun ty => hO.len (t := 36) Try.underlying36 ty, ?_⟩
      have h1 := hD.le
      have h2 : ¬ size D = l.length := fun e => by
        have := (twB_inj l).2 (hD.inj.1 e)
        rw [ht] at this; cases this
      omega, h.2⟩)
    rw [← hn] at cC2 hm ⊢
    clear cC hn hr hlc
    show Calls Try.prog 22 #[.slice bo n c] w' _
    go_enter Try.func22, Try.ntmps22
    go_wp2_with (go_at_call 23; refine cC2.mono ?_; rintro e w1 ⟨⟨b, s, rfl, hL, hlt⟩, hB1⟩)
    go_ret
    exact ⟨rfl, hB1⟩
  | false =>
    have cC2 := cC.mono (R' := fun e w1 => (∃ b, e = .returned (.map (some b)) ∧ (∀ ty, (Builtin.len_ #[36] ty #[.map (some b)]).run Try.prog w1 = .ok (.int .i64 (n : Int)) w1)) ∧ Below w'.heap.size w' w1) (fun e w1 h => ⟨by
      obtain ⟨b, he, _, D, m, hD, hO⟩ := h.1
      have hL := fun ty => hO.len (t := 36) Try.underlying36 ty
      rw [hD.inj.2 ((twB_inj l).1 ht), ← hn] at hL
      exact ⟨b, he, hL⟩, h.2⟩)
    rw [← hn] at cC2 hm ⊢
    clear cC hn hr hlc
    show Calls Try.prog 22 #[.slice bo n c] w' _
    go_enter Try.func22, Try.ntmps22
    go_wp2_with (go_at_call 23; refine cC2.mono ?_; rintro e w1 ⟨⟨b, rfl, hL⟩, hB1⟩)
    go_ret
    exact ⟨by simp, hB1⟩

/-- No row has a number twice. -/
def PlainL (L : List (List Int)) : Prop := ∀ r ∈ L, twB r = false

theorem ci_small {L : List (List Int)} (h : Ci L) : ∀ l ∈ L, l.length ≤ 16 := fun l hl => by
  obtain ⟨j, hj, rfl⟩ := rw_of_mem hl
  rw [h.even j hj]; exact h.M2

theorem Plain_bad (ao : Option Addr) (cap : Nat) (L : List (List Int)) (c : Int) (hc : CiC L c) (h0 : c ≠ 0) (hl : L.length ≤ 9223372036854775807) (w : World) (hrow : RRow w ao L) :
    Calls Try.prog 11 #[.slice ao L.length cap] w fun e w' => e = .returned (.tuple #[.bool false, .int .i64 c]) ∧ Below w.heap.size w w' := by
  have cK := check_any ao cap L c hc hl w hrow
  have h1 : (c != 0) = true := by simpa using h0
  generalize L.length = n at *
  clear hc hrow
  go_enter Try.func11, Try.ntmps11
  go_wp2_with (go_at_call 9; refine cK.mono ?_; rintro e w1 ⟨rfl, hB1⟩)
  go_ret2
  exact ⟨rfl, hB1⟩

theorem Plain_yes (ao : Option Addr) (cap : Nat) (L : List (List Int)) (hc : CiC L 0) (b : Bool) (hb : b = true ↔ PlainL L) (hl : L.length ≤ 9223372036854775807) (w : World) (hrow : RRow w ao L) :
    Calls Try.prog 11 #[.slice ao L.length cap] w fun e w' => e = .returned (.tuple #[.bool b, .int .i64 0]) ∧ Below w.heap.size w w' := by
  have cK := check_any ao cap L 0 hc hl w hrow
  have hci := hc.ok
  have hK := hci.K2
  have cT : ∀ w', Below w.heap.size w w' → Calls Try.prog 17 #[.slice ao L.length cap, .func (.func 22) #[] #[]] w' fun e w'' => e = .returned (.bool (!b)) ∧ Below w'.heap.size w' w'' := fun w' hB =>
    conR_any 22 #[] (enters_of Try.func22 (by decide) rfl) ao cap L twB (by omega) (!b) (by
      constructor
      · intro h
        have hb' : ¬ b = true := by simpa using h
        refine Classical.byContradiction fun hno => hb' (hb.2 fun r hr => ?_)
        cases e : twB r
        · rfl
        · exact absurd ⟨r, hr, e⟩ hno
      · rintro ⟨r, hr, e⟩
        cases b with
        | false => rfl
        | true => have := hb.1 rfl r hr; rw [e] at this; cases this) w' (rb hrow hB) (twice_ans L (ci_small hci) hci.bd w')
  generalize L.length = n at *
  clear hc hrow hb hci
  cases b with
  | true =>
    go_enter Try.func11, Try.ntmps11
    go_wp2_with (first
      | (go_at_call 9; refine cK.mono ?_; rintro e w1 ⟨rfl, hB1⟩)
      | (go_at_call 17; refine (cT _ hB1).mono ?_; rintro e w2 ⟨rfl, hB2⟩))
    go_ret2
    exact ⟨rfl, below_trans hB1 hB2⟩
  | false =>
    go_enter Try.func11, Try.ntmps11
    go_wp2_with (first
      | (go_at_call 9; refine cK.mono ?_; rintro e w1 ⟨rfl, hB1⟩)
      | (go_at_call 17; refine (cT _ hB1).mono ?_; rintro e w2 ⟨rfl, hB2⟩))
    go_ret2
    exact ⟨rfl, below_trans hB1 hB2⟩

/-! ### Find -/

theorem Find_bad (ao : Option Addr) (cap : Nat) (L : List (List Int)) (k x c : Int) (hc : CiC L c) (h0 : c ≠ 0) (hl : L.length ≤ 9223372036854775807) (w : World) (hrow : RRow w ao L) :
    Calls Try.prog 15 #[.slice ao L.length cap, .int .i64 k, .int .i64 x] w fun e w' => e = .returned (.tuple #[.int .i64 0, .int .i64 c]) ∧ Below w.heap.size w w' := by
  have cK := check_any ao cap L c hc hl w hrow
  have h1 : (c != 0) = true := by simpa using h0
  generalize L.length = n at *
  clear hc hrow
  go_enter Try.func15, Try.ntmps15
  go_wp2_with (go_at_call 9; refine cK.mono ?_; rintro e w1 ⟨rfl, hB1⟩)
  go_ret2
  exact ⟨rfl, hB1⟩

theorem Find_arg (ao : Option Addr) (cap : Nat) (L : List (List Int)) (k x : Int) (hc : CiC L 0) (hk : k < 0 ∨ (L.length : Int) ≤ k) (hl : L.length ≤ 9223372036854775807) (w : World) (hrow : RRow w ao L) :
    Calls Try.prog 15 #[.slice ao L.length cap, .int .i64 k, .int .i64 x] w fun e w' => e = .returned (.tuple #[.int .i64 0, .int .i64 3]) ∧ Below w.heap.size w w' := by
  have cK := check_any ao cap L 0 hc hl w hrow
  generalize L.length = n at *
  clear hc hrow
  by_cases h1 : k < 0
  · go_enter Try.func15, Try.ntmps15
    go_wp2_with (go_at_call 9; refine cK.mono ?_; rintro e w1 ⟨rfl, hB1⟩)
    go_ret2
    exact ⟨rfl, hB1⟩
  · have h2 : (n : Int) ≤ k := by omega
    have h1' : decide (k < 0) = false := by simpa using h1
    clear hk
    go_enter Try.func15, Try.ntmps15
    go_wp2_with (go_at_call 9; refine cK.mono ?_; rintro e w1 ⟨rfl, hB1⟩)
    go_ret2
    exact ⟨rfl, hB1⟩

/-- What Find answers where there is such a key: the first place, or none. -/
def FindE (v : Int) (e : Ending) : Prop := (v = -1 ∧ e = .returned (.tuple #[.int .i64 0, .int .i64 5])) ∨ (0 ≤ v ∧ e = .returned (.tuple #[.int .i64 v, .int .i64 0]))

theorem Find_in (ao : Option Addr) (cap : Nat) (L : List (List Int)) (k : Nat) (x v : Int) (hc : CiC L 0) (hk : k < L.length) (hv : FstI x (rw' L k) v) (hl : L.length ≤ 9223372036854775807) (w : World) (hrow : RRow w ao L) :
    Calls Try.prog 15 #[.slice ao L.length cap, .int .i64 (k : Int), .int .i64 x] w fun e w' => FindE v e ∧ Below w.heap.size w w' := by
  have cK := check_any ao cap L 0 hc hl w hrow
  rcases ao with _ | ad
  · exact (rrow_none hrow hk).elim
  have cI := fun w' (hB : Below w.heap.size w w') => by
    have h := (rb hrow hB).2 ad rfl k hk
    exact h
  have hv2 : v = -1 ∨ 0 ≤ v := by
    rcases hv with ⟨_, _, _, _, rfl⟩ | ⟨_, rfl⟩
    · exact .inr (by omega)
    · exact .inl rfl
  have cX := fun bo cc w' (hr : IRow w' bo (rw' L k)) (hm : (rw' L k).length ≤ 9223372036854775807) => idx_any bo cc (rw' L k) x v hv hm w' hr
  have hk0 : decide ((k : Int) < 0) = false := by simp
  have hk1 : ¬ (L.length : Int) ≤ (k : Int) := by omega
  have hk2 : (k : Int) < (L.length : Int) := by omega
  have CI : Hid _ := cI
  generalize L.length = n at *
  clear hc hrow hv cI
  rcases hv2 with rfl | hv2
  · go_enter Try.func15, Try.ntmps15
    go_wp2_with (first
      | (go_at_call 9; refine cK.mono ?_; rintro e w1 ⟨rfl, hB1⟩; obtain ⟨bo, cc, c1, hr, hlc, hlm⟩ := CI.out w1 hB1; have HR := hid hr; clear hr)
      | (go_at_call 27; refine (cX _ _ _ HR.out hlm).mono ?_; rintro e w2 ⟨rfl, hw⟩; subst w2))
    go_ret2
    exact ⟨.inl ⟨rfl, rfl⟩, hB1⟩
  · have hv3 : decide (v < 0) = false := by simp; omega
    go_enter Try.func15, Try.ntmps15
    go_wp2_with (first
      | (go_at_call 9; refine cK.mono ?_; rintro e w1 ⟨rfl, hB1⟩; obtain ⟨bo, cc, c1, hr, hlc, hlm⟩ := CI.out w1 hB1; have HR := hid hr; clear hr)
      | (go_at_call 27; refine (cX _ _ _ HR.out hlm).mono ?_; rintro e w2 ⟨rfl, hw⟩; subst w2))
    go_ret2
    exact ⟨.inr ⟨hv2, rfl⟩, hB1⟩

/-! ### the document's Plain -/

set_option maxRecDepth 100000 in
set_option maxHeartbeats 1000000 in
theorem refPlain_any (ao : Option Addr) (cap : Nat) (L : List (List Int)) (b : Bool) (hb : b = true ↔ PlainL L) (hl : L.length ≤ 9223372036854775807) (w : World) (hrow : RRow w ao L) :
    Calls Try.prog 12 #[.slice ao L.length cap] w fun e w' => e = .returned (.bool b) ∧ Below w.heap.size w w' := by
  obtain ⟨N, hN⟩ : ∃ N, N = L.length := ⟨_, rfl⟩
  have HN : Hid (N = L.length) := hN
  have HB := hid hb
  have HR := hid hrow
  rw [← hN] at hl ⊢
  clear hN hb hrow
  go_enter Try.func12, Try.ntmps12
  go_wp2
  go_loopw [9] (fun i wr => ∃ k : Nat, i = .int .i64 (k : Int) ∧ k ≤ N ∧ Hid (∀ j, j < k → twB (rw' L j) = false) ∧ Hid (Below w.heap.size w wr)) (fun i wr => ((N : Int) - intOf i).toNat)
  case atStart => exact ⟨0, rfl, by omega, fun j hj => by omega, Below.refl _ _⟩
  case round =>
    obtain ⟨k, rfl, hk, hA, hW⟩ := hrel
    by_cases hgo : k < N
    · have hgo' : (k : Int) < (N : Int) := by omega
      have hkl : Hid (k < L.length) := by have := HN.out; show k < L.length; omega
      rcases ao with _ | ad
      · exact (rrow_none HR.out hkl.out).elim
      · obtain ⟨bo, cc, c1, hr, hlc, hlm⟩ := (rb HR.out hW.out).2 ad rfl k hkl.out
        obtain ⟨n, hn⟩ : ∃ n, n = (rw' L k).length := ⟨_, rfl⟩
        rw [← hn] at c1 hlm
        have HE := hid hn
        have HR1 := hid hr
        obtain ⟨W1, hW1⟩ : ∃ W1, W1 = wr := ⟨_, rfl⟩
        rw [← hW1] at c1 HR1 hW ⊢
        clear hn hr hlc hW1
        go_wp2
        go_loopw [5] (fun i wr => ∃ q : Nat, i = .int .i64 (q : Int) ∧ q ≤ n ∧ Hid (∀ i j, j < i → i < q → co (rw' L k) i ≠ co (rw' L k) j) ∧ Hid (Below W1.heap.size W1 wr)) (fun i wr => ((n : Int) - intOf i).toNat)
        case atStart => exact ⟨0, rfl, by omega, fun i j _ hj => by omega, Below.refl _ _⟩
        case round =>
          obtain ⟨q, rfl, hq, hA2, hX⟩ := hrel
          by_cases hgo2 : q < n
          · have hgo2' : (q : Int) < (n : Int) := by omega
            have hql : Hid (q < (rw' L k).length) := by show q < _; rw [← HE.out]; exact hgo2
            rcases bo with _ | bd
            · exact (irow_none HR1.out hql.out).elim
            obtain ⟨W2, hW2⟩ : ∃ W2, W2 = wr := ⟨_, rfl⟩
            rw [← hW2] at hX ⊢
            clear hW2
            go_wp2
            go_loopw [6] (fun i wr => ∃ p : Nat, i = .int .i64 (p : Int) ∧ p ≤ q ∧ Hid (∀ j, j < p → co (rw' L k) q ≠ co (rw' L k) j) ∧ Hid (Below W2.heap.size W2 wr)) (fun i wr => ((q : Int) - intOf i).toNat)
            case atStart => exact ⟨0, rfl, by omega, fun j hj => by omega, Below.refl _ _⟩
            case round =>
              obtain ⟨p, rfl, hp, hA3, hY⟩ := hrel
              by_cases hgo3 : p < q
              · have hgo3' : (p : Int) < (q : Int) := by omega
                have hpl : Hid (p < (rw' L k).length) := by show p < _; rw [← HE.out]; omega
                have hWr := hid (below_trans hX.out hY.out)
                have e1 := (ib HR1.out hWr.out).2 bd rfl q hql.out
                have e2 := (ib HR1.out hWr.out).2 bd rfl p hpl.out
                have hpn : (p : Int) < (n : Int) := by omega
                by_cases he : co (rw' L k) q = co (rw' L k) p
                · have hbf : Hid (b = false) := by
                    show b = false
                    cases b with
                    | false => rfl
                    | true =>
                      have := HB.out.1 rfl _ (rw_mem hkl.out)
                      rw [(twB_iff _).2 ⟨q, p, hgo3, hql.out, he⟩] at this
                      cases this
                  rw [he] at e1
                  generalize co (rw' L k) p = y at *
                  clear he
                  go_wp2
                  go_quiet (fail)
                  go_wp2
                  go_ret
                  exact ⟨ret_bool hbf.out.symm, below_trans hW.out (below_drewN hWr.out _)⟩
                · have hA4 : Hid (∀ j, j < p + 1 → co (rw' L k) q ≠ co (rw' L k) j) := fun j hj => by
                    by_cases e : j = p
                    · subst e; exact he
                    · exact hA3.out j (by omega)
                  obtain ⟨x, hx⟩ : ∃ x, co (rw' L k) q = x := ⟨_, rfl⟩
                  obtain ⟨y, hy⟩ : ∃ y, co (rw' L k) p = y := ⟨_, rfl⟩
                  rw [hx, hy] at he
                  rw [hx] at e1
                  rw [hy] at e2
                  have he' : (x == y) = false := by simpa using he
                  clear hx hy
                  go_wp2
                  go_quiet (fail)
                  go_wp2
                  go_roundw
                  case rel => exact ⟨p + 1, by simp, by omega, hA4, below_drewN hY.out _⟩
                  case measure => exact measK hgo3
              · have hgo3' : ¬ (p : Int) < (q : Int) := by omega
                obtain rfl : p = q := by omega
                have hA5 : Hid (∀ i j, j < i → i < p + 1 → co (rw' L k) i ≠ co (rw' L k) j) := fun i j hj hi => by
                  by_cases e : i = p
                  · subst e; exact hA3.out j hj
                  · exact hA2.out i j hj (by omega)
                go_wp2
                go_roundw
                case rel => exact ⟨p + 1, by simp, by omega, hA5, below_trans hX.out hY.out⟩
                case measure => exact measK hgo2
          · have hgo2' : ¬ (q : Int) < (n : Int) := by omega
            obtain rfl : q = n := by omega
            have hA6 : Hid (∀ j, j < k + 1 → twB (rw' L j) = false) := fun j hj => by
              by_cases e : j = k
              · subst e
                cases hb : twB (rw' L j)
                · rfl
                · obtain ⟨i, i', h1, h2, h3⟩ := (twB_iff _).1 hb
                  exact absurd h3 (hA2.out i i' h1 (by rw [HE.out]; exact h2))
              · exact hA.out j (by omega)
            go_wp2
            go_roundw
            case rel => exact ⟨k + 1, by simp, by omega, hA6, below_trans hW.out hX.out⟩
            case measure => exact measK hgo
    · have hgo' : ¬ (k : Int) < (N : Int) := by omega
      have hbt : Hid (b = true) := HB.out.2 (fun r hr => by
        obtain ⟨j, hj, rfl⟩ := rw_of_mem hr
        exact hA.out j (by have := HN.out; omega))
      go_wp2
      go_ret
      exact ⟨ret_bool hbt.out.symm, hW.out⟩

end Go.Proofs.Ytcdlbdicfldlaaa.Calls100
