/-
  Package poly: what is wrong with a polynomial, with two of them; and the document's answers to these.
-/
import Derived.Test.YtjpmkcijkcnfiaaCalls56
namespace Go.Proofs.Ytjpmkcijkcnfiaa.Calls57
set_option linter.unusedVariables false
open Go.ChangeShapes Go.WideShapes Go.ChangeAt Go.RowKit Go.Deep Go.Proofs.Ytjpmkcijkcnfiaa.Base Go.Proofs.Ytjpmkcijkcnfiaa.Base2 Go.Proofs.Ytjpmkcijkcnfiaa.Num Go.Proofs.Ytjpmkcijkcnfiaa.Num13 Go.Proofs.Ytjpmkcijkcnfiaa.Num16 Go.Proofs.Ytjpmkcijkcnfiaa.Num17 Go.Proofs.Ytjpmkcijkcnfiaa.Num34 Go.Proofs.Ytjpmkcijkcnfiaa.Base4 Go.Proofs.Ytjpmkcijkcnfiaa.Calls56
open Go.Proofs.Ytjpmkcijkcnfiaa.Calls20 (first_any)

/-- The code of a polynomial. -/
def PC (p : Int) (l : List Int) (c : Int) : Prop :=
  (PrC p c ∧ c ≠ 0) ∨ (PrC p 0 ∧ ((13 < l.length ∧ c = 1) ∨ (l.length ≤ 13 ∧ ((¬ Cn p.toNat l ∧ c = 4) ∨ (Cn p.toNat l ∧ c = 0)))))

theorem pc_ex (p : Int) (l : List Int) : ∃ c, PC p l c := by
  obtain ⟨c, hc⟩ := prc_ex p
  by_cases h0 : c = 0
  · subst h0
    by_cases hl : l.length ≤ 13
    · rcases Classical.em (Cn p.toNat l) with h | h
      · exact ⟨0, .inr ⟨hc, .inr ⟨hl, .inr ⟨h, rfl⟩⟩⟩⟩
      · exact ⟨4, .inr ⟨hc, .inr ⟨hl, .inl ⟨h, rfl⟩⟩⟩⟩
    · exact ⟨1, .inr ⟨hc, .inl ⟨by omega, rfl⟩⟩⟩
  · exact ⟨c, .inl ⟨hc, h0⟩⟩

theorem PC.ok {p : Int} {l : List Int} (h : PC p l 0) : ∃ P : Nat, p = (P : Int) ∧ Pr P ∧ P ≤ 251 ∧ l.length ≤ 13 ∧ Cn P l := by
  rcases h with ⟨_, h⟩ | ⟨h, ⟨_, h2⟩ | ⟨h2, ⟨_, h3⟩ | ⟨h3, _⟩⟩⟩
  · exact absurd rfl h
  · cases h2
  · cases h3
  · obtain ⟨P, rfl, h4, h5⟩ := h.ok
    rw [Int.toNat_natCast] at h3
    exact ⟨P, rfl, h4, h5, h2, h3⟩

theorem PC.of {P : Nat} {l : List Int} (h : Pr P) (h2 : P ≤ 251) (hl : l.length ≤ 13) (hc : Cn P l) : PC (P : Int) l 0 :=
  .inr ⟨PrC.of h h2, .inr ⟨hl, .inr ⟨by rw [Int.toNat_natCast]; exact hc, rfl⟩⟩⟩

/-- Out of bounds, or 0 at the end. -/
theorem Cn.iff_bd {p : Nat} {l : List Int} {m : Nat} (hl : l.length = m + 1) : Cn p l ↔ Bd p l ∧ co l m ≠ 0 := by
  have e : l.length - 1 = m := by omega
  constructor
  · intro h
    refine ⟨h.1, ?_⟩
    have := h.2 (by intro e; rw [e] at hl; simp at hl)
    rwa [e] at this
  · rintro ⟨h1, h2⟩
    exact ⟨h1, fun _ => by rw [e]; exact h2⟩

theorem boxP (w : World) (p : Int) : (w.alloc (.cells #[.int .i64 p] 2)).cell? ⟨w.heap.size, 0, none⟩ = some (.int .i64 p) := by
  simp

set_option maxRecDepth 100000 in
theorem Check_any (p : Int) (ao : Option Addr) (cap : Nat) (l : List Int) (hm : l.length ≤ 9223372036854775807) (c : Int) (hc : PC p l c) (w : World) (hrow : IRow w ao l) :
    Calls Try.prog 35 #[.int .i64 p, .slice ao l.length cap] w fun e w' => e = .returned (.int .i64 c) ∧ Below w.heap.size w w' := by
  obtain ⟨n, hn⟩ : ∃ n, n = l.length := ⟨_, rfl⟩
  rcases hc with ⟨h1, h0⟩ | ⟨h1, h2⟩
  · rw [← hn] at hm ⊢
    clear hn hrow
    have cP := fun w => checkPrime_any p c h1 w
    have h0' : (c != 0) = true := by simpa using h0
    have h0'' : (c == 0) = false := by simpa using h0
    go_enter Try.func35, Try.ntmps35
    go_wp2_with (go_at_call 51; refine (cP _).mono ?_; rintro e w1 ⟨rfl, hB⟩)
    go_ret
    exact ⟨rfl, hB⟩
  · have cP := fun w => checkPrime_any p 0 h1 w
    rcases h2 with ⟨hl, rfl⟩ | ⟨hl, h2⟩
    · rw [← hn] at hm hl ⊢
      clear hn hrow
      have hl' : (13 : Int) < (n : Int) := by omega
      go_enter Try.func35, Try.ntmps35
      go_wp2_with (go_at_call 51; refine (cP _).mono ?_; rintro e w1 ⟨rfl, hB⟩)
      go_ret
      exact ⟨rfl, hB⟩
    · obtain ⟨P, rfl, hP, hP2⟩ := h1.ok
      rw [Int.toNat_natCast] at h2
      have HR := hid hrow
      have cO := fun w => outside_any (P : Int) w
      have hb : ∃ b : Bool, (b = false ↔ Bd P l) := by
        rcases Classical.em (Bd P l) with h | h
        · exact ⟨false, ⟨fun _ => h, fun _ => rfl⟩⟩
        · exact ⟨true, ⟨fun e => (by cases e), fun e => absurd e h⟩⟩
      obtain ⟨b, hb⟩ := hb
      have cF := fun w1 (hB : Below w.heap.size w w1) => slContainsFunc_any ao cap l w1.heap.size P (by omega) b hb (w1.alloc (.cells #[.int .i64 (P : Int)] 2)) (irow_below (irow_below hrow hB (Nat.le_refl _)) ((Below.refl _ w1).alloc (Nat.le_refl _) _) (Nat.le_refl _)) (boxP w1 (P : Int))
      have hBa := hid (fun w1 (hB : Below w.heap.size w w1) => hB.alloc hB.size (.cells #[.int .i64 (P : Int)] 2))
      cases b with
      | true =>
        have hnc : ¬ Cn P l := fun h => by
          have := hb.2 h.1
          cases this
        have ec : c = 4 := by
          rcases h2 with ⟨_, e⟩ | ⟨h, _⟩
          · exact e
          · exact absurd h hnc
        subst ec
        rw [← hn] at hl ⊢
        rw [← hn] at cF
        have hl' : decide ((13 : Int) < (n : Int)) = false := by simp; omega
        clear h2 hb hnc hrow hn hm
        go_enter Try.func35, Try.ntmps35
        go_wp2_with (first
          | (go_at_call 51; refine (cP _).mono ?_; rintro e w1 ⟨rfl, hB⟩)
          | (go_at_call 52; refine (cO _).mono ?_; rintro e w' ⟨rfl, rfl⟩)
          | (go_at_call 49; refine (cF _ hB).mono ?_; rintro e w' ⟨rfl, hw⟩; subst w'))
        go_ret
        exact ⟨rfl, hBa.out _ hB⟩
      | false =>
        have hbd := hb.1 rfl
        match n, hn with
        | 0, hn =>
          have el : l = [] := List.length_eq_zero_iff.1 hn.symm
          have ec : c = 0 := by
            rcases h2 with ⟨h, _⟩ | ⟨_, e⟩
            · rw [el] at h; exact absurd (Cn.nil P) h
            · exact e
          subst ec
          rw [← hn] at hl ⊢
          rw [← hn] at cF
          clear h2 hb hbd hrow hn hm el
          go_enter Try.func35, Try.ntmps35
          go_wp2_with (first
            | (go_at_call 51; refine (cP _).mono ?_; rintro e w1 ⟨rfl, hB⟩)
            | (go_at_call 52; refine (cO _).mono ?_; rintro e w' ⟨rfl, rfl⟩)
            | (go_at_call 49; refine (cF _ hB).mono ?_; rintro e w' ⟨rfl, hw⟩; subst w'))
          go_ret
          exact ⟨rfl, hBa.out _ hB⟩
        | m + 1, hn =>
          have hiff := Cn.iff_bd (p := P) hn.symm
          have cL := fun w1 (hB : Below w.heap.size w w1) => last_row ao cap m l (by omega) hm w1 (irow_below hrow hB (Nat.le_refl _))
          have ec : c = if co l m = 0 then 4 else 0 := by
            by_cases h0 : co l m = 0
            · rw [if_pos h0]
              rcases h2 with ⟨_, e⟩ | ⟨h, _⟩
              · exact e
              · exact absurd h0 (hiff.1 h).2
            · rw [if_neg h0]
              rcases h2 with ⟨h, _⟩ | ⟨_, e⟩
              · exact absurd (hiff.2 ⟨hbd, h0⟩) h
              · exact e
          rw [← hn] at hl ⊢
          rw [← hn] at cF
          generalize co l m = x at *
          have hl' : decide ((13 : Int) < (m : Int) + 1) = false := by simp; omega
          clear h2 hb hbd hrow hn hm hiff
          by_cases h0 : x = 0
          · rw [if_pos h0] at ec
            subst h0 ec
            go_enter Try.func35, Try.ntmps35
            go_wp2_with (first
              | (go_at_call 51; refine (cP _).mono ?_; rintro e w1 ⟨rfl, hB⟩)
              | (go_at_call 52; refine (cO _).mono ?_; rintro e w' ⟨rfl, rfl⟩)
              | (go_at_call 49; refine (cF _ hB).mono ?_; rintro e w' ⟨rfl, hw⟩; subst w')
              | (go_at_call 53; refine (cL _ (hBa.out _ hB)).mono ?_; rintro e w' ⟨rfl, hw⟩; subst w'))
            go_ret
            exact ⟨rfl, hBa.out _ hB⟩
          · rw [if_neg h0] at ec
            subst ec
            have h0' : (x == 0) = false := by simpa using h0
            go_enter Try.func35, Try.ntmps35
            go_wp2_with (first
              | (go_at_call 51; refine (cP _).mono ?_; rintro e w1 ⟨rfl, hB⟩)
              | (go_at_call 52; refine (cO _).mono ?_; rintro e w' ⟨rfl, rfl⟩)
              | (go_at_call 49; refine (cF _ hB).mono ?_; rintro e w' ⟨rfl, hw⟩; subst w')
              | (go_at_call 53; refine (cL _ (hBa.out _ hB)).mono ?_; rintro e w' ⟨rfl, hw⟩; subst w'))
            go_ret
            exact ⟨rfl, hBa.out _ hB⟩

theorem checkBoth_any (p : Int) (ao bo : Option Addr) (ca cb : Nat) (a b : List Int) (ha : a.length ≤ 9223372036854775807) (hb : b.length ≤ 9223372036854775807) (c d : Int) (hc : PC p a c) (hd : PC p b d) (w : World) (ra : IRow w ao a) (rb : IRow w bo b) :
    Calls Try.prog 56 #[.int .i64 p, .slice ao a.length ca, .slice bo b.length cb] w fun e w' => e = .returned (.int .i64 (if c = 0 then d else c)) ∧ Below w.heap.size w w' := by
  have cA := Check_any p ao ca a ha c hc w ra
  have cB := fun w1 (hB : Below w.heap.size w w1) => Check_any p bo cb b hb d hd w1 (irow_below rb hB (Nat.le_refl _))
  generalize a.length = na at *
  generalize b.length = nb at *
  clear hc hd ra rb
  by_cases h : c = 0
  · rw [if_pos h]
    subst h
    go_enter Try.func56, Try.ntmps56
    go_wp2_with (first
      | (go_at_call 35; refine cA.mono ?_; rintro e w1 ⟨rfl, hB⟩; clear cA)
      | (go_at_call 35; refine (cB _ hB).mono ?_; rintro e w2 ⟨rfl, hB2⟩))
    go_ret
    exact ⟨rfl, below_trans hB hB2⟩
  · rw [if_neg h]
    have h' : (c != 0) = true := by simpa using h
    have h'' : (c == 0) = false := by simpa using h
    go_enter Try.func56, Try.ntmps56
    go_wp2_with (go_at_call 35; refine cA.mono ?_; rintro e w1 ⟨rfl, hB⟩; clear cA)
    go_ret
    exact ⟨rfl, hB⟩

set_option maxRecDepth 100000 in
theorem refPolyCheck_any (p : Int) (ao : Option Addr) (cap : Nat) (l : List Int) (hm : l.length ≤ 9223372036854775807) (c : Int) (hc : PC p l c) (w : World) (hrow : IRow w ao l) :
    Calls Try.prog 22 #[.int .i64 p, .slice ao l.length cap] w fun e w' => e = .returned (.int .i64 c) ∧ w' = w := by
  obtain ⟨n, hn⟩ : ∃ n, n = l.length := ⟨_, rfl⟩
  rcases hc with ⟨h1, h0⟩ | ⟨h1, h2⟩
  · rw [← hn] at hm ⊢
    clear hn hrow
    have cP := fun w => refPrimeCheck_any p c h1 w
    have h0' : (c != 0) = true := by simpa using h0
    have h0'' : (c == 0) = false := by simpa using h0
    go_enter Try.func22, Try.ntmps22
    go_wp2_with (go_at_call 38; refine (cP _).mono ?_; rintro e w1 ⟨rfl, hw⟩; subst w1)
    go_ret
    exact ⟨rfl, rfl⟩
  · have cP := fun w => refPrimeCheck_any p 0 h1 w
    rcases h2 with ⟨hl, rfl⟩ | ⟨hl, h2⟩
    · rw [← hn] at hm hl ⊢
      clear hn hrow
      have hl' : (13 : Int) < (n : Int) := by omega
      go_enter Try.func22, Try.ntmps22
      go_wp2_with (go_at_call 38; refine (cP _).mono ?_; rintro e w1 ⟨rfl, hw⟩; subst w1)
      go_ret
      exact ⟨rfl, rfl⟩
    · obtain ⟨P, rfl, hP, hP2⟩ := h1.ok
      rw [Int.toNat_natCast] at h2
      have HN : Hid (n = l.length) := hn
      have H2 := hid h2
      have hl2 : n ≤ 13 := by omega
      have hl' : decide ((13 : Int) < (n : Int)) = false := by simp; omega
      rw [← hn] at hm hl ⊢
      clear h2 hn
      go_enter Try.func22, Try.ntmps22
      go_wp2_with (go_at_call 38; refine (cP _).mono ?_; rintro e w1 ⟨rfl, hw⟩; subst w1)
      go_loop [18] (fun i => ∃ k : Nat, i = .int .i64 (k : Int) ∧ k ≤ n ∧ Hid (∀ j, j < k → 0 ≤ co l j ∧ co l j < (P : Int))) (fun i => ((n : Int) - intOf i).toNat)
      case atStart => exact ⟨0, rfl, by omega, fun j hj => by omega⟩
      case round =>
        obtain ⟨k, rfl, hk, hall⟩ := hrel
        by_cases hgo : k < n
        · have hgo' : (k : Int) < (n : Int) := by omega
          have hkl : Hid (k < l.length) := by have := HN.out; show k < l.length; omega
          rcases ao with _ | ad
          · exact (irow_none hrow hkl.out).elim
          · have c1 := hrow.2 ad rfl k hkl.out
            have hxm : Hid (co l k ∈ l) := co_mem hkl.out
            have hall2 : Hid (0 ≤ co l k ∧ co l k < (P : Int) → ∀ j, j < k + 1 → 0 ≤ co l j ∧ co l j < (P : Int)) := fun h j hj => by
              by_cases e : j = k
              · subst e; exact h
              · exact hall.out j (by omega)
            generalize co l k = x at *
            by_cases hx : 0 ≤ x ∧ x < (P : Int)
            · have hall3 := hid (hall2.out hx)
              have hx1 : decide (x < 0) = false := by simp; omega
              have hx2 : decide ((P : Int) ≤ x) = false := by simp; omega
              clear hall2
              go_wp2
              go_round
              case rel => exact ⟨k + 1, by simp, by omega, hall3⟩
              case measure => exact measK hgo
            · have ec : Hid (c = 4) := by
                rcases H2.out with ⟨_, e⟩ | ⟨h, _⟩
                · exact e
                · exact absurd (h.1 x hxm.out) hx
              obtain rfl : c = 4 := ec.out
              clear hall2
              by_cases hx1 : x < 0
              · go_wp2
                go_ret
                exact ⟨rfl, rfl⟩
              · have hx1' : decide (x < 0) = false := by simpa using hx1
                have hx2 : (P : Int) ≤ x := by omega
                go_wp2
                go_ret
                exact ⟨rfl, rfl⟩
        · have hgo' : ¬ (k : Int) < (n : Int) := by omega
          obtain rfl : k = n := by omega
          have hbd : Hid (Bd P l) := fun x hx => by
            obtain ⟨j, hj, e⟩ := List.getElem_of_mem hx
            have := hall.out j (by have := HN.out; omega)
            simpa [co, List.getD, hj, e] using this
          match k, HN, hm, hk, hgo' with
          | 0, HN, hm, hk, hgo' =>
            have ec : Hid (c = 0) := by
              rcases H2.out with ⟨h, _⟩ | ⟨_, e⟩
              · exact absurd (by rw [List.length_eq_zero_iff.1 HN.out.symm]; exact Cn.nil P) h
              · exact e
            obtain rfl : c = 0 := ec.out
            go_wp2
            go_ret
            exact ⟨rfl, rfl⟩
          | m + 1, HN, hm, hk, hgo' =>
            have hiff := hid (Cn.iff_bd (p := P) HN.out.symm)
            rcases ao with _ | ad
            · exact (irow_none hrow (j := m) (by have := HN.out; omega)).elim
            · have c1 := hrow.2 ad rfl m (by have := HN.out; omega)
              have ec : Hid (c = if co l m = 0 then 4 else 0) := by
                show c = _
                by_cases h0 : co l m = 0
                · rw [if_pos h0]
                  rcases H2.out with ⟨_, e⟩ | ⟨h, _⟩
                  · exact e
                  · exact absurd h0 (hiff.out.1 h).2
                · rw [if_neg h0]
                  rcases H2.out with ⟨h, _⟩ | ⟨_, e⟩
                  · exact absurd (hiff.out.2 ⟨hbd.out, h0⟩) h
                  · exact e
              generalize co l m = x at *
              by_cases h0 : x = 0
              · have ec2 : c = 4 := by rw [ec.out, if_pos h0]
                subst h0 ec2
                clear ec
                go_wp2
                go_ret
                exact ⟨rfl, rfl⟩
              · have ec2 : c = 0 := by rw [ec.out, if_neg h0]
                subst ec2
                have h0' : (x == 0) = false := by simpa using h0
                clear ec
                go_wp2
                go_ret
                exact ⟨rfl, rfl⟩

end Go.Proofs.Ytjpmkcijkcnfiaa.Calls57
