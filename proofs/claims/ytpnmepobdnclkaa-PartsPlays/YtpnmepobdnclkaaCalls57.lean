/-
  Package poly: what is wrong with a polynomial, with two of them; and the document's answers to these.
-/
import Derived.Test.YtpnmepobdnclkaaCalls56
namespace Go.Proofs.Ytpnmepobdnclkaa.Calls57
set_option linter.unusedVariables false
open Go.ChangeShapes Go.WideShapes Go.ChangeAt Go.RowKit Go.Deep Go.Proofs.Ytpnmepobdnclkaa.Base Go.Proofs.Ytpnmepobdnclkaa.Base2 Go.Proofs.Ytpnmepobdnclkaa.Num Go.Proofs.Ytpnmepobdnclkaa.Num13 Go.Proofs.Ytpnmepobdnclkaa.Num16 Go.Proofs.Ytpnmepobdnclkaa.Num17 Go.Proofs.Ytpnmepobdnclkaa.Num34 Go.Proofs.Ytpnmepobdnclkaa.Base4 Go.Proofs.Ytpnmepobdnclkaa.Calls56


/-- The code of a polynomial. -/
def PC (p : Int) (l : List Int) (c : Int) : Prop :=
  (PrC p c ∧ c ≠ 0) ∨ (PrC p 0 ∧ ((13 < l.length ∧ c = 1) ∨ (l.length ≤ 13 ∧ ((¬ Cn p.toNat l ∧ c = 4) ∨ (Cn p.toNat l ∧ c = 0)))))

theorem pc_ex (p : Int) (l : List Int) : ∃ c, PC p l c := by
  obtain ⟨c, hc⟩ := prc_ex p
  by_cases h0 : c = 0
  · subst h0
    by_cases hl : l.length ≤ 13
    · rcases Classical.em (Cn p.toNat l) with h | h
      · exact ⟨0, .inr ⟨hc, .inr ⟨hl, .inr ⟨h, rfl⟩⟩⟩⟩
      · exact ⟨4, .inr ⟨hc, .inr ⟨hl, .inl ⟨h, rfl⟩⟩⟩⟩
    · exact ⟨1, .inr ⟨hc, .inl ⟨by omega, rfl⟩⟩⟩
  · exact ⟨c, .inl ⟨hc, h0⟩⟩

theorem PC.ok {p : Int} {l : List Int} (h : PC p l 0) : ∃ P : Nat, p = (P : Int) ∧ Pr P ∧ P ≤ 251 ∧ l.length ≤ 13 ∧ Cn P l := by
  rcases h with ⟨_, h⟩ | ⟨h, ⟨_, h2⟩ | ⟨h2, ⟨_, h3⟩ | ⟨h3, _⟩⟩⟩
  · exact absurd rfl h
  · cases h2
  · cases h3
  · obtain ⟨P, rfl, h4, h5⟩ := h.ok
    rw [Int.toNat_natCast] at h3
    exact ⟨P, rfl, h4, h5, h2, h3⟩

theorem PC.of {P : Nat} {l : List Int} (h : Pr P) (h2 : P ≤ 251) (hl : l.length ≤ 13) (hc : Cn P l) : PC (P : Int) l 0 :=
  .inr ⟨PrC.of h h2, .inr ⟨hl, .inr ⟨by rw [Int.toNat_natCast]; exact hc, rfl⟩⟩⟩

/-- Out of bounds, or 0 at the end. -/
theorem Cn.iff_bd {p : Nat} {l : List Int} {m : Nat} (hl : l.length = m + 1) : Cn p l ↔ Bd p l ∧ co l m ≠ 0 := by
  have e : l.length - 1 = m := by omega
  constructor
  · intro h
    refine ⟨h.1, ?_⟩
    have := h.2 (by intro e; rw [e] at hl; simp at hl)
    rwa [e] at this
  · rintro ⟨h1, h2⟩
    exact ⟨h1, fun _ => by rw [e]; exact h2⟩

theorem boxP (w : World) (p : Int) : (w.alloc (.cells #[.int .i64 p] 2)).cell? ⟨w.heap.size, 0, none⟩ = some (.int .i64 p) := by
  simp

set_option maxRecDepth 100000 in
theorem Check_any (p : Int) (ao : Option Addr) (cap : Nat) (l : List Int) (hm : l.length ≤ 9223372036854775807) (c : Int) (hc : PC p l c) (w : World) (hrow : IRow w ao l) :
    Calls Try.prog 43 #[.int .i64 p, .slice ao l.length cap] w fun e w' => e = .returned (.int .i64 c) ∧ Below w.heap.size w w' := by
  obtain ⟨n, hn⟩ : ∃ n, n = l.length := ⟨_, rfl⟩
  rcases hc with ⟨h1, h0⟩ | ⟨h1, h2⟩
  · rw [← hn] at hm ⊢
    clear hn hrow
    have cP := fun w => checkPrime_any p c h1 w
    have h0' : (c != 0) = true := by simpa using h0
    have h0'' : (c == 0) = false := by simpa using h0
    go_enter Try.func43, Try.ntmps43
    go_wp2_with (go_at_call 54; refine (cP _).mono ?_; rintro e w1 ⟨rfl, hB⟩)
    go_ret
    exact ⟨rfl, hB⟩
  · have cP := fun w => checkPrime_any p 0 h1 w
    rcases h2 with ⟨hl, rfl⟩ | ⟨hl, h2⟩
    · rw [← hn] at hm hl ⊢
      clear hn hrow
      have hl' : (13 : Int) < (n : Int) := by omega
      go_enter Try.func43, Try.ntmps43
      go_wp2_with (go_at_call 54; refine (cP _).mono ?_; rintro e w1 ⟨rfl, hB⟩)
      go_ret
      exact ⟨rfl, hB⟩
    · obtain ⟨P, rfl, hP, hP2⟩ := h1.ok
      rw [Int.toNat_natCast] at h2
      have HR := hid hrow
      have cO := fun w => outside_any (P : Int) w
      have hb : ∃ b : Bool, (b = false ↔ Bd P l) := by
        rcases Classical.em (Bd P l) with h | h
        · exact ⟨false, ⟨fun _ => h, fun _ => rfl⟩⟩
        · exact ⟨true, ⟨fun e => (by cases e), fun e => absurd e h⟩⟩
      obtain ⟨b, hb⟩ := hb
      have cF := fun w1 (hB : Below w.heap.size w w1) => slContainsFunc_any ao cap l w1.heap.size P (by omega) b hb (w1.alloc (.cells #[.int .i64 (P : Int)] 2)) (irow_below (irow_below hrow hB (Nat.le_refl _)) ((Below.refl _ w1).alloc (Nat.le_refl _) _) (Nat.le_refl _)) (boxP w1 (P : Int))
      have hBa := hid (fun w1 (hB : Below w.heap.size w w1) => hB.alloc hB.size (.cells #[.int .i64 (P : Int)] 2))
      cases b with
      | true =>
        have hnc : ¬ Cn P l := fun h => by
          have := hb.2 h.1
          cases this
        have ec : c = 4 := by
          rcases h2 with ⟨_, e⟩ | ⟨h, _⟩
          · exact e
          · exact absurd h hnc
        subst ec
        rw [← hn] at hl ⊢
        rw [← hn] at cF
        have hl' : decide ((13 : Int) < (n : Int)) = false := by simp; omega
        clear h2 hb hnc hrow hn hm
        go_enter Try.func43, Try.ntmps43
        go_wp2_with (first
          | (go_at_call 54; refine (cP _).mono ?_; rintro e w1 ⟨rfl, hB⟩)
          | (go_at_call 55; refine (cO _).mono ?_; rintro e w' ⟨rfl, rfl⟩)
          | (go_at_call 44; refine (cF _ hB).mono ?_; rintro e w' ⟨rfl, hw⟩; subst w'))
        go_ret
        exact ⟨rfl, hBa.out _ hB⟩
      | false =>
        have hbd := hb.1 rfl
        match n, hn with
        | 0, hn =>
          have el : l = [] := List.length_eq_zero_iff.1 hn.symm
          have ec : c = 0 := by
            rcases h2 with ⟨h, _⟩ | ⟨_, e⟩
            · rw [el] at h; exact absurd (Cn.nil P) h
            · exact e
          subst ec
          rw [← hn] at hl ⊢
          rw [← hn] at cF
          clear h2 hb hbd hrow hn hm el
          go_enter Try.func43, Try.ntmps43
          go_wp2_with (first
            | (go_at_call 54; refine (cP _).mono ?_; rintro e w1 ⟨rfl, hB⟩)
            | (go_at_call 55; refine (cO _).mono ?_; rintro e w' ⟨rfl, rfl⟩)
            | (go_at_call 44; refine (cF _ hB).mono ?_; rintro e w' ⟨rfl, hw⟩; subst w'))
          go_ret
          exact ⟨rfl, hBa.out _ hB⟩
        | m + 1, hn =>
          have hiff := Cn.iff_bd (p := P) hn.symm
          have cL := fun w1 (hB : Below w.heap.size w w1) => last_row ao cap m l (by omega) hm w1 (irow_below hrow hB (Nat.le_refl _))
          have ec : c = if co l m = 0 then 4 else 0 := by
            by_cases h0 : co l m = 0
            · rw [if_pos h0]
              rcases h2 with ⟨_, e⟩ | ⟨h, _⟩
              · exact e
              · exact absurd h0 (hiff.1 h).2
            · rw [if_neg h0]
              rcases h2 with ⟨h, _⟩ | ⟨_, e⟩
              · exact absurd (hiff.2 ⟨hbd, h0⟩) h
              · exact e
          rw [← hn] at hl ⊢
          rw [← hn] at cF
          generalize co l m = x at *
          have hl' : decide ((13 : Int) < (m : Int) + 1) = false := by simp; omega
          clear h2 hb hbd hrow hn hm hiff
          by_cases h0 : x = 0
          · rw [if_pos h0] at ec
            subst h0 ec
            go_enter Try.func43, Try.ntmps43
            go_wp2_with (first
              | (go_at_call 54; refine (cP _).mono ?_; rintro e w1 ⟨rfl, hB⟩)
              | (go_at_call 55; refine (cO _).mono ?_; rintro e w' ⟨rfl, rfl⟩)
              | (go_at_call 44; refine (cF _ hB).mono ?_; rintro e w' ⟨rfl, hw⟩; subst w')
              | (go_at_call 56; refine (cL _ (hBa.out _ hB)).mono ?_; rintro e w' ⟨rfl, hw⟩; subst w'))
            go_ret
            exact ⟨rfl, hBa.out _ hB⟩
          · rw [if_neg h0] at ec
            subst ec
            have h0' : (x == 0) = false := by simpa using h0
            go_enter Try.func43, Try.ntmps43
            go_wp2_with (first
              | (go_at_call 54; refine (cP _).mono ?_; rintro e w1 ⟨rfl, hB⟩)
              | (go_at_call 55; refine (cO _).mono ?_; rintro e w' ⟨rfl, rfl⟩)
              | (go_at_call 44; refine (cF _ hB).mono ?_; rintro e w' ⟨rfl, hw⟩; subst w')
              | (go_at_call 56; refine (cL _ (hBa.out _ hB)).mono ?_; rintro e w' ⟨rfl, hw⟩; subst w'))
            go_ret
            exact ⟨rfl, hBa.out _ hB⟩

end Go.Proofs.Ytpnmepobdnclkaa.Calls57
