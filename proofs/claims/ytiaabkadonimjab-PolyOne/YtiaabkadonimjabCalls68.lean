/-
  The statements' questions: may some polynomials be; does one divide another one.
-/
import Derived.Test.YtiaabkadonimjabCalls63
namespace Go.Proofs.Ytiaabkadonimjab.Calls68
set_option linter.unusedVariables false
open Go.ChangeShapes Go.WideShapes Go.ChangeAt Go.RowKit Go.Deep Go.Proofs.Ytiaabkadonimjab.Base Go.Proofs.Ytiaabkadonimjab.Base2 Go.Proofs.Ytiaabkadonimjab.Num Go.Proofs.Ytiaabkadonimjab.Num13 Go.Proofs.Ytiaabkadonimjab.Num16 Go.Proofs.Ytiaabkadonimjab.Num17 Go.Proofs.Ytiaabkadonimjab.Num34 Go.Proofs.Ytiaabkadonimjab.Num35 Go.Proofs.Ytiaabkadonimjab.Base4 Go.Proofs.Ytiaabkadonimjab.Calls56 Go.Proofs.Ytiaabkadonimjab.Calls57 Go.Proofs.Ytiaabkadonimjab.Calls58 Go.Proofs.Ytiaabkadonimjab.Calls59 Go.Proofs.Ytiaabkadonimjab.Calls60 Go.Proofs.Ytiaabkadonimjab.Calls62 Go.Proofs.Ytiaabkadonimjab.Calls63

/-- All is in order so far. -/
def Good (c : Nat → Int) (k : Nat) : Prop := ∀ i, i < k → c i = 0

set_option maxRecDepth 100000 in
theorem sound_any (p : Int) (g N : Nat) (hN : N ≤ 4) (O : Nat → Option Addr) (C : Nat → Nat) (L : Nat → List Int) (hl : ∀ i, i < N → (L i).length ≤ 9223372036854775807) (c : Nat → Int) (hc : ∀ i, i < N → PC p (L i) (c i)) (b : Bool) (hb : b = true ↔ Good c N) (w : World)
    (hcell : ∀ i, i < N → w.cell? ⟨g, i, none⟩ = some (.slice (O i) (L i).length (C i))) (hrow : ∀ i, i < N → IRow w (O i) (L i)) :
    Calls Try.prog 14 #[.int .i64 p, .slice (some ⟨g, 0, none⟩) N N] w fun e w' => e = .returned (.bool b) ∧ w' = w := by
  have cC := fun i (hi : i < N) => refPolyCheck_any p (O i) (C i) (L i) (hl i hi) (c i) (hc i hi) w (hrow i hi)
  have HC := hid hcell
  have HB : Hid (b = true ↔ Good c N) := hb
  clear hb hcell hrow hc hl
  go_enter Try.func14, Try.ntmps14
  go_wp2
  go_loop [9] (fun i => ∃ k : Nat, i = .int .i64 (k : Int) ∧ k ≤ N ∧ Hid (Good c k)) (fun i => ((N : Int) - intOf i).toNat)
  case atStart => exact ⟨0, rfl, by omega, fun i hi => absurd hi (by omega)⟩
  case round =>
    obtain ⟨k, rfl, hk, hG⟩ := hrel
    by_cases hgo : k < N
    · have hgo' : (k : Int) < (N : Int) := by omega
      have d1 := HC.out k hgo
      have cC1 := cC k hgo
      by_cases h0 : c k = 0
      · have hG2 : Hid (Good c (k + 1)) := fun i hi => by
          by_cases e : i = k
          · subst e; exact h0
          · exact hG.out i (by omega)
        rw [h0] at cC1
        generalize (L k).length = n at *
        generalize O k = o at *
        generalize C k = cc at *
        clear h0 cC
        go_wp2_with (go_at_call 37; refine cC1.mono ?_; rintro e w2 ⟨rfl, hw⟩; subst w2)
        go_round
        case rel => exact ⟨k + 1, by simp, by omega, hG2⟩
        case measure => exact measK hgo
      · have eb : b = false := by
          cases b
          · rfl
          · exact absurd (HB.out.1 rfl k hgo) h0
        subst eb
        generalize (L k).length = n at *
        generalize O k = o at *
        generalize C k = cc at *
        generalize c k = x at *
        have h1 : (x != 0) = true := by simpa using h0
        clear cC
        go_wp2_with (go_at_call 37; refine cC1.mono ?_; rintro e w2 ⟨rfl, hw⟩; subst w2)
        go_ret
        exact ⟨rfl, rfl⟩
    · have hgo' : ¬ (k : Int) < (N : Int) := by omega
      obtain rfl : k = N := by omega
      have eb : b = true := HB.out.2 hG.out
      subst eb
      go_wp2
      go_ret
      exact ⟨rfl, rfl⟩

theorem sound1 (p : Int) (ao : Option Addr) (ca : Nat) (a : List Int) (ma : a.length ≤ 9223372036854775807) (c : Int) (hc : PC p a c) (b : Bool) (hb : b = true ↔ c = 0) (w : World) (ra : IRow w ao a) :
    Calls Try.prog 14 #[.int .i64 p, .slice (some ⟨w.heap.size, 0, none⟩) 1 1] (w.alloc (.cells #[.slice ao a.length ca] 23)) fun e w' => e = .returned (.bool b) ∧ w' = w.alloc (.cells #[.slice ao a.length ca] 23) := by
  refine sound_any p w.heap.size 1 (by omega) (fun _ => ao) (fun _ => ca) (fun _ => a) (fun _ _ => ma) (fun _ => c) (fun _ _ => hc) b ?_ _ ?_ ?_
  · rw [hb]; exact ⟨fun h _ _ => h, fun h => h 0 (by omega)⟩
  · intro i hi
    obtain rfl : i = 0 := by omega
    simp
  · intro i hi
    exact irow_below ra ((Below.refl _ w).alloc (Nat.le_refl _) _) (Nat.le_refl _)

theorem sound2 (p : Int) (ao bo : Option Addr) (ca cb : Nat) (a b : List Int) (ma : a.length ≤ 9223372036854775807) (mb : b.length ≤ 9223372036854775807) (c d : Int) (hc : PC p a c) (hd : PC p b d) (s : Bool) (hs : s = true ↔ cd2 c d = 0) (w : World) (ra : IRow w ao a) (rb : IRow w bo b) :
    Calls Try.prog 14 #[.int .i64 p, .slice (some ⟨w.heap.size, 0, none⟩) 2 2] (w.alloc (.cells #[.slice ao a.length ca, .slice bo b.length cb] 23)) fun e w' => e = .returned (.bool s) ∧ w' = w.alloc (.cells #[.slice ao a.length ca, .slice bo b.length cb] 23) := by
  refine sound_any p w.heap.size 2 (by omega) (fun i => if i = 0 then ao else bo) (fun i => if i = 0 then ca else cb) (fun i => if i = 0 then a else b) (fun i _ => by split <;> assumption) (fun i => if i = 0 then c else d) (fun i _ => by split <;> assumption) s ?_ _ ?_ ?_
  · rw [hs]
    constructor
    · intro h i hi
      obtain ⟨rfl, rfl⟩ := cd2_zero h
      dsimp only; split <;> rfl
    · intro h
      have h0 := h 0 (by omega)
      have h1 := h 1 (by omega)
      simp at h0 h1
      rw [h0, h1]; rfl
  · intro i hi
    have : i = 0 ∨ i = 1 := by omega
    rcases this with rfl | rfl <;> simp
  · intro i hi
    have : i = 0 ∨ i = 1 := by omega
    rcases this with rfl | rfl
    · exact irow_below ra ((Below.refl _ w).alloc (Nat.le_refl _) _) (Nat.le_refl _)
    · exact irow_below rb ((Below.refl _ w).alloc (Nat.le_refl _) _) (Nat.le_refl _)

theorem divides_yes (P : Nat) (hP : Pr P) (hP2 : P ≤ 251) (ao bo : Option Addr) (ca cb : Nat) (a d : List Int) (ha : a.length ≤ 13) (hd : d.length ≤ 13) (nd : d ≠ []) (hca : Cn P a) (hcd : Cn P d) (b : Bool) (hb : b = true ↔ Dv P d a) (w : World) (ra : IRow w ao a) (rb : IRow w bo d) :
    Calls Try.prog 17 #[.int .i64 (P : Int), .slice bo d.length cb, .slice ao a.length ca] w fun e w' => e = .returned (.bool b) ∧ Below w.heap.size w w' := by
  have cD := Div_yes P hP hP2 ao bo ca cb a d ha hd nd hca hcd w ra rb
  have HI : Hid (∀ q r, DivIs P a d q r → (b = true ↔ r = [])) := fun q r h => hb.trans (dv_iff hP hcd nd h.1 h.2.1 h.2.2.1 h.2.2.2)
  generalize a.length = na at *
  generalize d.length = nd at *
  clear ra rb hb
  cases b
  · go_enter Try.func17, Try.ntmps17
    go_wp2_with (go_at_call 21; refine cD.mono ?_; rintro e w2 ⟨⟨q, r, hD, o2, c2, o3, c3, rfl, hc2, hr2, hc3, hr3⟩, hB2⟩; have hr0 := HI.out q r hD; obtain ⟨nr, hnr⟩ : ∃ nr, nr = r.length := ⟨_, rfl⟩; rw [← hnr]; have hn0 : ((nr : Int) == 0) = false := (by
      rcases Nat.eq_zero_or_pos nr with h | h
      · rw [h] at hnr; exact absurd (hr0.2 (List.length_eq_zero_iff.1 hnr.symm)) (by simp)
      · simp; omega); clear hD hr2 hr3 hr0 hnr)
    go_ret
    exact ⟨rfl, hB2⟩
  · go_enter Try.func17, Try.ntmps17
    go_wp2_with (go_at_call 21; refine cD.mono ?_; rintro e w2 ⟨⟨q, r, hD, o2, c2, o3, c3, rfl, hc2, hr2, hc3, hr3⟩, hB2⟩; have hr0 := (HI.out q r hD).1 rfl; subst hr0; clear hD hr2 hr3)
    go_ret
    exact ⟨rfl, hB2⟩

end Go.Proofs.Ytiaabkadonimjab.Calls68
