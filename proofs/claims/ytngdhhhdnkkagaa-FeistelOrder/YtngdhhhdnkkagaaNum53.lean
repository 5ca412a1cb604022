/-
  Plain arithmetic, without the model: what was seen on the ways round.
-/
import Derived.Test.YtngdhhhdnkkagaaNum52
namespace Go.Proofs.Ytngdhhhdnkkagaa.Num53
set_option linter.unusedVariables false
open Go.Proofs.Ytngdhhhdnkkagaa.Num18 Go.Proofs.Ytngdhhhdnkkagaa.Num52

/-- Whole ways were seen. -/
structure Cl (f : Nat → Nat) (g : Nat → Bool) : Prop where
  lt : ∀ y, g y = true → y < 256
  fore : ∀ y, g y = true → g (f y) = true
  aft : ∀ y, y < 256 → g (f y) = true → g y = true

/-- Seen behind j steps from s on. -/
def Wyd (f : Nat → Nat) (g : Nat → Bool) (s j : Nat) (g' : Nat → Bool) : Prop := ∀ y, g' y = true ↔ (g y = true ∨ ∃ i, i < j ∧ y = it f s i)

theorem Wyd.start (f : Nat → Nat) (g : Nat → Bool) (s : Nat) : Wyd f g s 0 g := fun y => ⟨fun h => .inl h, fun h => by
  rcases h with h | ⟨i, hi, _⟩
  · exact h
  · omega⟩

/-- One number more. -/
def one (g : Nat → Bool) (x : Nat) : Nat → Bool := fun y => if y = x then true else g y

theorem Wyd.next {f : Nat → Nat} {g g' : Nat → Bool} {s j : Nat} (h : Wyd f g s j g') : Wyd f g s (j + 1) (one g' (it f s j)) := fun y => by
  unfold one
  by_cases e : y = it f s j
  · rw [if_pos e]
    exact ⟨fun _ => .inr ⟨j, by omega, e⟩, fun _ => rfl⟩
  · rw [if_neg e, h y]
    constructor
    · rintro (h | ⟨i, hi, h⟩)
      · exact .inl h
      · exact .inr ⟨i, by omega, h⟩
    · rintro (hx | ⟨i, hi, hx⟩)
      · exact .inl hx
      · refine .inr ⟨i, ?_, hx⟩
        by_cases e2 : i = j
        · rw [e2] at hx; exact absurd hx e
        · omega

theorem Wyd.seen {f : Nat → Nat} {g g' : Nat → Bool} {s j k : Nat} (h : Wyd f g s j g') (hT : Turn f 256) (hC : Cl f g) (hs : s < 256) (hg : g s = false) (hR : Rho f s 0 k) (hj : j ≤ k) : g' (it f s j) = true ↔ j = k := by
  rw [h]
  constructor
  · rintro (hx | ⟨i, hi, e⟩)
    · have := aft_way (S := fun y => g y = true) hT hs hC.aft j hx
      rw [hg] at this; cases this
    · by_cases e2 : j = k
      · exact e2
      · have := rho_same hR (by omega) (by omega) e
        omega
  · rintro rfl
    exact .inr ⟨0, hR.pos, (rho_back hR j).mpr (Nat.dvd_refl j)⟩

theorem Wyd.done {f : Nat → Nat} {g g' : Nat → Bool} {s k o : Nat} (h : Wyd f g s k g') (hT : Turn f 256) (hC : Cl f g) (hs : s < 256) (hR : Rho f s 0 k) (ho : OrdOf f (fun y => g y = true) o) :
    Cl f g' ∧ OrdOf f (fun y => g' y = true) (Nat.lcm o k) ∧ g' s = true ∧ ∀ y, g y = true → g' y = true := by
  have hb : it f s k = s := (rho_back hR k).mpr (Nat.dvd_refl k)
  have hp := hR.pos
  have h0 : g' s = true := (h s).2 (.inr ⟨0, by omega, rfl⟩)
  refine ⟨⟨fun y hy => ?_, fun y hy => ?_, fun y hy hf => ?_⟩, ?_, h0, fun y hy => (h y).2 (.inl hy)⟩
  · rcases (h y).1 hy with hx | ⟨i, _, e⟩
    · exact hC.lt y hx
    · rw [e]; exact it_lt hs hT.1 i
  · rcases (h y).1 hy with hx | ⟨i, hi, e⟩
    · exact (h _).2 (.inl (hC.fore y hx))
    · subst e
      by_cases e2 : i + 1 = k
      · have : f (it f s i) = s := by show it f s (i + 1) = s; rw [e2, hb]
        rw [this]; exact h0
      · exact (h _).2 (.inr ⟨i + 1, by omega, rfl⟩)
  · rcases (h _).1 hf with hx | ⟨i, hi, e⟩
    · exact (h y).2 (.inl (hC.aft y hy hx))
    · refine (h y).2 (.inr ?_)
      by_cases e0 : i = 0
      · subst e0
        refine ⟨k - 1, by omega, hT.2 _ _ hy (it_lt hs hT.1 _) ?_⟩
        rw [e]
        show s = it f s (k - 1 + 1)
        rw [show k - 1 + 1 = k by omega, hb]
      · refine ⟨i - 1, by omega, hT.2 _ _ hy (it_lt hs hT.1 _) ?_⟩
        rw [e]
        show it f s i = it f s (i - 1 + 1)
        rw [show i - 1 + 1 = i by omega]
  · refine ho.step hR (fun y hy => (h y).2 (.inl hy)) h0 (fun y hy => ?_)
    rcases (h y).1 hy with hx | ⟨i, _, e⟩
    · exact .inl hx
    · exact .inr ⟨i, e⟩

theorem Cl.none (f : Nat → Nat) : Cl f (fun _ => false) := ⟨fun _ h => (by cases h), fun _ h => (by cases h), fun _ _ h => (by cases h)⟩

theorem lcm_le {f : Nat → Nat} {S T : Nat → Prop} {a b : Nat} (h : OrdOf f S a) (h' : OrdOf f T b) (hs : ∀ x, S x → T x) (hb : b ≤ 2 ^ 58) : a ≤ 2 ^ 58 :=
  Nat.le_trans (Nat.le_of_dvd (by have := h'.1; omega) (h.dvd h' hs)) hb

/-- One number more in order. -/
theorem ord_upto {f : Nat → Nat} {s o k : Nat} (h : OrdOf f (fun x => x < s) o) (hR : Rho f s 0 k) : OrdOf f (fun x => x < s + 1) (Nat.lcm o k) := by
  refine h.step hR (fun y hy => by omega) (by omega) (fun y hy => ?_)
  by_cases e : y = s
  · exact .inr ⟨0, e⟩
  · exact .inl (by omega)

theorem ord_zero (f : Nat → Nat) : OrdOf f (fun x => x < 0) 1 := OrdOf.nil (fun x h => by omega)

end Go.Proofs.Ytngdhhhdnkkagaa.Num53
