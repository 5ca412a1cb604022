/-
  Plain arithmetic of waves, for the laws by name.
-/
import Derived.Test.YtpnjpkmlfbcnjabNum58
namespace Go.Proofs.Ytpnjpkmlfbcnjab.Num59
set_option linter.unusedVariables false
open Go.Proofs.Ytpnjpkmlfbcnjab.Num34 (su)
open Go.Proofs.Ytpnjpkmlfbcnjab.Num41 Go.Proofs.Ytpnjpkmlfbcnjab.Num42 Go.Proofs.Ytpnjpkmlfbcnjab.Num43 Go.Proofs.Ytpnjpkmlfbcnjab.Num57 Go.Proofs.Ytpnjpkmlfbcnjab.Num58

/-- Sums of products of sums of products. -/
theorem an_twice {m f : Nat} (hf : f < 2 ^ 2 ^ m) : an m (an m f) = f := by
  have h : ∀ x, x < 2 ^ m → ab m (an m f) x = bt f x := fun x hx => by
    have h1 := ab_int m (an m f) x
    have h2 := bl_twice m x (bv f) hx
    have h3 := bl_congr (n := m) (u := x) (f := bv (an m f)) (g := fun u => bl m u (bv f)) (fun u hu => by
      show (2 : Int) ∣ ((bt (an m f) u : Nat) : Int) - _
      rw [an_bit hu, ab_int]
      omega)
    have h4 : bv f x = ((bt f x : Nat) : Int) := rfl
    have h5 := bt_lt f x
    rw [h4] at h2
    omega
  show bs (ab m (an m f)) (2 ^ m) = f
  rw [bs_congr (m := 2 ^ m) (fun x hx => h x hx)]
  exact bs_whole hf

/-- The way back, up to k. -/
def bk (m f x k : Nat) : Int := su (fun u => wf m f u * chi m u x) k

theorem bk_step {m f x : Nat} (hm : m ≤ 5) (hx : x < 2 ^ m) (u : Nat) :
    (on 5 (u &&& x) % 2 = 0 → bk m f x (u + 1) = bk m f x u + wf m f u) ∧ (¬ on 5 (u &&& x) % 2 = 0 → bk m f x (u + 1) = bk m f x u - wf m f u) := by
  have e : bk m f x (u + 1) = bk m f x u + wf m f u * chi m u x := rfl
  have e2 : chi m u x = sg (on 5 (u &&& x)) := by
    rw [chi_on, on_five hm (by rw [Nat.and_comm]; exact and_lt hx)]
  rw [e, e2]
  unfold sg
  constructor
  · intro h; rw [if_pos h]; omega
  · intro h; rw [if_neg h]; omega

theorem bk_end {m f x : Nat} (hx : x < 2 ^ m) : bk m f x (2 ^ m) = 2 ^ m * (1 - 2 * bv f x) := by
  have h := waves_back m (fun x => sn (bv f x)) x hx
  rw [s2_su] at h
  exact h

theorem dg_le {h : Nat → Nat} {c : Int} (hc : -1 ≤ c) : ∀ M, (∀ u, u < M → h u = 1 → ((on 5 u : Nat) : Int) ≤ c) → dg h M ≤ c
  | 0, _ => hc
  | M + 1, H => by
    have ih := dg_le hc M (fun u hu => H u (by omega))
    show (if _ then _ else _) ≤ c
    by_cases e : h M = 1 ∧ dg h M < ((on 5 M : Nat) : Int)
    · rw [if_pos e]
      exact H M (by omega) e.1
    · rw [if_neg e]
      exact ih

theorem dg_ge {h : Nat → Nat} : ∀ M u, u < M → h u = 1 → ((on 5 u : Nat) : Int) ≤ dg h M
  | 0, u, hu, _ => absurd hu (by omega)
  | M + 1, u, hu, hh => by
    show _ ≤ (if _ then _ else _)
    by_cases e : h M = 1 ∧ dg h M < ((on 5 M : Nat) : Int)
    · rw [if_pos e]
      by_cases e2 : u = M
      · subst e2; omega
      · have := dg_ge M u (by omega) hh
        omega
    · rw [if_neg e]
      by_cases e2 : u = M
      · subst e2
        have : ¬ dg h u < ((on 5 u : Nat) : Int) := fun k => e ⟨hh, k⟩
        omega
      · exact dg_ge M u (by omega) hh

theorem ab_one {m f u : Nat} (h : ab m f u = 1) : ¬ (2 : Int) ∣ bl m u (bv f) := by
  have := ab_int m f u
  rw [h] at this
  omega

theorem one_ab {m f u : Nat} (h : ¬ (2 : Int) ∣ bl m u (bv f)) : ab m f u = 1 := by
  have h1 := ab_int m f u
  have h2 := ab_lt m f u
  omega

theorem df_le {m f : Nat} (hm : m ≤ 5) : df m f ≤ m :=
  dg_le (by omega) _ (fun u hu _ => by rw [on_five hm hu]; have := on_le m u; omega)

/-- SIEGENTHALER. -/
theorem df_im {m f q : Nat} (hm : m ≤ 5) (hq : q ≤ m) (h : Im m (bv f) q) : df m f + q ≤ m := by
  have : df m f ≤ (m : Int) - q := dg_le (by omega) _ (fun u hu h1 => by
    rw [on_five hm hu]
    rcases Nat.lt_or_ge m (on m u + q) with k | k
    · exact absurd (siegenthaler hq h k) (ab_one h1)
    · omega)
  omega

theorem im_none {m f : Nat} (hm : m ≤ 5) : ImW m f 0 (2 ^ m) := fun u hu h1 h2 => by
  rw [on_five hm hu] at h2
  have := on_pos hu (by omega)
  omega

theorem sn_sq2 (f x : Nat) : sn (bv f x) * sn (bv f x) = 1 := sn_sq (bv_two f x)

/-- All waves are as high as the first one, up to k. -/
def BentK (m f k : Nat) : Prop := ∀ u, u < k → wf m f u = wf m f 0 ∨ wf m f u = -wf m f 0

/-- ROTHAUS. -/
theorem bent_all {m f : Nat} (h : BentK m f (2 ^ m)) : m % 2 = 0 ∧ (m = 4 → df m f = 2) := by
  have hb : Bent m (fun x => sn (bv f x)) := h
  refine ⟨bent_even hb (fun x _ => sn_sq2 f x), fun e => ?_⟩
  subst e
  obtain ⟨h1, u, hu, h2, h3⟩ := rothaus4 (f := bv f) (fun x _ => bv_two f x) hb
  have g1 : df 4 f ≤ 2 := dg_le (by omega) _ (fun u hu h => by
    rw [on_five (by omega) hu]
    rcases Nat.lt_or_ge (on 4 u) 3 with k | k
    · omega
    · exact absurd (h1 u hu k) (ab_one h))
  have g2 : ((on 5 u : Nat) : Int) ≤ df 4 f := dg_ge _ u hu (one_ab h3)
  rw [on_five (by omega) hu] at g2
  omega

end Go.Proofs.Ytpnjpkmlfbcnjab.Num59
