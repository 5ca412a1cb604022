/-
  Plain arithmetic, without the model: how products of prime powers grow, one power at a time.
-/
import Derived.Test.YtjpmkcijkcnfiaaNum
namespace Go.Proofs.Ytjpmkcijkcnfiaa.Num4
set_option linter.unusedVariables false
open Go.Proofs.Ytjpmkcijkcnfiaa.Num

theorem take_snoc {l : List (Nat × Nat)} {k : Nat} (h : k < l.length) : l.take (k + 1) = l.take k ++ [l.getD k (0, 0)] := by
  rw [List.take_add_one]
  simp [List.getD, h]

theorem pd_take {l : List (Nat × Nat)} {k : Nat} (h : k < l.length) : pd (l.take (k + 1)) = pd (l.take k) * (l.getD k (0, 0)).1 ^ (l.getD k (0, 0)).2 := by
  rw [take_snoc h, pd_append]; simp [pd]

theorem pd_take_le {m : Nat} {l : List (Nat × Nat)} (hF : Fac m l) (k : Nat) : pd (l.take k) ≤ m := by
  have h : pd (l.take k) * pd (l.drop k) = m := by rw [← pd_append, List.take_append_drop]; exact hF.2.2
  have h1 : 1 ≤ pd (l.drop k) := pd_pos (fun x hx => hF.1 x (List.mem_of_mem_drop hx))
  have h2 : pd (l.take k) * 1 ≤ pd (l.take k) * pd (l.drop k) := Nat.mul_le_mul_left _ h1
  omega

theorem pd_take_pos {m : Nat} {l : List (Nat × Nat)} (hF : Fac m l) (k : Nat) : 1 ≤ pd (l.take k) :=
  pd_pos (fun x hx => hF.1 x (List.mem_of_mem_take hx))

/-- Inside one power. -/
theorem inner_le {m : Nat} {l : List (Nat × Nat)} (hF : Fac m l) {k j : Nat} (h : k < l.length) (hj : j ≤ (l.getD k (0, 0)).2) : pd (l.take k) * (l.getD k (0, 0)).1 ^ j ≤ m := by
  refine Nat.le_trans ?_ (pd_take_le hF (k + 1))
  rw [pd_take h]
  have hp : Pr (l.getD k (0, 0)).1 := (hF.1 _ (by simp [List.getD, h])).1
  exact Nat.mul_le_mul_left _ (Nat.pow_le_pow_right (by have := hp.1; omega) hj)

theorem elem_facts {m : Nat} {l : List (Nat × Nat)} (hF : Fac m l) {k : Nat} (h : k < l.length) : Pr (l.getD k (0, 0)).1 ∧ 1 ≤ (l.getD k (0, 0)).2 := hF.1 _ (by simp [List.getD, h])

theorem elem_le {m : Nat} {l : List (Nat × Nat)} (hF : Fac m l) (hm : 1 ≤ m) {k : Nat} (h : k < l.length) : (l.getD k (0, 0)).1 ≤ m := by
  have hd := mem_dvd_pd hF.1 (show l.getD k (0, 0) ∈ l by simp [List.getD, h])
  rw [hF.2.2] at hd
  exact Nat.le_of_dvd (by omega) hd

theorem elem_exp {m : Nat} {l : List (Nat × Nat)} (hF : Fac m l) (hm : m ≤ 1048576) {k : Nat} (h : k < l.length) : (l.getD k (0, 0)).2 ≤ 20 := by
  have h1 := inner_le hF h (Nat.le_refl _)
  have h2 := pd_take_pos hF k
  obtain ⟨hp, _⟩ := elem_facts hF h
  have h3 : 1 * (l.getD k (0, 0)).1 ^ (l.getD k (0, 0)).2 ≤ pd (l.take k) * (l.getD k (0, 0)).1 ^ (l.getD k (0, 0)).2 := Nat.mul_le_mul_right _ h2
  exact exp_le (m := 1) (n := (l.getD k (0, 0)).1 ^ (l.getD k (0, 0)).2) hp.1 (Nat.le_refl _) (by simp) (by omega)

theorem elem_rise {m : Nat} {l : List (Nat × Nat)} (hF : Fac m l) {k : Nat} (h : k < l.length) (h0 : 0 < k) : (l.getD (k - 1) (0, 0)).1 < (l.getD k (0, 0)).1 := by
  have := List.pairwise_iff_getElem.1 hF.2.1 (k - 1) k (by omega) h (by omega)
  simpa [List.getD, h, show k - 1 < l.length by omega] using this

/-- A list that has been looked at so far: primes, rising, each at least once. -/
def Rising (l : List (Nat × Nat)) : Prop := (∀ x ∈ l, Pr x.1 ∧ 1 ≤ x.2) ∧ l.Pairwise (fun x y => x.1 < y.1)

theorem good_nil : Rising [] := ⟨by simp, by simp⟩

theorem good_snoc {l : List (Nat × Nat)} (h : Rising l) {p k : Nat} (hp : Pr p) (hk : 1 ≤ k) (hr : 0 < l.length → (l.getD (l.length - 1) (0, 0)).1 < p) : Rising (l ++ [(p, k)]) := by
  refine ⟨?_, ?_⟩
  · intro x hx
    rcases List.mem_append.1 hx with hx | hx
    · exact h.1 x hx
    · simp at hx; subst hx; exact ⟨hp, hk⟩
  · refine List.pairwise_append.2 ⟨h.2, by simp, fun x hx y hy => ?_⟩
    simp at hy; subst hy
    obtain ⟨j, hj, rfl⟩ := List.getElem_of_mem hx
    have h1 := hr (by omega)
    rw [List.getD, List.getElem?_eq_getElem (by omega)] at h1
    simp at h1
    by_cases e : j = l.length - 1
    · subst e; exact h1
    · have := List.pairwise_iff_getElem.1 h.2 j (l.length - 1) hj (by omega) (by omega)
      simp at this ⊢; omega

end Go.Proofs.Ytjpmkcijkcnfiaa.Num4
