/-
  Plain arithmetic, without the model: what is made of the one before comes round: where the round begins, and how long it is.
-/
import Derived.Test.YtngdhhhdnkkagaaFoldA
namespace Go.Proofs.Ytngdhhhdnkkagaa.Num18
set_option linter.unusedVariables false
open Go.Proofs.Ytngdhhhdnkkagaa.Num Go.Proofs.Ytngdhhhdnkkagaa.Num6 Go.Proofs.Ytngdhhhdnkkagaa.Num12

/-- The number behind k steps. -/
def it (f : Nat → Nat) (x : Nat) : Nat → Nat
  | 0 => x
  | k + 1 => f (it f x k)

theorem it_add (f : Nat → Nat) (x j : Nat) : ∀ k, it f x (j + k) = it f (it f x j) k
  | 0 => rfl
  | k + 1 => by show f (it f x (j + k)) = f _; rw [it_add f x j k]

theorem it_lt {f : Nat → Nat} {x n : Nat} (hx : x < n) (hf : ∀ y, y < n → f y < n) : ∀ k, it f x k < n
  | 0 => hx
  | k + 1 => hf _ (it_lt hx hf k)

theorem it_shift {f : Nat → Nat} {x i j : Nat} (h : it f x i = it f x j) (k : Nat) : it f x (i + k) = it f x (j + k) := by
  rw [it_add, it_add, h]

/-- It comes round from t on, behind s steps. -/
structure Rho (f : Nat → Nat) (x t s : Nat) : Prop where
  pos : 1 ≤ s
  back : it f x (t + s) = it f x t
  only : ∀ i j, i < j → it f x i = it f x j → t ≤ i ∧ s ∣ j - i

theorem back_mul {f : Nat → Nat} {x t s : Nat} (h : it f x (t + s) = it f x t) (m : Nat) : ∀ k, it f x (t + m + k * s) = it f x (t + m)
  | 0 => by simp
  | k + 1 => by
    have e : t + m + (k + 1) * s = (t + s) + (m + k * s) := by rw [Nat.succ_mul]; omega
    rw [e, it_shift h, show t + (m + k * s) = t + m + k * s by omega]
    exact back_mul h m k

theorem Rho.iff {f : Nat → Nat} {x t s : Nat} (h : Rho f x t s) {i j : Nat} (hij : i < j) : it f x i = it f x j ↔ t ≤ i ∧ s ∣ j - i := by
  constructor
  · exact h.only i j hij
  · rintro ⟨h1, k, hk⟩
    have := back_mul h.back (i - t) k
    rw [show t + (i - t) = i by omega, Nat.mul_comm, ← hk, show i + (j - i) = j by omega] at this
    exact this.symm

theorem Rho.uniq {f : Nat → Nat} {x t s t' s' : Nat} (h : Rho f x t s) (h' : Rho f x t' s') : t = t' ∧ s = s' := by
  have a := h.only t' (t' + s') (by have := h'.pos; omega) h'.back.symm
  have b := h'.only t (t + s) (by have := h.pos; omega) h.back.symm
  rw [show t' + s' - t' = s' by omega] at a
  rw [show t + s - t = s by omega] at b
  exact ⟨by omega, Nat.dvd_antisymm a.2 b.2⟩

theorem pigeon {f : Nat → Nat} {n : Nat} (h : ∀ i, f i < n) : ∃ i j, i < j ∧ j ≤ n ∧ f i = f j := by
  rcases Classical.em (∃ i j, i < j ∧ j ≤ n ∧ f i = f j) with h1 | h1
  · exact h1
  · exfalso
    have hn : ((List.range (n + 1)).map f).Nodup := by
      refine List.pairwise_map.2 ?_
      refine (List.nodup_range (n := n + 1)).imp_of_mem (fun {i j} hi hj hne e => ?_)
      have hi' := List.mem_range.1 hi
      have hj' := List.mem_range.1 hj
      rcases Nat.lt_trichotomy i j with h2 | h2 | h2
      · exact h1 ⟨i, j, h2, by omega, e⟩
      · exact hne h2
      · exact h1 ⟨j, i, h2, by omega, e.symm⟩
    have := len_le (m := List.range n) hn (fun x hx => by
      obtain ⟨i, _, rfl⟩ := List.mem_map.1 hx
      exact List.mem_range.2 (h i))
    simp at this
    omega

/-- There is such a round. -/
theorem rho_ex {f : Nat → Nat} {x n : Nat} (hx : x < n) (hf : ∀ y, y < n → f y < n) : ∃ t s, Rho f x t s := by
  obtain ⟨i, j, hij, _, e⟩ := pigeon (it_lt hx hf)
  obtain ⟨t, ⟨j1, ht1, ht2⟩, _, htm⟩ := least_ex (P := fun i => ∃ j, i < j ∧ it f x i = it f x j) i ⟨j, hij, e⟩
  obtain ⟨s, ⟨hs1, hs2⟩, _, hsm⟩ := least_ex (P := fun s => 1 ≤ s ∧ it f x (t + s) = it f x t) (j1 - t) ⟨by omega, by rw [show t + (j1 - t) = j1 by omega]; exact ht2.symm⟩
  refine ⟨t, s, hs1, hs2, fun i j hij e => ?_⟩
  have hti : t ≤ i := by
    rcases Nat.lt_or_ge i t with h | h
    · exact absurd ⟨j, hij, e⟩ (htm i h)
    · exact h
  refine ⟨hti, ?_⟩
  -- moved to a place that is t and some rounds
  have e2 := it_shift e ((i - t) * s - (i - t))
  have hle : i - t ≤ (i - t) * s := Nat.le_mul_of_pos_right _ hs1
  rw [show i + ((i - t) * s - (i - t)) = t + 0 + (i - t) * s by omega, back_mul hs2 0] at e2
  rw [show j + ((i - t) * s - (i - t)) = t + (j - i) + (i - t) * s by omega, back_mul hs2 (j - i)] at e2
  -- what is left of j - i by s is 0
  have e3 := back_mul hs2 ((j - i) % s) ((j - i) / s)
  rw [show t + (j - i) % s + (j - i) / s * s = t + (j - i) by have := Nat.mod_add_div (j - i) s; rw [Nat.mul_comm] at this; omega] at e3
  rcases Nat.eq_zero_or_pos ((j - i) % s) with h0 | h0
  · exact Nat.dvd_of_mod_eq_zero h0
  · exfalso
    have hlt := Nat.mod_lt (j - i) (show s > 0 by omega)
    exact hsm _ hlt ⟨h0, by rw [← e3]; exact e2.symm⟩

/-- All numbers until it has come round are different ones. -/
theorem Rho.le {f : Nat → Nat} {x n t s : Nat} (h : Rho f x t s) (hx : x < n) (hf : ∀ y, y < n → f y < n) : t + s ≤ n := by
  have hn : ((List.range (t + s)).map (it f x)).Nodup := by
    refine List.pairwise_map.2 ?_
    refine (List.nodup_range (n := t + s)).imp_of_mem (fun {i j} hi hj hne e => ?_)
    have hi' := List.mem_range.1 hi
    have hj' := List.mem_range.1 hj
    have key : ∀ i j, i < j → j < t + s → it f x i = it f x j → False := fun i j h1 h2 e => by
      obtain ⟨h3, h4⟩ := h.only i j h1 e
      have := Nat.le_of_dvd (by omega) h4
      omega
    rcases Nat.lt_trichotomy i j with h2 | h2 | h2
    · exact key i j h2 hj' e
    · exact hne h2
    · exact key j i h2 hi' e.symm
  have := len_le (m := List.range n) hn (fun y hy => by
    obtain ⟨i, _, rfl⟩ := List.mem_map.1 hy
    exact List.mem_range.2 (it_lt hx hf i))
  simpa using this

/-- The tortoise meets the hare just where s divides, from t on. -/
theorem Rho.meet {f : Nat → Nat} {x t s : Nat} (h : Rho f x t s) {i : Nat} (hi : 1 ≤ i) : it f x i = it f x (2 * i) ↔ t ≤ i ∧ s ∣ i := by
  rw [h.iff (show i < 2 * i by omega), show 2 * i - i = i by omega]

theorem Rho.meets {f : Nat → Nat} {x t s : Nat} (h : Rho f x t s) : ∃ i, 1 ≤ i ∧ i ≤ t + s ∧ it f x i = it f x (2 * i) := by
  have hs := h.pos
  refine ⟨(t / s + 1) * s, Nat.mul_pos (Nat.succ_pos _) hs, ?_, ?_⟩
  · have := Nat.div_mul_le_self t s
    rw [Nat.succ_mul]; omega
  · refine (h.meet (Nat.mul_pos (Nat.succ_pos _) hs)).2 ⟨?_, Nat.dvd_mul_left _ _⟩
    have := Nat.lt_div_mul_add (a := t) (b := s) hs
    rw [Nat.succ_mul]; omega

/-- What is told of a step earlier. -/
theorem Rho.before {f : Nat → Nat} {x t s : Nat} (h : Rho f x t s) (ht : 1 ≤ t) : ¬ it f x (t - 1) = it f x (t - 1 + s) := fun e => by
  have := (h.only (t - 1) (t - 1 + s) (by have := h.pos; omega) e).1
  omega

theorem Rho.fewer {f : Nat → Nat} {x t s : Nat} (h : Rho f x t s) {k : Nat} (h1 : 1 ≤ k) (h2 : k < s) : ¬ it f x (t + k) = it f x t := fun e => by
  have := (h.only t (t + k) (by omega) e.symm).2
  rw [show t + k - t = k by omega] at this
  have := Nat.le_of_dvd (by omega) this
  omega

end Go.Proofs.Ytngdhhhdnkkagaa.Num18
