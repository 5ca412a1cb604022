/-
  Plain arithmetic, without the model: which power it is, by great and small steps; the least number whose powers are all.
-/
import Derived.Test.YtlpbohkjiddelaaNum19
import Derived.Test.YtlpbohkjiddelaaFoldB
namespace Go.Proofs.Ytlpbohkjiddelaa.Num32
set_option linter.unusedVariables false
open Go.Proofs.Ytlpbohkjiddelaa.Num Go.Proofs.Ytlpbohkjiddelaa.Num2 Go.Proofs.Ytlpbohkjiddelaa.Num3 Go.Proofs.Ytlpbohkjiddelaa.Num6 Go.Proofs.Ytlpbohkjiddelaa.Num7 Go.Proofs.Ytlpbohkjiddelaa.Num8 Go.Proofs.Ytlpbohkjiddelaa.Num13 Go.Proofs.Ytlpbohkjiddelaa.Num19

/-- The least exponent. -/
def LogIs (g a p k : Nat) : Prop := g ^ k % p = a ∧ ∀ j, j < k → ¬ g ^ j % p = a

/-- There is none. -/
def NoLog (g a p : Nat) : Prop := ∀ k, ¬ g ^ k % p = a

theorem log_of {g a p k : Nat} (h : g ^ k % p = a) : ∃ j, LogIs g a p j ∧ j ≤ k := by
  obtain ⟨j, h1, h2, h3⟩ := least_ex (P := fun k => g ^ k % p = a) k h
  exact ⟨j, ⟨h1, h3⟩, h2⟩

theorem log_or (g a p : Nat) : (∃ k, LogIs g a p k) ∨ NoLog g a p := by
  by_cases h : ∃ k, g ^ k % p = a
  · obtain ⟨k, hk⟩ := h
    obtain ⟨j, hj, _⟩ := log_of hk
    exact .inl ⟨j, hj⟩
  · exact .inr fun k hk => h ⟨k, hk⟩

theorem LogIs.uniq {g a p k j : Nat} (h : LogIs g a p k) (h' : LogIs g a p j) : k = j := by
  rcases Nat.lt_trichotomy k j with e | e | e
  · exact absurd h.1 (h'.2 k e)
  · exact e
  · exact absurd h'.1 (h.2 j e)

theorem cop_small {g p : Nat} (hp : Pr p) (h1 : 1 ≤ g) (h2 : g < p) : Nat.gcd g p = 1 :=
  (gcd_prime hp).2 fun h => by have := Nat.le_of_dvd h1 h; omega

theorem LogIs.lt_ord {g a p k o : Nat} (hp : 1 ≤ p) (ho : IsOrd g p o) (h : LogIs g a p k) : k < o := by
  rcases Nat.lt_or_ge k o with e | e
  · exact e
  · exfalso
    have hl := Nat.mod_lt k (show o > 0 from ho.1)
    exact h.2 (k % o) (by omega) (((pow_same hp ho).2 (Nat.mod_mod k o)).trans h.1)

theorem log_small {g a p k o : Nat} (hp : 1 ≤ p) (ho : IsOrd g p o) (h : g ^ k % p = a) (hk : k < o) : LogIs g a p k := by
  refine ⟨h, fun j hj e => ?_⟩
  have := (pow_same hp ho).1 (e.trans h.symm)
  rw [Nat.mod_eq_of_lt hk, Nat.mod_eq_of_lt (by omega)] at this
  omega

theorem tot_prime {p : Nat} (hp : Pr p) : tot p = p - 1 := by
  have h := tot_out (p := p) (m := 1) hp (fun hd => by have := Nat.le_of_dvd (by omega) hd; have := hp.1; omega)
  rw [Nat.mul_one, tot_one, Nat.mul_one] at h
  exact h

theorem ord_lt {g p o : Nat} (hp : Pr p) (ho : IsOrd g p o) : o < p := by
  have h2 := hp.1
  have hcop := cop_of_pow (by omega) ho.1 ho.2.1
  obtain ⟨o', ho', hd⟩ := ord_ex (by omega) hcop
  rw [ho.uniq ho']
  have h3 := Nat.le_of_dvd (tot_pos (by omega)) hd
  have h4 : tot p = p - 1 := tot_prime hp
  omega

theorem LogIs.lt {g a p k : Nat} (hp : Pr p) (hg : g < p) (h : LogIs g a p k) : k < p := by
  have h2 := hp.1
  rcases Nat.eq_zero_or_pos g with e | e
  · subst e
    rcases Nat.lt_or_ge k 2 with e | e
    · omega
    · exfalso
      refine h.2 1 (by omega) ?_
      rw [← h.1, Nat.zero_pow (by omega), Nat.zero_pow (by omega)]
  · obtain ⟨o, ho, _⟩ := ord_ex (by omega) (cop_small hp e hg)
    have := h.lt_ord (by omega) ho
    have := ord_lt hp ho
    omega

theorem zero_one {p : Nat} (hp : 2 ≤ p) : LogIs 0 1 p 0 := ⟨by rw [Nat.pow_zero]; exact Nat.mod_eq_of_lt (by omega), fun j hj => by omega⟩

theorem zero_zero {p : Nat} (hp : 2 ≤ p) : LogIs 0 0 p 1 := by
  refine ⟨by simp, fun j hj e => ?_⟩
  obtain rfl : j = 0 := by omega
  rw [Nat.pow_zero, Nat.mod_eq_of_lt (by omega)] at e
  omega

theorem zero_none {a p : Nat} (hp : 2 ≤ p) (h0 : ¬ a = 0) (h1 : ¬ a = 1) : NoLog 0 a p := fun k e => by
  rcases Nat.eq_zero_or_pos k with h | h
  · subst h
    rw [Nat.pow_zero, Nat.mod_eq_of_lt (by omega)] at e
    omega
  · rw [Nat.zero_pow (by omega), Nat.zero_mod] at e
    omega

/-- Once the powers come round, all of them are there. -/
theorem LogIs.round {g x p k i kk : Nat} (hi : i < k) (he : g ^ i % p = g ^ k % p) (h : LogIs g x p kk) : kk < k := by
  rcases Nat.lt_or_ge kk k with e | e
  · exact e
  · exfalso
    refine h.2 (kk - k + i) (by omega) ?_
    rw [← h.1, show g ^ kk = g ^ (kk - k + k) by rw [Nat.sub_add_cancel e], Nat.pow_add, Nat.pow_add, Nat.mul_mod, he, ← Nat.mul_mod]

/-- Behind i great steps back. -/
structure Big (g a p W i ai : Nat) : Prop where
  lt : ai < p
  at_ : ai * g ^ (i * W) % p = a
  not : ∀ j, j < i * W → ¬ g ^ j % p = a

theorem Big.start {g a p W : Nat} (h : a < p) : Big g a p W 0 a := ⟨h, by simp [Nat.mod_eq_of_lt h], fun j hj => by simp at hj⟩

theorem big_same {g p ai n t : Nat} (hp : ai < p) (hc : Nat.gcd g p = 1) : g ^ (n + t) % p = ai * g ^ n % p ↔ g ^ t % p = ai := by
  constructor
  · intro h
    have h2 : g ^ t * g ^ n % p = ai * g ^ n % p := by rw [← h, ← Nat.pow_add, Nat.add_comm]
    have h3 := cancel h2 (Nat.Coprime.pow_left n hc)
    rwa [Nat.mod_eq_of_lt hp] at h3
  · intro h
    rw [Nat.add_comm, Nat.pow_add, Nat.mul_mod, h, ← Nat.mod_eq_of_lt hp, ← Nat.mul_mod, Nat.mod_eq_of_lt hp]

theorem Big.found {g a p W i ai s : Nat} (hc : Nat.gcd g p = 1) (h : Big g a p W i ai) (hs : LogIs g ai p s) : LogIs g a p (i * W + s) := by
  refine ⟨by rw [← h.at_]; exact (big_same h.lt hc).2 hs.1, fun j hj e => ?_⟩
  rcases Nat.lt_or_ge j (i * W) with h1 | h1
  · exact h.not j h1 e
  · obtain ⟨t, rfl⟩ : ∃ t, j = i * W + t := ⟨j - i * W, by omega⟩
    rw [← h.at_] at e
    exact hs.2 t (by omega) ((big_same h.lt hc).1 e)

theorem Big.next {g a p W i ai back : Nat} (hp : 1 ≤ p) (hc : Nat.gcd g p = 1) (h : Big g a p W i ai) (hn : ∀ t, t < W → ¬ g ^ t % p = ai) (hb : back * g ^ W % p = 1 % p) : Big g a p W (i + 1) (ai * back % p) := by
  refine ⟨Nat.mod_lt _ (by omega), ?_, fun j hj e => ?_⟩
  · rw [← h.at_, Nat.mod_mul_mod, Nat.add_mul, Nat.one_mul, Nat.pow_add,
      show ai * back * (g ^ (i * W) * g ^ W) = ai * g ^ (i * W) * (back * g ^ W) by ac_rfl, Nat.mul_mod, hb, ← Nat.mul_mod, Nat.mul_one]
  · rcases Nat.lt_or_ge j (i * W) with h1 | h1
    · exact h.not j h1 e
    · obtain ⟨t, rfl⟩ : ∃ t, j = i * W + t := ⟨j - i * W, by omega⟩
      rw [← h.at_] at e
      rw [Nat.add_mul] at hj
      exact hn t (by omega) ((big_same h.lt hc).1 e)

theorem Big.done {g a p W ai : Nat} (hp : Pr p) (hg : g < p) (hW : p ≤ W * W) (h : Big g a p W W ai) : NoLog g a p := by
  rcases log_or g a p with ⟨k, hk⟩ | h1
  · exact absurd hk.1 (h.not k (by have := hk.lt hp hg; omega))
  · exact h1

/-- The least whose powers are all. -/
structure BaseIs (p g : Nat) : Prop where
  one : 1 ≤ g
  lt : g < p
  ord : IsOrd g p (p - 1)
  least : ∀ j, 1 ≤ j → j < g → ¬ IsOrd j p (p - 1)

theorem base_ex {p : Nat} (hp : Pr p) : ∃ g, BaseIs p g := by
  have h2 := hp.1
  obtain ⟨g, hg⟩ := prim_ex hp
  have hl := Nat.mod_lt g (show p > 0 by omega)
  have hg' := isOrd_mod.2 hg
  have h1 : 1 ≤ g % p := by
    rcases Nat.eq_zero_or_pos (g % p) with e | e
    · exfalso
      rw [e] at hg'
      have h3 := hg'.2.1
      rw [Nat.zero_pow (by omega), Nat.zero_mod, Nat.mod_eq_of_lt (by omega)] at h3
      omega
    · exact e
  obtain ⟨k, ⟨k1, k2⟩, k3, k4⟩ := least_ex (P := fun k => 1 ≤ k ∧ IsOrd k p (p - 1)) (g % p) ⟨h1, hg'⟩
  exact ⟨k, k1, by omega, k2, fun j j1 j2 h => k4 j j2 ⟨j1, h⟩⟩

theorem BaseIs.log {p g a : Nat} (hp : Pr p) (h : BaseIs p g) (ha1 : 1 ≤ a) (ha2 : a < p) : ∃ k, LogIs g a p k ∧ k < p - 1 := by
  obtain ⟨k, k1, k2⟩ := log_ex hp h.ord (a := a) (by rw [Nat.mod_eq_of_lt ha2]; omega)
  rw [Nat.mod_eq_of_lt ha2] at k2
  obtain ⟨j, j1, j2⟩ := log_of k2
  exact ⟨j, j1, by omega⟩

theorem LogIs.add {g a b p j k o : Nat} (hp : 1 ≤ p) (ho : IsOrd g p o) (h : LogIs g a p j) (h' : LogIs g b p k) : LogIs g (a * b % p) p ((j + k) % o) := by
  refine log_small hp ho ?_ (Nat.mod_lt _ ho.1)
  rw [(pow_same hp ho).2 (Nat.mod_mod (j + k) o), Nat.pow_add, Nat.mul_mod, h.1, h'.1]

end Go.Proofs.Ytlpbohkjiddelaa.Num32
