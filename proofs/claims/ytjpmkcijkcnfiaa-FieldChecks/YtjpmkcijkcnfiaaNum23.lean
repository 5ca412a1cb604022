/-
  Plain arithmetic, without the model: the elements of a field as numbers; how many there are; Fermat and Gauss there.
-/
import Derived.Test.YtjpmkcijkcnfiaaNum22
namespace Go.Proofs.Ytjpmkcijkcnfiaa.Num23
set_option linter.unusedVariables false
open Go.Proofs.Ytjpmkcijkcnfiaa.Num Go.Proofs.Ytjpmkcijkcnfiaa.Num16 Go.Proofs.Ytjpmkcijkcnfiaa.Num17 Go.Proofs.Ytjpmkcijkcnfiaa.Num20 Go.Proofs.Ytjpmkcijkcnfiaa.Num21 Go.Proofs.Ytjpmkcijkcnfiaa.Num22

/-- The number of a list: the lowest digit first. -/
def nb (p : Nat) : List Int → Nat
  | [] => 0
  | x :: xs => x.toNat + p * nb p xs

/-- So many digits of a number. -/
def dgs (p : Nat) : Nat → Nat → List Int
  | 0, _ => []
  | k + 1, n => ((n % p : Nat) : Int) :: dgs p k (n / p)

theorem dgs_length (p : Nat) : ∀ k n, (dgs p k n).length = k
  | 0, _ => rfl
  | k + 1, n => by simp [dgs, dgs_length p k]

theorem dgs_bd {p : Nat} (hp : 1 ≤ p) : ∀ k n, ∀ x ∈ dgs p k n, 0 ≤ x ∧ x < (p : Int)
  | 0, _ => by simp [dgs]
  | k + 1, n => by
    intro x hx
    rcases List.mem_cons.1 hx with e | e
    · subst e
      have := Nat.mod_lt n (show p > 0 by omega)
      omega
    · exact dgs_bd hp k _ x e

theorem nb_dgs {p : Nat} (hp : 1 ≤ p) : ∀ k n, n < p ^ k → nb p (dgs p k n) = n
  | 0, n, h => by simp at h; subst h; rfl
  | k + 1, n, h => by
    show ((n % p : Nat) : Int).toNat + p * nb p (dgs p k (n / p)) = n
    rw [nb_dgs hp k (n / p) (by rw [Nat.div_lt_iff_lt_mul (by omega)]; rwa [Nat.pow_succ] at h), Int.toNat_natCast]
    exact Nat.mod_add_div n p

theorem nb_lt {p : Nat} (hp : 1 ≤ p) : ∀ l : List Int, (∀ x ∈ l, 0 ≤ x ∧ x < (p : Int)) → nb p l < p ^ l.length
  | [], _ => by simp [nb]
  | x :: xs, h => by
    have ih := nb_lt hp xs (fun y hy => h y (by simp [hy]))
    have hx := h x (by simp)
    show x.toNat + p * nb p xs < p ^ (xs.length + 1)
    rw [Nat.pow_succ, Nat.mul_comm (p ^ xs.length)]
    have h1 : p * (nb p xs + 1) ≤ p * p ^ xs.length := Nat.mul_le_mul_left p ih
    rw [Nat.mul_add, Nat.mul_one] at h1
    omega

theorem nb_tr (p : Nat) : ∀ l : List Int, nb p (tr l) = nb p l
  | [] => rfl
  | x :: xs => by
    have ih := nb_tr p xs
    unfold tr
    by_cases h : x = 0 ∧ tr xs = []
    · rw [if_pos h]
      rw [h.2] at ih
      show 0 = x.toNat + p * nb p xs
      rw [← ih, h.1]; simp [nb]
    · rw [if_neg h]
      show x.toNat + p * nb p (tr xs) = x.toNat + p * nb p xs
      rw [ih]

theorem dgs_zero (p : Nat) : ∀ k, Eqv (dgs p k 0) []
  | 0 => Eqv.refl _
  | k + 1 => by
    show Eqv (((0 % p : Nat) : Int) :: dgs p k (0 / p)) []
    rw [Nat.zero_mod, Nat.zero_div]
    exact (eqv_nil_cons.2 ⟨rfl, (dgs_zero p k).symm⟩).symm

theorem dgs_nb {p : Nat} (hp : 1 ≤ p) : ∀ (k : Nat) (l : List Int), l.length ≤ k → (∀ x ∈ l, 0 ≤ x ∧ x < (p : Int)) → Eqv (dgs p k (nb p l)) l
  | k, [], _, _ => dgs_zero p k
  | 0, x :: xs, h, _ => by simp at h
  | k + 1, x :: xs, h, hb => by
    have hx := hb x (by simp)
    have ih := dgs_nb hp k xs (by simpa using h) (fun y hy => hb y (by simp [hy]))
    show Eqv ((((x.toNat + p * nb p xs) % p : Nat) : Int) :: dgs p k ((x.toNat + p * nb p xs) / p)) (x :: xs)
    rw [Nat.add_mul_mod_self_left, Nat.add_mul_div_left _ _ (by omega), Nat.mod_eq_of_lt (by omega), Nat.div_eq_of_lt (by omega), Nat.zero_add]
    exact eqv_cons (Int.toNat_of_nonneg hx.1) ih

/-- The element of a number. -/
def elm (p k n : Nat) : List Int := tr (dgs p k n)

theorem elm_cn {p : Nat} (hp : 1 ≤ p) (k n : Nat) : Cn p (elm p k n) := tr_cn (dgs_bd hp k n)

theorem elm_length (p k n : Nat) : (elm p k n).length ≤ k := by
  have := tr_length (dgs p k n)
  rwa [dgs_length] at this

theorem nb_elm {p : Nat} (hp : 1 ≤ p) {k n : Nat} (h : n < p ^ k) : nb p (elm p k n) = n := by
  unfold elm; rw [nb_tr, nb_dgs hp k n h]

theorem elm_nb {p : Nat} (hp : 1 ≤ p) {k : Nat} {l : List Int} (hl : Cn p l) (hk : l.length ≤ k) : elm p k (nb p l) = l :=
  (elm_cn hp k _).uniq hp hl (fun i => by
    unfold elm
    rw [co_tr, dgs_nb hp k l hk hl.1 i]; simp)

theorem elm_zero {p : Nat} (hp : 1 ≤ p) (k : Nat) : elm p k 0 = [] := elm_nb hp (Cn.nil p) (by simp)

theorem elm_one {p : Nat} (hp : 2 ≤ p) {k : Nat} (hk : 1 ≤ k) : elm p k 1 = [1] := by
  have c1 : Cn p [1] := ⟨fun x hx => by simp at hx; subst hx; omega, fun _ => by simp [co_zero]⟩
  have := elm_nb (p := p) (by omega) c1 (k := k) (by simpa using hk)
  simpa [nb] using this

theorem nb_small {p : Nat} (hp : 1 ≤ p) {l : List Int} {k : Nat} (hl : Cn p l) (hk : l.length ≤ k) : nb p l < p ^ k :=
  Nat.lt_of_lt_of_le (nb_lt hp l hl.1) (Nat.pow_le_pow_right hp hk)

/-- All elements but 0, once each. -/
theorem all_ex {p : Nat} (hp : 1 ≤ p) {f : List Int} (hf : 1 ≤ f.length) : ∃ U : List (El p f), U.Nodup ∧ (∀ a : El p f, a ∈ U ↔ a.1 ≠ []) ∧ U.length = p ^ (f.length - 1) - 1 := by
  have hle : ∀ n, (elm p (f.length - 1) n).length < f.length := fun n => by have := elm_length p (f.length - 1) n; omega
  refine ⟨(List.range (p ^ (f.length - 1) - 1)).map (fun i => ⟨elm p (f.length - 1) (i + 1), elm_cn hp _ _, hle _⟩), ?_, fun a => ?_, by simp⟩
  · refine List.pairwise_map.2 ?_
    refine (List.nodup_range (n := p ^ (f.length - 1) - 1)).imp_of_mem (fun {i j} hi hj hne e => hne ?_)
    have hi' := List.mem_range.1 hi
    have hj' := List.mem_range.1 hj
    have e1 := congrArg (fun x : El p f => nb p x.1) e
    simp only at e1
    rw [nb_elm hp (by omega), nb_elm hp (by omega)] at e1
    omega
  · constructor
    · intro h
      obtain ⟨i, hi, rfl⟩ := List.mem_map.1 h
      have hi' := List.mem_range.1 hi
      intro e
      have e1 := congrArg (nb p) e
      simp only at e1
      rw [nb_elm hp (by omega)] at e1
      simp [nb] at e1
    · intro h
      have hk : a.1.length ≤ f.length - 1 := by have := a.2.2; omega
      have h1 := nb_small hp a.2.1 hk
      have h2 : nb p a.1 ≠ 0 := fun e => h (by
        have := elm_nb hp a.2.1 hk
        rw [e, elm_zero hp] at this
        exact this.symm)
      refine List.mem_map.2 ⟨nb p a.1 - 1, List.mem_range.2 (by omega), Subtype.ext ?_⟩
      show elm p (f.length - 1) (nb p a.1 - 1 + 1) = a.1
      rw [show nb p a.1 - 1 + 1 = nb p a.1 by omega]
      exact elm_nb hp a.2.1 hk

/-- Fermat, Galois; Gauss. -/
theorem field_cyclic {p : Nat} (hp : Pr p) {f : List Int} (hf : 1 ≤ f.length) (F : Fd (El p f)) (hz : F.zero.1 = []) : (∃ g, Ord F g (p ^ (f.length - 1) - 1)) ∧ ∀ a, a ≠ F.zero → pw F a (p ^ (f.length - 1) - 1) = F.one := by
  have hp1 := hp.1
  obtain ⟨U, h1, h2, h3⟩ := all_ex (p := p) (by omega) hf
  have := cyclic F h1 (fun a => by
    rw [h2]
    constructor
    · intro h e; exact h (by rw [e]; exact hz)
    · intro h e; exact h (Subtype.ext (by rw [e, hz])))
  rwa [h3] at this

theorem field_fermat {p : Nat} (hp : Pr p) {f : List Int} (hf : 1 ≤ f.length) (F : Fd (El p f)) (hz : F.zero.1 = []) (a : El p f) : pw F a (p ^ (f.length - 1)) = a := by
  have hp1 := hp.1
  have hpos : 1 ≤ p ^ (f.length - 1) := Nat.pow_pos (by omega)
  obtain ⟨k, hk⟩ : ∃ k, p ^ (f.length - 1) = k + 1 := ⟨p ^ (f.length - 1) - 1, by omega⟩
  rcases Classical.em (a = F.zero) with e | e
  · subst e
    rw [hk]
    exact mul_zero F _
  · have := (field_cyclic hp hf F hz).2 a e
    rw [hk] at this ⊢
    rw [Nat.add_sub_cancel] at this
    show F.mul (pw F a k) a = a
    rw [this, F.one_mul]

end Go.Proofs.Ytjpmkcijkcnfiaa.Num23
