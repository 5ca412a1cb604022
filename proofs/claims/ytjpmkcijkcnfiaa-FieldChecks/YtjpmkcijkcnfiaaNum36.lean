/-
  Plain arithmetic: elements of a field as numbers, by the document's loops: digits, numbers, sizes, products, powers.
-/
import Derived.Test.YtjpmkcijkcnfiaaNum23
import Derived.Test.YtjpmkcijkcnfiaaNum35
namespace Go.Proofs.Ytjpmkcijkcnfiaa.Num36
set_option linter.unusedVariables false
open Go.Proofs.Ytjpmkcijkcnfiaa.Num Go.Proofs.Ytjpmkcijkcnfiaa.Num13 Go.Proofs.Ytjpmkcijkcnfiaa.Num16 Go.Proofs.Ytjpmkcijkcnfiaa.Num17 Go.Proofs.Ytjpmkcijkcnfiaa.Num20 Go.Proofs.Ytjpmkcijkcnfiaa.Num21 Go.Proofs.Ytjpmkcijkcnfiaa.Num22 Go.Proofs.Ytjpmkcijkcnfiaa.Num23 Go.Proofs.Ytjpmkcijkcnfiaa.Num34 Go.Proofs.Ytjpmkcijkcnfiaa.Num35

/-! ### digits -/

theorem nb_snoc (p : Nat) (d : Int) : ∀ l : List Int, nb p (l ++ [d]) = nb p l + p ^ l.length * d.toNat
  | [] => by simp [nb]
  | x :: xs => by
    show x.toNat + p * nb p (xs ++ [d]) = x.toNat + p * nb p xs + p ^ (xs.length + 1) * d.toNat
    rw [nb_snoc p d xs, Nat.mul_add, Nat.pow_succ, Nat.mul_comm (p ^ xs.length) p, Nat.mul_assoc]; omega

/-- The first i digits. -/
def dgf (p a : Nat) (t : Nat) : Int := ((a / p ^ t % p : Nat) : Int)

theorem dgf_bd {p : Nat} (hp : 1 ≤ p) (a t : Nat) : 0 ≤ dgf p a t ∧ dgf p a t < (p : Int) := by
  unfold dgf
  have := Nat.mod_lt (a / p ^ t) (show p > 0 by omega)
  omega

theorem div_next (p a i : Nat) : a / p ^ i / p = a / p ^ (i + 1) := by rw [Nat.div_div_eq_div_mul, Nat.pow_succ]

theorem nb_dgf {p : Nat} (hp : 1 ≤ p) (a : Nat) : ∀ i, nb p (mk i (dgf p a)) + p ^ i * (a / p ^ i) = a
  | 0 => by simp [mk, nb]
  | i + 1 => by
    have ih := nb_dgf hp a i
    rw [mk_succ, nb_snoc, mk_length, ← div_next]
    have h1 : (dgf p a i).toNat = a / p ^ i % p := by unfold dgf; rw [Int.toNat_natCast]
    have h2 := Nat.mod_add_div (a / p ^ i) p
    rw [h1, Nat.pow_succ]
    have h3 : p ^ i * (a / p ^ i % p) + p ^ i * p * (a / p ^ i / p) = p ^ i * (a / p ^ i) := by
      rw [Nat.mul_assoc, ← Nat.mul_add, h2]
    omega

theorem dgf_done {p : Nat} (hp : 1 ≤ p) {a i : Nat} (h0 : a / p ^ i = 0) (hl : i = 0 ∨ a / p ^ (i - 1) ≠ 0) : Cn p (mk i (dgf p a)) ∧ nb p (mk i (dgf p a)) = a := by
  refine ⟨⟨Bd.mk fun t _ => dgf_bd hp a t, fun hne => ?_⟩, ?_⟩
  · rw [mk_length]
    have hi : i ≠ 0 := fun e => hne (by rw [e]; rfl)
    rw [co_mk, if_pos (by omega)]
    have h1 := hl.resolve_left hi
    obtain ⟨j, rfl⟩ : ∃ j, i = j + 1 := ⟨i - 1, by omega⟩
    rw [Nat.add_sub_cancel] at h1 ⊢
    rw [← div_next] at h0
    have h2 : a / p ^ j < p := by
      rcases Nat.lt_or_ge (a / p ^ j) p with h | h
      · exact h
      · have := Nat.div_pos h (by omega)
        omega
    unfold dgf
    rw [Nat.mod_eq_of_lt h2]
    omega
  · have := nb_dgf hp a i
    rw [h0, Nat.mul_zero] at this
    omega

theorem dgf_few {p a i : Nat} (hp : 2 ≤ p) (ha : a < 1048576) (h : i = 0 ∨ a / p ^ (i - 1) ≠ 0) : i ≤ 20 := by
  rcases h with h | h
  · omega
  · have h1 : p ^ (i - 1) ≤ a := by
      rcases Nat.lt_or_ge a (p ^ (i - 1)) with h2 | h2
      · exact absurd (Nat.div_eq_of_lt h2) h
      · exact h2
    have h3 : 2 ^ (i - 1) ≤ p ^ (i - 1) := Nat.pow_le_pow_left hp _
    rcases Nat.lt_or_ge (i - 1) 20 with h4 | h4
    · omega
    · have h5 : 2 ^ 20 ≤ 2 ^ (i - 1) := Nat.pow_le_pow_right (by omega) h4
      have h6 : (2 : Nat) ^ 20 = 1048576 := by decide
      omega

/-- The digits of a number that is not too great. -/
def dig (p a : Nat) : List Int := elm p 20 a

theorem pow20 {p : Nat} (hp : 2 ≤ p) : 1048576 ≤ p ^ 20 := by
  have h : 2 ^ 20 ≤ p ^ 20 := Nat.pow_le_pow_left hp 20
  have h6 : (2 : Nat) ^ 20 = 1048576 := by decide
  omega

theorem dig_cn {p : Nat} (hp : 1 ≤ p) (a : Nat) : Cn p (dig p a) := elm_cn hp 20 a

theorem dig_len20 (p a : Nat) : (dig p a).length ≤ 20 := elm_length p 20 a

theorem nb_dig {p a : Nat} (hp : 2 ≤ p) (ha : a < 1048576) : nb p (dig p a) = a := nb_elm (by omega) (Nat.lt_of_lt_of_le ha (pow20 hp))

theorem dig_nb {p : Nat} (hp : 1 ≤ p) {l : List Int} (hl : Cn p l) (h : l.length ≤ 20) : dig p (nb p l) = l := elm_nb hp hl h

theorem dig_of {p : Nat} (hp : 1 ≤ p) {l : List Int} {a : Nat} (hl : Cn p l) (h : l.length ≤ 20) (e : nb p l = a) : l = dig p a := by rw [← e, dig_nb hp hl h]

theorem dig_len {p a k : Nat} (hp : 1 ≤ p) (h : a < p ^ k) (hk : k ≤ 20) : (dig p a).length ≤ k := by
  have h1 := elm_length p k a
  have h2 := dig_of hp (elm_cn hp k a) (by omega) (nb_elm hp h)
  rw [← h2]; exact h1

theorem dig_zero {p : Nat} (hp : 1 ≤ p) : dig p 0 = [] := elm_zero hp 20

theorem dig_one {p : Nat} (hp : 2 ≤ p) : dig p 1 = [1] := elm_one hp (by omega)

theorem dig_inj {p a b : Nat} (hp : 2 ≤ p) (ha : a < 1048576) (hb : b < 1048576) (h : dig p a = dig p b) : a = b := by
  rw [← nb_dig hp ha, ← nb_dig hp hb, h]

theorem dig_done {p : Nat} (hp : 2 ≤ p) {a i : Nat} (ha : a < 1048576) (h0 : a / p ^ i = 0) (hl : i = 0 ∨ a / p ^ (i - 1) ≠ 0) : mk i (dgf p a) = dig p a := by
  obtain ⟨h1, h2⟩ := dgf_done (by omega) h0 hl
  exact dig_of (by omega) h1 (by rw [mk_length]; exact dgf_few hp ha hl) h2

/-! ### numbers -/

theorem nb_take {p : Nat} {l : List Int} {i : Nat} (h : i < l.length) : nb p (l.take (i + 1)) = nb p (l.take i) + p ^ i * (co l i).toNat := by
  rw [take_succ_co h, nb_snoc, List.length_take, Nat.min_eq_left (by omega)]

/-! ### sizes -/

def fsz (p : Nat) (f : List Int) : Nat := if p ^ (f.length - 1) ≤ 4096 then p ^ (f.length - 1) else 0

theorem fsz_le (p : Nat) (f : List Int) : fsz p f ≤ 4096 := by unfold fsz; split <;> omega

theorem pow_up {p : Nat} (hp : 1 ≤ p) {i j : Nat} (h : i ≤ j) (k : 4096 < p ^ i) : 4096 < p ^ j := Nat.lt_of_lt_of_le k (Nat.pow_le_pow_right hp h)

theorem fsz_deg {p : Nat} (hp : 2 ≤ p) {m : Nat} (h : p ^ m ≤ 4096) : m ≤ 12 := by
  rcases Nat.lt_or_ge m 13 with h1 | h1
  · omega
  · have h2 : 2 ^ 13 ≤ p ^ m := Nat.le_trans (Nat.pow_le_pow_left hp 13) (Nat.pow_le_pow_right (by omega) h1)
    have h3 : (2 : Nat) ^ 13 = 8192 := by decide
    omega

/-! ### products of two -/

/-- One that divides f has been found among the numbers below n. -/
def Fnd (p : Nat) (f : List Int) (a : Nat) : Prop := 2 * (dig p a).length ≤ f.length + 1 ∧ Dv p (dig p a) f

theorem dig_two {p a : Nat} (hp : 2 ≤ p) (ha : a < 1048576) (h : p ≤ a) : 2 ≤ (dig p a).length := by
  rcases Nat.lt_or_ge (dig p a).length 2 with h1 | h1
  · have h2 := nb_small (p := p) (by omega) (dig_cn (by omega) a) (k := 1) (by omega)
    rw [nb_dig hp ha, Nat.pow_one] at h2
    omega
  · exact h1

theorem nb_ge {p : Nat} (hp : 2 ≤ p) {l : List Int} (hl : Cn p l) (h2 : 2 ≤ l.length) : p ≤ nb p l := by
  rcases Nat.lt_or_ge (nb p l) p with h | h
  · exfalso
    have h3 : elm p 1 (nb p l) = elm p l.length (nb p l) := by
      have e1 := elm_nb (p := p) (by omega) (elm_cn (by omega) 1 (nb p l)) (k := l.length) (by have := elm_length p 1 (nb p l); omega)
      rw [nb_elm (by omega) (by rw [Nat.pow_one]; exact h)] at e1
      exact e1.symm
    rw [elm_nb (by omega) hl (Nat.le_refl _)] at h3
    have := elm_length p 1 (nb p l)
    rw [h3] at this
    omega
  · exact h

theorem irr_iff {p : Nat} (hp : Pr p) {f : List Int} (hf : Cn p f) (hfl : 2 ≤ f.length) (hs : p ^ (f.length - 1) ≤ 4096) : (∃ a, p ≤ a ∧ a < p ^ (f.length - 1) ∧ Fnd p f a) ↔ ¬ Irr p f := by
  have hp1 := hp.1
  have nf : f ≠ [] := fun e => by rw [e] at hfl; simp at hfl
  have hdeg := fsz_deg hp1 hs
  constructor
  · rintro ⟨a, h1, h2, h3, h4⟩ hI
    have ha : a < 1048576 := by omega
    obtain ⟨c, c1, c2, c3, c4, c5⟩ := h4.len hp (dig_cn (by omega) a) hf nf
    have l1 := dig_two hp1 ha h1
    have lc := pos_of_ne c2
    exact hI _ c (dig_cn (by omega) a) c1 l1 (by omega) c4
  · intro hn
    obtain ⟨a, b, ha, hb, la, lb, hq⟩ : ∃ a b, Cn p a ∧ Cn p b ∧ 2 ≤ a.length ∧ 2 ≤ b.length ∧ Q p (pmul a b) f := by
      rcases Classical.em (∃ a b, Cn p a ∧ Cn p b ∧ 2 ≤ a.length ∧ 2 ≤ b.length ∧ Q p (pmul a b) f) with h | h
      · exact h
      · exact absurd (fun a b h1 h2 h3 h4 h5 => h ⟨a, b, h1, h2, h3, h4, h5⟩) hn
    have na : a ≠ [] := fun e => by rw [e] at la; simp at la
    have nb' : b ≠ [] := fun e => by rw [e] at lb; simp at lb
    have hlen : f.length = a.length + b.length - 1 := by
      have h1 := mul_len hp ha hb na nb'
      rwa [nm_of (by omega) hf hq.symm] at h1
    have key : ∀ x y : List Int, Cn p x → 2 ≤ x.length → 2 ≤ y.length → f.length = x.length + y.length - 1 → x.length ≤ y.length → Q p (pmul x y) f → ∃ a, p ≤ a ∧ a < p ^ (f.length - 1) ∧ Fnd p f a := fun x y hx lx ly hl hle hq => by
      have hd : dig p (nb p x) = x := dig_nb (by omega) hx (by omega)
      refine ⟨nb p x, nb_ge hp1 hx lx, nb_small (by omega) hx (by omega), ?_, ?_⟩
      · rw [hd]; omega
      · rw [hd]; exact ⟨y, hq⟩
    rcases Nat.le_total a.length b.length with h | h
    · exact key a b ha la lb hlen h hq
    · exact key b a hb lb la (by omega) h ((Eqv.q (pmul_comm b a)).trans hq)

/-! ### sums and products -/

def fad (p a b : Nat) : Nat := nb p (nm p (padd (dig p a) (dig p b)))

/-- c is the product of a and b. -/
def FMul (p : Nat) (f : List Int) (a b c : Nat) : Prop := ∃ r, MulR p f (dig p a) (dig p b) r ∧ c = nb p r

theorem mulR_of {p : Nat} (hp : 1 ≤ p) {f a b q r : List Int} (h : DivIs p (nm p (pmul a b)) f q r) : MulR p f a b r := by
  obtain ⟨h1, h2, h3, h4⟩ := h
  refine ⟨h2, h3, ?_⟩
  refine ⟨q, ?_⟩
  intro i
  have e1 := h4 i
  have e2 := nm_q hp (pmul a b) i
  have e3 := pmul_comm f q i
  rw [co_padd] at e1 ⊢
  rw [co_pneg, e3]
  obtain ⟨u, hu⟩ := e1
  obtain ⟨v, hv⟩ := e2
  refine ⟨v - u, ?_⟩
  rw [Int.mul_sub]
  omega

theorem FMul.uniq {p : Nat} (hp : Pr p) {f : List Int} (hf : Cn p f) {a b c c' : Nat} (h : FMul p f a b c) (k : FMul p f a b c') : c = c' := by
  obtain ⟨r, h1, rfl⟩ := h
  obtain ⟨r', h2, rfl⟩ := k
  rw [h1.uniq hp hf h2]

/-! ### powers of an element: when they are 1 -/

/-- The element of a number below the size. -/
def el {p : Nat} (hp : 1 ≤ p) {f : List Int} (hf : 1 ≤ f.length ∧ f.length ≤ 13) {a : Nat} (ha : a < p ^ (f.length - 1)) : El p f :=
  ⟨dig p a, dig_cn hp a, by have := dig_len hp ha (by omega); omega⟩

end Go.Proofs.Ytjpmkcijkcnfiaa.Num36
