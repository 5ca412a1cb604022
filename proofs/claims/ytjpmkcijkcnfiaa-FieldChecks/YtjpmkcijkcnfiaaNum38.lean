/-
  Plain arithmetic: the landed field's own roads: divisors that end with 1, sizes, powers by squaring, elements that come round early.
-/
import Derived.Test.YtjpmkcijkcnfiaaNum37
namespace Go.Proofs.Ytjpmkcijkcnfiaa.Num38
set_option linter.unusedVariables false
open Go.Proofs.Ytjpmkcijkcnfiaa.Num13 (rs rs_cast)
open Go.Proofs.Ytjpmkcijkcnfiaa.Num Go.Proofs.Ytjpmkcijkcnfiaa.Num16 Go.Proofs.Ytjpmkcijkcnfiaa.Num17 Go.Proofs.Ytjpmkcijkcnfiaa.Num20 Go.Proofs.Ytjpmkcijkcnfiaa.Num21 Go.Proofs.Ytjpmkcijkcnfiaa.Num22 Go.Proofs.Ytjpmkcijkcnfiaa.Num23 Go.Proofs.Ytjpmkcijkcnfiaa.Num34 Go.Proofs.Ytjpmkcijkcnfiaa.Num35 Go.Proofs.Ytjpmkcijkcnfiaa.Num36 Go.Proofs.Ytjpmkcijkcnfiaa.Num37

/-! ### polynomials that end with 1 -/

theorem co_snoc (l : List Int) (x : Int) : co (l ++ [x]) l.length = x := by simp [co, List.getD]

theorem dig_monic {p : Nat} (hp : 2 ≤ p) {m n : Nat} (hm : m ≤ 12) (hn : n < p ^ m) : dig p (p ^ m + n) = dgs p m n ++ [1] := by
  symm
  refine dig_of (by omega) ⟨?_, ?_⟩ ?_ ?_
  · intro x hx
    rcases List.mem_append.1 hx with h | h
    · exact dgs_bd (by omega) m n x h
    · obtain rfl : x = 1 := by simpa using h
      omega
  · intro _
    have e : (dgs p m n ++ [1]).length - 1 = (dgs p m n).length := by simp
    rw [e, co_snoc]; omega
  · rw [List.length_append, dgs_length]; simp; omega
  · rw [nb_snoc, nb_dgs (by omega) m n hn, dgs_length]
    have : (1 : Int).toNat = 1 := rfl
    rw [this]; omega

theorem monic_len {p : Nat} (hp : 2 ≤ p) {m n : Nat} (hm : m ≤ 12) (hn : n < p ^ m) : (dig p (p ^ m + n)).length = m + 1 := by
  rw [dig_monic hp hm hn, List.length_append, dgs_length]; rfl

theorem monic_top {p : Nat} (hp : 2 ≤ p) {m n : Nat} (hm : m ≤ 12) (hn : n < p ^ m) : co (dig p (p ^ m + n)) m = 1 := by
  rw [dig_monic hp hm hn]
  have := co_snoc (dgs p m n) 1
  rwa [dgs_length] at this

theorem nb_monic {p : Nat} (hp : 2 ≤ p) {x : List Int} {m : Nat} (hx : Cn p x) (hl : x.length = m + 1) (h1 : co x m = 1) : ∃ n, n < p ^ m ∧ nb p x = p ^ m + n := by
  refine ⟨nb p (x.take m), ?_, ?_⟩
  · have h := nb_lt (p := p) (by omega) (x.take m) (fun y hy => hx.1 y (List.mem_of_mem_take hy))
    rwa [List.length_take, Nat.min_eq_left (by omega)] at h
  · have h := nb_take (p := p) (l := x) (i := m) (by omega)
    rw [List.take_of_length_le (by omega), h1] at h
    have : (1 : Int).toNat = 1 := rfl
    rw [this] at h
    omega

theorem prod_iff {p : Nat} (hp : Pr p) {f : List Int} (hf : Cn p f) (hfl : 2 ≤ f.length) (hs : p ^ (f.length - 1) ≤ 4096) : (∃ m n, 1 ≤ m ∧ 2 * m ≤ f.length - 1 ∧ n < p ^ m ∧ Dv p (dig p (p ^ m + n)) f) ↔ ¬ Irr p f := by
  have hp1 := hp.1
  have hdeg := fsz_deg hp1 hs
  constructor
  · rintro ⟨m, n, h1, h2, h3, h4⟩
    refine (irr_iff hp hf hfl hs).1 ⟨p ^ m + n, ?_, ?_, ?_, h4⟩
    · have := Nat.pow_le_pow_right (n := p) (by omega) h1
      rw [Nat.pow_one] at this
      omega
    · have h5 : p ^ (m + 1) ≤ p ^ (f.length - 1) := Nat.pow_le_pow_right (by omega) (by omega)
      rw [Nat.pow_succ] at h5
      have h6 : p ^ m * 2 ≤ p ^ m * p := Nat.mul_le_mul_left _ hp1
      omega
    · rw [monic_len hp1 (by omega) h3]; omega
  · intro hn
    obtain ⟨a, h1, h2, h3, h4⟩ := (irr_iff hp hf hfl hs).2 hn
    have ha : a < 1048576 := by omega
    have hx := dig_cn (p := p) (by omega) a
    have lx := dig_two hp1 ha h1
    have nx : dig p a ≠ [] := fun e => by rw [e] at lx; simp at lx
    have hG := Gst.done hp (Gst.start hx (Cn.nil p)) nx
    have hsc := scale_facts hp hx nx (iv_ok hp (hx.top (by omega) nx))
    have hdv := ((hG.2.1 _).1 (Dv.self p _)).1.trans h4
    have hcn := hG.1
    generalize nm p (psc (iv p (co (dig p a) ((dig p a).length - 1)) : Int) (dig p a)) = g at *
    obtain ⟨m, hm⟩ : ∃ m, (dig p a).length = m + 1 := ⟨(dig p a).length - 1, by omega⟩
    rw [hm, Nat.add_sub_cancel] at hsc
    rw [hm] at h3 lx
    obtain ⟨n, hn1, hn2⟩ := nb_monic hp1 hcn hsc.1 hsc.2
    refine ⟨m, n, by omega, by omega, hn1, ?_⟩
    rw [← hn2, dig_nb (by omega) hcn (by omega)]
    exact hdv

/-! ### sizes -/

def szf (p : Nat) : Nat → Nat
  | 0 => 1
  | i + 1 => if szf p i ≤ 4096 then szf p i * p else szf p i

theorem szf_ok {p : Nat} (hp : 2 ≤ p) : ∀ i, (p ^ i ≤ 4096 ∧ szf p i = p ^ i) ∨ (4096 < p ^ i ∧ 4096 < szf p i)
  | 0 => .inl ⟨by simp, by simp [szf]⟩
  | i + 1 => by
    rcases szf_ok hp i with ⟨h1, h2⟩ | ⟨h1, h2⟩
    · have e : szf p (i + 1) = p ^ (i + 1) := by
        show (if szf p i ≤ 4096 then szf p i * p else szf p i) = _
        rw [h2, if_pos h1, Nat.pow_succ]
      rw [e]
      rcases Nat.lt_or_ge 4096 (p ^ (i + 1)) with h | h
      · exact .inr ⟨h, h⟩
      · exact .inl ⟨h, rfl⟩
    · have e : szf p (i + 1) = szf p i := by
        show (if szf p i ≤ 4096 then szf p i * p else szf p i) = _
        rw [if_neg (by omega)]
      rw [e]
      exact .inr ⟨pow_up (by omega) (Nat.le_succ i) h1, h2⟩

theorem szf_bd {p : Nat} (hp : 1 ≤ p) (hp2 : p ≤ 251) : ∀ i, 1 ≤ szf p i ∧ szf p i ≤ 1028096
  | 0 => by simp [szf]
  | i + 1 => by
    have ih := szf_bd hp hp2 i
    show 1 ≤ (if szf p i ≤ 4096 then szf p i * p else szf p i) ∧ (if szf p i ≤ 4096 then szf p i * p else szf p i) ≤ 1028096
    by_cases h : szf p i ≤ 4096
    · rw [if_pos h]
      have h2 : szf p i * p ≤ 4096 * 251 := Nat.mul_le_mul h hp2
      have h3 : 1 * 1 ≤ szf p i * p := Nat.mul_le_mul ih.1 hp
      omega
    · rw [if_neg h]; exact ih

theorem szf_next (p i : Nat) : szf p (i + 1) = if szf p i ≤ 4096 then szf p i * p else szf p i := rfl

theorem pow_two_le {p : Nat} (hp : 2 ≤ p) {m k : Nat} : p ^ m * p ^ m ≤ p ^ k ↔ 2 * m ≤ k := by
  rw [← Nat.pow_add, show m + m = 2 * m by omega]
  exact Nat.pow_le_pow_iff_right (by omega)

/-! ### powers by squaring -/

theorem pw_sq {A : Type} (F : Fd A) (a : A) (k : Nat) : pw F (F.mul a a) k = pw F a (2 * k) := by
  rw [mul_pw, ← pw_add, show k + k = 2 * k by omega]

theorem sq_even {A : Type} (F : Fd A) (o a : A) {n : Nat} (h : n % 2 = 0) : F.mul o (pw F (F.mul a a) (n / 2)) = F.mul o (pw F a n) := by
  rw [pw_sq, show 2 * (n / 2) = n by omega]

theorem sq_odd {A : Type} (F : Fd A) (o a : A) {n : Nat} (h : n % 2 = 1) : F.mul (F.mul o a) (pw F (F.mul a a) (n / 2)) = F.mul o (pw F a n) := by
  rw [pw_sq, F.mul_assoc]
  congr 1
  have e : n = 2 * (n / 2) + 1 := by omega
  conv => rhs; rw [e]
  show F.mul a (pw F a (2 * (n / 2))) = F.mul (pw F a (2 * (n / 2))) a
  rw [F.mul_comm]

/-! ### what comes round -/

theorem ord_iff {A : Type} (F : Fd A) {x : A} {n : Nat} (hn : 1 ≤ n) (h1 : pw F x n = F.one) : Ord F x n ↔ ∀ q, Pr q → q ∣ n → pw F x (n / q) ≠ F.one := by
  constructor
  · intro h q hq ⟨c, hc⟩ he
    have hq1 := hq.1
    rw [hc, Nat.mul_div_cancel_left _ (by omega)] at he
    have h2 := Nat.le_of_dvd (by rcases Nat.eq_zero_or_pos c with e | e; · subst e; simp at hc; omega
                                 · exact e) ((h.2 c).1 he)
    have h3 : 2 * c ≤ q * c := Nat.mul_le_mul_right _ hq1
    have h4 : 1 ≤ c := by
      rcases Nat.eq_zero_or_pos c with e | e
      · subst e; simp at hc; omega
      · exact e
    omega
  · intro h
    obtain ⟨o, ho⟩ := ord_ex F hn h1
    obtain ⟨c, hc⟩ := (ho.2 n).1 h1
    have ho1 := ho.1
    by_cases hc1 : c = 1
    · subst hc1; rw [Nat.mul_one] at hc; rw [hc]; exact ho
    · have hc2 : 2 ≤ c := by
        rcases Nat.eq_zero_or_pos c with e | e
        · subst e; simp at hc; omega
        · omega
      obtain ⟨q, hq, ⟨d, hd⟩, _⟩ := least_prime hc2
      have hq1 := hq.1
      exfalso
      refine h q hq ⟨o * d, by rw [hc, hd, Nat.mul_left_comm]⟩ ?_
      rw [hc, hd, Nat.mul_left_comm, Nat.mul_div_cancel_left _ (by omega)]
      exact (ho.2 _).2 ⟨d, rfl⟩

/-! ### what is left, by what ends with 1 -/

theorem iv_one {p : Nat} (hp : Pr p) : (iv p 1 : Int) = 1 := by
  have hp1 := hp.1
  exact (iv_uniq hp (not_one hp1) (y := 1) ⟨by omega, by omega⟩ (by simp)).symm

theorem sub_as_add {p : Nat} (hp : 1 ≤ p) (z c y : Int) : (z + ((p : Int) - c) * y) % (p : Int) = (rs (z - c * y) p : Int) := by
  rw [rs_cast _ hp]
  have e : z + ((p : Int) - c) * y = z - c * y + (p : Int) * y := by rw [Int.sub_mul]; omega
  rw [e, Int.add_mul_emod_self_left]

theorem mul_one_mod {p : Nat} {x : Int} (hx : 0 ≤ x ∧ x < (p : Int)) : x = x * (1 : Int) % (p : Int) := by
  rw [Int.mul_one, Int.emod_eq_of_lt hx.1 hx.2]

theorem tr_cut {f : Nat → Int} {m : Nat} : ∀ {n : Nat}, m ≤ n → (∀ i, m ≤ i → i < n → f i = 0) → tr (mk n f) = tr (mk m f)
  | 0, h, _ => by obtain rfl : m = 0 := by omega
                  rfl
  | n + 1, h, h0 => by
    rcases Nat.lt_or_ge n m with e | e
    · obtain rfl : m = n + 1 := by omega
      rfl
    · rw [mk_succ, h0 n e (by omega), tr_snoc_zero]
      exact tr_cut e (fun i h1 h2 => h0 i h1 (by omega))

theorem tr_nil_iff {l : List Int} : tr l = [] ↔ ∀ x ∈ l, x = 0 := by
  constructor
  · intro h x hx
    obtain ⟨j, hj, e⟩ := List.getElem_of_mem hx
    have h1 := co_tr l j
    rw [h] at h1
    have : co l j = l[j] := by simp [co, List.getD, hj]
    rw [this, e] at h1
    rw [← h1]; rfl
  · intro h
    rcases Classical.em (tr l = []) with e | e
    · exact e
    · have h1 := tr_last l e
      rw [co_tr] at h1
      have hl := tr_length l
      have h2 := pos_of_ne e
      have : co l ((tr l).length - 1) = l[(tr l).length - 1]'(by omega) := by
        have : (tr l).length - 1 < l.length := by omega
        simp [co, List.getD, this]
      rw [this] at h1
      exact absurd (h _ (List.getElem_mem _)) h1

/-! ### a field -/

/-- A field that may be. -/
def Fld (p : Nat) (f : List Int) : Prop := Pr p ∧ p ≤ 251 ∧ Cn p f ∧ 2 ≤ f.length ∧ f.length ≤ 13 ∧ co f (f.length - 1) = 1 ∧ p ^ (f.length - 1) ≤ 4096 ∧ Irr p f

theorem Fld.ex {p : Nat} {f : List Int} (h : Fld p f) : ∃ F : Fd (El p f), Fits p f F := field_ex h.1 h.2.2.1 h.2.2.2.1 h.2.2.2.2.2.2.2

/-- The element of a number. -/
theorem Fld.el {p : Nat} {f : List Int} (h : Fld p f) {a : Nat} (ha : a < p ^ (f.length - 1)) : ∃ x : El p f, num x = a :=
  ⟨_, num_el h.1.1 ⟨by have := h.2.2.2.1; omega, h.2.2.2.2.1⟩ ha h.2.2.2.2.2.2.1⟩

theorem Fld.fl {p : Nat} {f : List Int} (h : Fld p f) : 1 ≤ f.length ∧ f.length ≤ 13 := ⟨by have := h.2.2.2.1; omega, h.2.2.2.2.1⟩

theorem Fld.size {p : Nat} {f : List Int} (h : Fld p f) : 2 ≤ p ^ (f.length - 1) ∧ p ^ (f.length - 1) ≤ 4096 := by
  refine ⟨?_, h.2.2.2.2.2.2.1⟩
  have h1 := h.1.1
  have h2 : p ^ 1 ≤ p ^ (f.length - 1) := Nat.pow_le_pow_right (by omega) (by have := h.2.2.2.1; omega)
  rw [Nat.pow_one] at h2
  omega

theorem Fld.fermat {p : Nat} {f : List Int} (h : Fld p f) {F : Fd (El p f)} (hF : Fits p f F) (x : El p f) : pw F x (p ^ (f.length - 1)) = x := field_fermat h.1 h.fl.1 F hF.1 x

theorem Fld.ne_zero {p : Nat} {f : List Int} (h : Fld p f) {F : Fd (El p f)} (hF : Fits p f F) {x : El p f} (hx : num x ≠ 0) : x ≠ F.zero := fun e => hx (by rw [e, hF.zero])

theorem Fld.one_of {p : Nat} {f : List Int} (h : Fld p f) {F : Fd (El p f)} (hF : Fits p f F) {x : El p f} : num x = 1 ↔ x = F.one := by
  constructor
  · intro e
    exact num_inj (by have := h.1.1; omega) h.fl (by rw [e, hF.one])
  · rintro rfl; exact hF.one

/-- What makes 1. -/
theorem Fld.inv {p : Nat} {f : List Int} (h : Fld p f) {F : Fd (El p f)} (hF : Fits p f F) {x : El p f} (hx : num x ≠ 0) : F.mul x (pw F x (p ^ (f.length - 1) - 2)) = F.one := by
  have hs := h.size
  have h1 := (field_cyclic h.1 h.fl.1 F hF.1).2 x (h.ne_zero hF hx)
  have e : p ^ (f.length - 1) - 1 = (p ^ (f.length - 1) - 2) + 1 := by omega
  rw [e] at h1
  rw [F.mul_comm]
  exact h1

end Go.Proofs.Ytjpmkcijkcnfiaa.Num38
