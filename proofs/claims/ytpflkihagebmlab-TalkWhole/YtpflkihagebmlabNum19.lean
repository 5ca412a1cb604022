/-
  Plain arithmetic, without the model: Lucas's test; how many primes Pratt's proof of a prime needs; which power a number is.
-/
import Derived.Test.YtpflkihagebmlabFoldA
namespace Go.Proofs.Ytpflkihagebmlab.Num19
set_option linter.unusedVariables false
open Go.Proofs.Ytpflkihagebmlab.Num Go.Proofs.Ytpflkihagebmlab.Num3 Go.Proofs.Ytpflkihagebmlab.Num6 Go.Proofs.Ytpflkihagebmlab.Num7 Go.Proofs.Ytpflkihagebmlab.Num9 Go.Proofs.Ytpflkihagebmlab.Num12

/-- As many units as can be: a prime. -/
theorem pr_of_tot {n : Nat} (hn : 2 ≤ n) (h : n - 1 ≤ tot n) : Pr n := by
  refine ⟨hn, fun d hd => ?_⟩
  rcases Classical.em (d = 1 ∨ d = n) with h1 | h1
  · exact h1
  · exfalso
    have hd1 : 1 ≤ d := Nat.pos_of_dvd_of_pos hd (by omega)
    have hdn := Nat.le_of_dvd (by omega) hd
    have hg : Nat.gcd d n = d := Nat.gcd_eq_left hd
    have hN : (d :: n :: ul n n).Nodup := by
      refine List.nodup_cons.2 ⟨fun hm => ?_, List.nodup_cons.2 ⟨fun hm => ?_, ul_nodup n n⟩⟩
      · rcases List.mem_cons.1 hm with e | hm
        · exact h1 (.inr e)
        · have := (mem_ul.1 hm).2.2
          rw [hg] at this; exact h1 (.inl this)
      · have := (mem_ul.1 hm).2.2
        rw [Nat.gcd_self] at this; omega
    have := len_le (m := ks n) hN (fun x hx => by
      rcases List.mem_cons.1 hx with e | hx
      · subst e; exact mem_ks.2 ⟨hd1, hdn⟩
      · rcases List.mem_cons.1 hx with e | hx
        · subst e; exact mem_ks.2 ⟨by omega, Nat.le_refl _⟩
        · exact mem_ks.2 ⟨(mem_ul.1 hx).1, (mem_ul.1 hx).2.1⟩)
    simp only [List.length_cons, ul_length] at this
    have e : (ks n).length = n := by simp [ks]
    rw [e] at this
    have : tot n + 2 ≤ n := this
    omega

/-- Lucas. -/
theorem ord_full {n g K : Nat} (hn : 1 ≤ n) (hK : 1 ≤ K) (h1 : g ^ K % n = 1 % n) (h2 : ∀ q, Pr q → q ∣ K → ¬ g ^ (K / q) % n = 1 % n) : IsOrd g n K := by
  obtain ⟨o, ho, _⟩ := ord_ex hn (cop_of_pow hn hK h1)
  obtain ⟨c, hc⟩ := (ho.dvd K).1 h1
  have hc1 : c = 1 := by
    rcases Nat.lt_or_ge c 2 with h | h
    · rcases Nat.eq_zero_or_pos c with e | e
      · subst e; omega
      · omega
    · exfalso
      obtain ⟨q, hq, ⟨e, he⟩, _⟩ := least_prime h
      have hq2 := hq.1
      refine h2 q hq ⟨o * e, by rw [hc, he, Nat.mul_left_comm]⟩ ((ho.dvd _).2 ⟨e, ?_⟩)
      rw [hc, he, Nat.mul_left_comm, Nat.mul_div_cancel_left _ (by omega)]
  rw [hc, hc1, Nat.mul_one]; exact ho

theorem lucas {n g : Nat} (hn : 2 ≤ n) (h1 : g ^ (n - 1) % n = 1 % n) (h2 : ∀ q, Pr q → q ∣ n - 1 → ¬ g ^ ((n - 1) / q) % n = 1 % n) : Pr n := by
  have ho := ord_full (by omega) (by omega) h1 h2
  obtain ⟨o, ho2, hd⟩ := ord_ex (by omega) (cop_of_pow (by omega) ho.1 ho.2.1)
  rw [ho2.uniq ho] at hd
  exact pr_of_tot hn (Nat.le_of_dvd (tot_pos (by omega)) hd)

theorem ord_not {n g K q : Nat} (ho : IsOrd g n K) (hq : Pr q) (hd : q ∣ K) : ¬ g ^ (K / q) % n = 1 % n := by
  have h2 := hq.1
  have h1 := ho.1
  refine ho.2.2 (K / q) (Nat.div_pos (Nat.le_of_dvd (by omega) hd) (by omega)) (Nat.div_lt_self (by omega) (by omega))

/-! ### which primes are needed -/

/-- Whatever holds of n, and of the primes of what is one less than each of which it holds, holds of q. -/
def Need (n q : Nat) : Prop := ∀ P : Nat → Prop, P n → (∀ p r, P p → Pr r → r ∣ p - 1 → P r) → P q

theorem Need.self {n : Nat} : Need n n := fun _ h _ => h

theorem Need.step {n p q : Nat} (h : Need n p) (hq : Pr q) (hd : q ∣ p - 1) : Need n q := fun P h0 h1 => h1 p q (h P h0 h1) hq hd

/-- By steps. -/
theorem Need.steps {n q : Nat} (h : Need n q) {P : Nat → Prop} (h0 : P n) (h1 : ∀ p r, Need n p → P p → Pr r → r ∣ p - 1 → P r) : P q :=
  (h (fun x => Need n x ∧ P x) ⟨Need.self, h0⟩ (fun p r hp hr hd => ⟨hp.1.step hr hd, h1 p r hp.1 hp.2 hr hd⟩)).2

theorem Need.trans {n r q : Nat} (h : Need n r) (k : Need r q) : Need n q :=
  k.steps (P := fun x => Need n x) h (fun p s _ hp hs hd => hp.step hs hd)

theorem need_iff {n q : Nat} : Need n q ↔ q = n ∨ ∃ r, Pr r ∧ r ∣ n - 1 ∧ Need r q := by
  constructor
  · intro h
    refine h.steps (P := fun q => q = n ∨ ∃ r, Pr r ∧ r ∣ n - 1 ∧ Need r q) (.inl rfl) (fun p s _ ih hs hd => ?_)
    rcases ih with e | ⟨r, hr, hrd, hrq⟩
    · subst e; exact .inr ⟨s, hs, hd, Need.self⟩
    · exact .inr ⟨r, hr, hrd, hrq.step hs hd⟩
  · rintro (e | ⟨r, hr, hrd, hrq⟩)
    · subst e; exact Need.self
    · exact ((Need.self).step hr hrd).trans hrq

theorem Need.pr {n q : Nat} (hn : Pr n) (h : Need n q) : Pr q :=
  h.steps (P := Pr) hn (fun _ _ _ _ hs _ => hs)

theorem Need.le {n q : Nat} (hn : Pr n) (h : Need n q) : q ≤ n :=
  h.steps (P := fun x => x ≤ n) (Nat.le_refl _) (fun p s h1 ih hs hd => by
    have hp := (h1.pr hn).1
    have := Nat.le_of_dvd (by omega) hd
    omega)

theorem need_two {q : Nat} (h : Need 2 q) : q = 2 :=
  h.steps (P := fun x => x = 2) rfl (fun p s h1 ih hs hd => by
    subst ih
    have := Nat.le_of_dvd (by omega) hd
    have := hs.1
    omega)

theorem need_has_two {n : Nat} (hn : Pr n) : Need n 2 := by
  by_cases h2 : n = 2
  · subst h2; exact Need.self
  · have h1 := hn.1
    have ho : n % 2 = 1 := by
      rcases Nat.mod_two_eq_zero_or_one n with e | e
      · rcases hn.2 2 (Nat.dvd_of_mod_eq_zero e) with h | h <;> omega
      · exact e
    exact Need.step Need.self ⟨Nat.le_refl _, fun d hd => by
      have := Nat.le_of_dvd (by omega) hd
      have : d ≠ 0 := by intro e; subst e; simp at hd
      omega⟩ ⟨(n - 1) / 2, by omega⟩

def prodn (l : List Nat) : Nat := l.foldr (· * ·) 1

theorem filter_two (P : Nat → Bool) : ∀ L : List Nat, L.length = (L.filter P).length + (L.filter (fun q => !P q)).length
  | [] => rfl
  | x :: L => by
    have ih := filter_two P L
    cases h : P x <;> simp [h] <;> omega

theorem few_odd : ∀ n, Pr n → ∀ L : List Nat, L.Nodup → (∀ q ∈ L, Need n q ∧ q ≠ 2) → 2 ^ L.length ≤ n - 1 := by
  intro n
  induction n using Nat.strongRecOn with
  | _ n ih =>
    intro hn L hL hN
    have hn2 := hn.1
    by_cases h2 : n = 2
    · subst h2
      cases L with
      | nil => simp
      | cons q L =>
        have := hN q (by simp)
        exact absurd (need_two this.1) this.2
    · have ho : n % 2 = 1 := by
        rcases Nat.mod_two_eq_zero_or_one n with e | e
        · rcases hn.2 2 (Nat.dvd_of_mod_eq_zero e) with h | h <;> omega
        · exact e
      obtain ⟨l, hF⟩ := Fac.exists (n - 1) (by omega)
      have p2 : Pr 2 := need_has_two hn |>.pr hn
      -- the first prime of n - 1 is 2
      obtain ⟨x, l', rfl⟩ : ∃ x l', l = x :: l' := by
        cases l with
        | nil => have := hF.2.2; simp [pd] at this; omega
        | cons x l' => exact ⟨x, l', rfl⟩
      have hx : x.1 = 2 := by
        obtain ⟨y, hy, e⟩ := pr_dvd_pd p2 hF.1 (by rw [hF.2.2]; exact ⟨(n - 1) / 2, by omega⟩)
        rcases List.mem_cons.1 hy with h | h
        · rw [← h]; exact e
        · have h3 := (List.pairwise_cons.1 hF.2.1).1 y h
          have h4 := (hF.1 x (by simp)).1.1
          omega
      have hxk := (hF.1 x (by simp)).2
      have hpd : 2 * pd l' ≤ n - 1 := by
        have := hF.2.2
        simp only [pd] at this
        rw [hx] at this
        rw [← this]
        exact Nat.mul_le_mul_right _ (by
          have : 2 ^ 1 ≤ 2 ^ x.2 := Nat.pow_le_pow_right (by omega) hxk
          omega)
      -- the other ones, one by one
      have key : ∀ (l : List (Nat × Nat)), (∀ y ∈ l, Pr y.1 ∧ 1 ≤ y.2 ∧ y.1 < n) → ∀ L : List Nat, L.Nodup → (∀ q ∈ L, (∃ y ∈ l, Need y.1 q) ∧ q ≠ 2) → 2 ^ L.length ≤ pd l := by
        intro l
        induction l with
        | nil =>
          intro _ L _ hN
          cases L with
          | nil => simp [pd]
          | cons q L => obtain ⟨⟨y, hy, _⟩, _⟩ := hN q (by simp); simp at hy
        | cons y l ihl =>
          intro hl L hL hN
          obtain ⟨hy1, hy2, hy3⟩ := hl y (by simp)
          have hdec : ∀ q, Decidable (Need y.1 q) := fun q => Classical.propDecidable _
          have hA : 2 ^ (L.filter (fun q => decide (Need y.1 q))).length ≤ y.1 - 1 := by
            refine ih y.1 hy3 hy1 _ (hL.filter _) (fun q hq => ?_)
            obtain ⟨h1, h2⟩ := List.mem_filter.1 hq
            exact ⟨of_decide_eq_true h2, (hN q h1).2⟩
          have hB : 2 ^ (L.filter (fun q => !decide (Need y.1 q))).length ≤ pd l := by
            refine ihl (fun z hz => hl z (by simp [hz])) _ (hL.filter _) (fun q hq => ?_)
            obtain ⟨h1, h2⟩ := List.mem_filter.1 hq
            obtain ⟨⟨z, hz, hzq⟩, h3⟩ := hN q h1
            refine ⟨?_, h3⟩
            rcases List.mem_cons.1 hz with e | e
            · subst e
              rw [decide_eq_true hzq] at h2; simp at h2
            · exact ⟨z, e, hzq⟩
          have hlen : L.length = (L.filter (fun q => decide (Need y.1 q))).length + (L.filter (fun q => !decide (Need y.1 q))).length := filter_two _ L
          rw [hlen, Nat.pow_add]
          simp only [pd]
          refine Nat.mul_le_mul ?_ hB
          refine Nat.le_trans hA (Nat.le_trans (Nat.sub_le _ _) ?_)
          exact Nat.le_self_pow (by omega) _
      have hL2 : 2 ^ (L.erase n).length ≤ pd l' := by
        refine key l' (fun y hy => ?_) (L.erase n) (hL.erase n) (fun q hq => ?_)
        · have h1 := hF.1 y (by simp [hy])
          refine ⟨h1.1, h1.2, ?_⟩
          have h2 := mem_dvd_pd hF.1 (x := y) (by simp [hy])
          rw [hF.2.2] at h2
          have := Nat.le_of_dvd (by omega) h2
          omega
        · obtain ⟨h1, h2⟩ := hL.mem_erase_iff.1 hq
          obtain ⟨h3, h4⟩ := hN q h2
          refine ⟨?_, h4⟩
          rcases need_iff.1 h3 with e | ⟨r, hr, hrd, hrq⟩
          · exact absurd e h1
          · obtain ⟨y, hy, e⟩ := pr_dvd_pd hr hF.1 (by rw [hF.2.2]; exact hrd)
            rcases List.mem_cons.1 hy with h | h
            · exfalso
              rw [h, hx] at e
              subst e
              exact h4 (need_two hrq)
            · exact ⟨y, h, by rw [e]; exact hrq⟩
      have hle : L.length ≤ (L.erase n).length + 1 := by
        by_cases hm : n ∈ L
        · rw [List.length_erase_of_mem hm]; omega
        · rw [List.erase_of_not_mem hm]; omega
      have h3 : 2 ^ L.length ≤ 2 ^ ((L.erase n).length + 1) := Nat.pow_le_pow_right (by omega) hle
      rw [Nat.pow_succ] at h3
      omega

/-- No more primes are needed than the prime has bits. -/
theorem few_need {n b : Nat} (hn : Pr n) (hb : n < 2 ^ b) {L : List Nat} (hL : L.Nodup) (hN : ∀ q ∈ L, Need n q) : L.length ≤ b := by
  have h1 := few_odd n hn (L.erase 2) (hL.erase 2) (fun q hq => by
    obtain ⟨h1, h2⟩ := hL.mem_erase_iff.1 hq
    exact ⟨hN q h2, h1⟩)
  have h2 : (L.erase 2).length < b := by
    rcases Nat.lt_or_ge (L.erase 2).length b with h | h
    · exact h
    · have := Nat.pow_le_pow_right (show 2 > 0 by omega) h
      have := hn.1
      omega
  have hle : L.length ≤ (L.erase 2).length + 1 := by
    by_cases hm : 2 ∈ L
    · rw [List.length_erase_of_mem hm]; omega
    · rw [List.erase_of_not_mem hm]; omega
  omega

/-! ### which power it is -/

/-- The powers of one whose order is p - 1 are all that p does not divide. -/
theorem log_ex {p g a : Nat} (hp : Pr p) (hg : IsOrd g p (p - 1)) (ha : ¬ a % p = 0) : ∃ k, k < p - 1 ∧ g ^ k % p = a % p := by
  have h2 := hp.1
  have hcop := cop_of_pow (by omega) hg.1 hg.2.1
  have hnd : ((List.range (p - 1)).map (fun k => g ^ k % p)).Nodup := by
    refine List.pairwise_map.2 ?_
    refine (List.nodup_range (n := p - 1)).imp_of_mem (fun {i j} hi hj hne e => ?_)
    have hi' := List.mem_range.1 hi
    have hj' := List.mem_range.1 hj
    have key : ∀ i j, i < j → j < p - 1 → g ^ i % p = g ^ j % p → False := fun i j h1 h2 e => by
      have e2 : g ^ (j - i) * g ^ i % p = 1 * g ^ i % p := by
        rw [← Nat.pow_add, Nat.one_mul, show j - i + i = j by omega]; exact e.symm
      have e3 := cancel e2 (Nat.Coprime.pow_left i hcop)
      exact hg.2.2 (j - i) (by omega) (by omega) e3
    rcases Nat.lt_trichotomy i j with h | h | h
    · exact key i j h hj' e
    · exact hne h
    · exact key j i h hi' e.symm
  have hsub : ∀ x ∈ (List.range (p - 1)).map (fun k => g ^ k % p), x ∈ ks (p - 1) := fun x hx => by
    obtain ⟨k, _, rfl⟩ := List.mem_map.1 hx
    refine mem_ks.2 ⟨?_, ?_⟩
    · rcases Nat.eq_zero_or_pos (g ^ k % p) with e | e
      · exfalso
        have := hp.dvd_pow (Nat.dvd_of_mod_eq_zero e)
        exact (gcd_prime hp).1 hcop this
      · exact e
    · have := Nat.mod_lt (g ^ k) (show p > 0 by omega)
      omega
  have hperm := perm_of_sub hnd hsub (by simp [ks])
  have hm : a % p ∈ ks (p - 1) := mem_ks.2 ⟨Nat.pos_of_ne_zero ha, by have := Nat.mod_lt a (show p > 0 by omega); omega⟩
  obtain ⟨k, hk, e⟩ := List.mem_map.1 (hperm.mem_iff.2 hm)
  exact ⟨k, List.mem_range.1 hk, e⟩

/-- Two powers are the same just if the order divides. -/
theorem pow_same {g m o i j : Nat} (hm : 1 ≤ m) (ho : IsOrd g m o) : g ^ i % m = g ^ j % m ↔ i % o = j % o := by
  have hcop := cop_of_pow hm ho.1 ho.2.1
  have red : ∀ k, g ^ k % m = g ^ (k % o) % m := fun k => by
    have e : k = o * (k / o) + k % o := (Nat.div_add_mod k o).symm
    conv => lhs; rw [e]
    rw [Nat.pow_add, Nat.pow_mul, Nat.mul_mod, pow_mod_one ho.2.1, ← Nat.mul_mod, Nat.one_mul]
  constructor
  · intro h
    rw [red i, red j] at h
    have hi := Nat.mod_lt i (show o > 0 from ho.1)
    have hj := Nat.mod_lt j (show o > 0 from ho.1)
    have key : ∀ i j, i < j → j < o → g ^ i % m = g ^ j % m → False := fun i j h1 h2 e => by
      have e2 : g ^ (j - i) * g ^ i % m = 1 * g ^ i % m := by
        rw [← Nat.pow_add, Nat.one_mul, show j - i + i = j by omega]; exact e.symm
      exact ho.2.2 (j - i) (by omega) (by omega) (cancel e2 (Nat.Coprime.pow_left i hcop))
    rcases Nat.lt_trichotomy (i % o) (j % o) with h1 | h1 | h1
    · exact (key _ _ h1 hj h).elim
    · exact h1
    · exact (key _ _ h1 hi h.symm).elim
  · intro h
    rw [red i, red j, h]

end Go.Proofs.Ytpflkihagebmlab.Num19
