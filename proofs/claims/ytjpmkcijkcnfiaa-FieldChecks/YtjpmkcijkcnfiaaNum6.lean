/-
  Plain arithmetic, without the model: powers by a modulus, when they are 1 again, Euler's theorem, and one number whose powers take as long as all.
-/
import Derived.Test.YtjpmkcijkcnfiaaNum3
namespace Go.Proofs.Ytjpmkcijkcnfiaa.Num6
set_option linter.unusedVariables false
open Go.Proofs.Ytjpmkcijkcnfiaa.Num Go.Proofs.Ytjpmkcijkcnfiaa.Num3

theorem cancel {m x y c : Nat} (h : x * c % m = y * c % m) (hc : Nat.gcd c m = 1) : x % m = y % m := by
  have key : ∀ x y, y ≤ x → x * c % m = y * c % m → x % m = y % m := by
    intro x y hle h
    have h1 : m ∣ (x - y) * c := by
      have := Nat.sub_mod_eq_zero_of_mod_eq h
      rw [← Nat.sub_mul] at this
      exact Nat.dvd_of_mod_eq_zero this
    have h2 : m ∣ x - y := (Nat.Coprime.symm hc).dvd_of_dvd_mul_right h1
    obtain ⟨q, hq⟩ := h2
    have e : x = y + m * q := by omega
    rw [e, Nat.add_mul_mod_self_left]
  by_cases hle : y ≤ x
  · exact key x y hle h
  · exact (key y x (by omega) h.symm).symm

theorem pow_mod_one {a m k : Nat} (h : a % m = 1 % m) : a ^ k % m = 1 % m := by
  rw [Nat.pow_mod, h, ← Nat.pow_mod, Nat.one_pow]

/-- Those of 1 to k that have nothing in common with m. -/
def ul (m : Nat) : Nat → List Nat
  | 0 => []
  | k + 1 => ul m k ++ (if Nat.gcd (k + 1) m = 1 then [k + 1] else [])

theorem mem_ul {m d : Nat} : ∀ {k : Nat}, d ∈ ul m k ↔ 1 ≤ d ∧ d ≤ k ∧ Nat.gcd d m = 1
  | 0 => by simp [ul]; omega
  | k + 1 => by
    simp only [ul, List.mem_append, mem_ul (k := k)]
    by_cases h : Nat.gcd (k + 1) m = 1
    · rw [if_pos h]
      constructor
      · rintro (⟨h1, h2, h3⟩ | h1)
        · exact ⟨h1, by omega, h3⟩
        · simp at h1; subst h1; exact ⟨by omega, Nat.le_refl _, h⟩
      · rintro ⟨h1, h2, h3⟩
        by_cases e : d = k + 1
        · right; simp [e]
        · left; exact ⟨h1, by omega, h3⟩
    · rw [if_neg h]
      constructor
      · rintro (⟨h1, h2, h3⟩ | h1)
        · exact ⟨h1, by omega, h3⟩
        · simp at h1
      · rintro ⟨h1, h2, h3⟩
        left
        refine ⟨h1, ?_, h3⟩
        by_cases e : d = k + 1
        · subst e; exact absurd h3 h
        · omega

theorem ul_nodup (m : Nat) : ∀ k, (ul m k).Nodup
  | 0 => by simp [ul]
  | k + 1 => by
    simp only [ul]
    refine List.nodup_append.2 ⟨ul_nodup m k, by split <;> simp, fun x hx y hy => ?_⟩
    have h1 := (mem_ul.1 hx).2.1
    split at hy
    · simp at hy; omega
    · simp at hy

theorem ul_length (m : Nat) : ∀ k, (ul m k).length = cnt (fun x => Nat.gcd x m == 1) k
  | 0 => rfl
  | k + 1 => by
    simp only [ul, List.length_append, ul_length m k, cnt]
    by_cases h : Nat.gcd (k + 1) m = 1
    · simp [h]
    · simp [h]

theorem perm_of_sub {l m : List Nat} : l.Nodup → (∀ x ∈ l, x ∈ m) → m.length ≤ l.length → l.Perm m := by
  induction l generalizing m with
  | nil =>
    intro _ _ h
    have : m = [] := List.length_eq_zero_iff.1 (by simpa using h)
    subst this; exact List.Perm.refl _
  | cons x t ih =>
    intro hn hs hl
    obtain ⟨hx, hn'⟩ := List.nodup_cons.1 hn
    have hxm := hs x (by simp)
    have h1 := ih (m := m.erase x) hn' (fun y hy => by
      have hne : y ≠ x := by intro e; subst e; exact hx hy
      exact (List.mem_erase_of_ne hne).2 (hs y (by simp [hy]))) (by
      rw [List.length_erase_of_mem hxm]; simp at hl; omega)
    exact (List.Perm.cons x h1).trans (List.perm_cons_erase hxm).symm

def prodl (l : List Nat) : Nat := l.foldr (· * ·) 1

theorem prodl_perm {l m : List Nat} (h : l.Perm m) : prodl l = prodl m := by
  induction h with
  | nil => rfl
  | cons x _ ih => simp only [prodl, List.foldr_cons] at ih ⊢; rw [ih]
  | swap x y l => simp only [prodl, List.foldr_cons]; rw [Nat.mul_left_comm]
  | trans _ _ h1 h2 => rw [h1, h2]

theorem prodl_map (a m : Nat) (l : List Nat) : prodl (l.map (fun x => a * x % m)) % m = a ^ l.length * prodl l % m := by
  induction l with
  | nil => simp [prodl]
  | cons x xs ih =>
    simp only [prodl, List.map_cons, List.foldr_cons, List.length_cons] at ih ⊢
    rw [Nat.mul_mod, ih, Nat.mod_mod, ← Nat.mul_mod, Nat.pow_succ]
    congr 1
    rw [Nat.mul_mul_mul_comm a x, Nat.mul_comm a (a ^ xs.length)]

theorem prodl_cop {m : Nat} {l : List Nat} (h : ∀ x ∈ l, Nat.gcd x m = 1) : Nat.gcd (prodl l) m = 1 := by
  induction l with
  | nil => simp [prodl]
  | cons x xs ih =>
    show Nat.gcd (x * prodl xs) m = 1
    exact Nat.Coprime.mul_left (h x (by simp)) (ih (fun y hy => h y (by simp [hy])))

theorem gcd_mod (a m : Nat) : Nat.gcd (a % m) m = Nat.gcd a m := by
  rw [← Nat.gcd_rec, Nat.gcd_comm]

/-- Euler. -/
theorem euler {a m : Nat} (hm : 1 ≤ m) (h : Nat.gcd a m = 1) : a ^ tot m % m = 1 % m := by
  by_cases h1 : m = 1
  · subst h1; rw [Nat.mod_one, Nat.mod_one]
  have hm2 : 2 ≤ m := by omega
  have hlt : ∀ x ∈ ul m m, x < m := fun x hx => by
    obtain ⟨h1, h2, h3⟩ := mem_ul.1 hx
    by_cases e : x = m
    · subst e; rw [Nat.gcd_self] at h3; omega
    · omega
  have hmem : ∀ x ∈ ul m m, a * x % m ∈ ul m m := fun x hx => by
    obtain ⟨h1, h2, h3⟩ := mem_ul.1 hx
    have hg : Nat.gcd (a * x % m) m = 1 := by rw [gcd_mod]; exact Nat.Coprime.mul_left h h3
    refine mem_ul.2 ⟨?_, Nat.le_of_lt (Nat.mod_lt _ (by omega)), hg⟩
    rcases Nat.eq_zero_or_pos (a * x % m) with e | e
    · rw [e, Nat.gcd_zero_left] at hg; omega
    · exact e
  have hp : ((ul m m).map (fun x => a * x % m)).Perm (ul m m) := by
    refine perm_of_sub ?_ ?_ (by simp)
    · refine List.pairwise_map.2 ((ul_nodup m m).imp_of_mem (fun {x y} hx hy hne e => hne ?_))
      have e2 := cancel (m := m) (x := x) (y := y) (c := a) (by rw [Nat.mul_comm x, Nat.mul_comm y]; exact e) h
      rwa [Nat.mod_eq_of_lt (hlt x hx), Nat.mod_eq_of_lt (hlt y hy)] at e2
    · intro y hy
      obtain ⟨x, hx, rfl⟩ := List.mem_map.1 hy
      exact hmem x hx
  have e1 := prodl_map a m (ul m m)
  rw [prodl_perm hp, ul_length] at e1
  have hc := prodl_cop (m := m) (l := ul m m) (fun x hx => (mem_ul.1 hx).2.2)
  have e2 : a ^ tot m * prodl (ul m m) % m = 1 * prodl (ul m m) % m := by rw [Nat.one_mul]; exact e1.symm
  exact cancel e2 hc

/-- When powers are 1 again. -/
def IsOrd (a m o : Nat) : Prop := 1 ≤ o ∧ a ^ o % m = 1 % m ∧ ∀ k, 1 ≤ k → k < o → ¬ a ^ k % m = 1 % m

theorem IsOrd.dvd {a m o : Nat} (h : IsOrd a m o) (k : Nat) : a ^ k % m = 1 % m ↔ o ∣ k := by
  have hsplit : a ^ k % m = a ^ (k % o) % m := by
    conv => lhs; rw [← Nat.div_add_mod k o, Nat.pow_add, Nat.pow_mul, Nat.mul_mod, pow_mod_one h.2.1, ← Nat.mul_mod, Nat.one_mul]
  constructor
  · intro e
    rw [hsplit] at e
    rcases Nat.eq_zero_or_pos (k % o) with h0 | h0
    · exact Nat.dvd_of_mod_eq_zero h0
    · exact absurd e (h.2.2 _ h0 (Nat.mod_lt _ h.1))
  · intro hd
    rw [hsplit, Nat.mod_eq_zero_of_dvd hd, Nat.pow_zero]

theorem IsOrd.uniq {a m o o' : Nat} (h : IsOrd a m o) (h' : IsOrd a m o') : o = o' :=
  Nat.dvd_antisymm ((h.dvd o').1 h'.2.1) ((h'.dvd o).1 h.2.1)

theorem isOrd_of_dvd {a m o : Nat} (ho : 1 ≤ o) (h : ∀ k, a ^ k % m = 1 % m ↔ o ∣ k) : IsOrd a m o :=
  ⟨ho, (h o).2 (Nat.dvd_refl _), fun k h1 h2 e => by have := Nat.le_of_dvd (by omega) ((h k).1 e); omega⟩

theorem cop_of_pow {a m k : Nat} (hm : 1 ≤ m) (hk : 1 ≤ k) (h : a ^ k % m = 1 % m) : Nat.gcd a m = 1 := by
  have h1 : Nat.gcd (a ^ k) m = 1 := by
    rw [← gcd_mod, h, gcd_mod, Nat.gcd_one_left]
  have h2 : Nat.gcd a m ∣ Nat.gcd (a ^ k) m := Nat.dvd_gcd (Nat.dvd_trans (Nat.gcd_dvd_left a m) (by
    have := Nat.pow_dvd_pow a hk
    rwa [Nat.pow_one] at this)) (Nat.gcd_dvd_right a m)
  rw [h1] at h2
  exact Nat.dvd_one.1 h2

theorem least_ex {P : Nat → Prop} : ∀ n, P n → ∃ k, P k ∧ k ≤ n ∧ ∀ j, j < k → ¬ P j := by
  intro n
  induction n using Nat.strongRecOn with
  | ind n ih =>
    intro h
    by_cases hex : ∃ j, j < n ∧ P j
    · obtain ⟨j, hj, hp⟩ := hex
      obtain ⟨k, h1, h2, h3⟩ := ih j hj hp
      exact ⟨k, h1, by omega, h3⟩
    · exact ⟨n, h, Nat.le_refl _, fun j hj hp => hex ⟨j, hj, hp⟩⟩

theorem ord_ex {a m : Nat} (hm : 1 ≤ m) (h : Nat.gcd a m = 1) : ∃ o, IsOrd a m o ∧ o ∣ tot m := by
  obtain ⟨k, ⟨h1, h2⟩, h3, h4⟩ := least_ex (P := fun k => 1 ≤ k ∧ a ^ k % m = 1 % m) (tot m) ⟨tot_pos hm, euler hm h⟩
  have ho : IsOrd a m k := ⟨h1, h2, fun j hj1 hj2 e => h4 j hj2 ⟨hj1, e⟩⟩
  exact ⟨k, ho, (ho.dvd _).1 (euler hm h)⟩

theorem isOrd_mod {a m o : Nat} : IsOrd (a % m) m o ↔ IsOrd a m o := by
  unfold IsOrd
  simp only [← Nat.pow_mod]

theorem pow_pow_one {a m k j : Nat} : (a ^ j) ^ k % m = 1 % m ↔ a ^ (j * k) % m = 1 % m := by rw [Nat.pow_mul]

theorem IsOrd.pow {a m s t : Nat} (h : IsOrd a m (s * t)) : IsOrd (a ^ s) m t := by
  have hs : 1 ≤ s := by
    rcases Nat.eq_zero_or_pos s with e | e
    · have := h.1; rw [e, Nat.zero_mul] at this; omega
    · exact e
  have ht : 1 ≤ t := by
    rcases Nat.eq_zero_or_pos t with e | e
    · have := h.1; rw [e, Nat.mul_zero] at this; omega
    · exact e
  refine isOrd_of_dvd ht (fun k => ?_)
  rw [pow_pow_one, h.dvd]
  exact Nat.mul_dvd_mul_iff_left hs

/-- Orders that have nothing in common multiply. -/
theorem IsOrd.mul {a b m s t : Nat} (ha : IsOrd a m s) (hb : IsOrd b m t) (hm : 1 ≤ m) (hst : Nat.gcd s t = 1) : IsOrd (a * b) m (s * t) := by
  have hga := cop_of_pow hm ha.1 ha.2.1
  have hgb := cop_of_pow hm hb.1 hb.2.1
  refine isOrd_of_dvd (Nat.mul_le_mul ha.1 hb.1) (fun k => ?_)
  constructor
  · intro e
    have key : ∀ {a b s t : Nat}, IsOrd a m s → IsOrd b m t → Nat.gcd s t = 1 → (a * b) ^ k % m = 1 % m → s ∣ k := by
      intro a b s t ha hb hst e
      have e1 : ((a * b) ^ k) ^ t % m = 1 % m := pow_mod_one e
      have e2 : a ^ (k * t) % m = 1 % m := by
        rw [← Nat.pow_mul, Nat.mul_pow, Nat.mul_mod, (hb.dvd (k * t)).2 (Nat.dvd_mul_left _ _), ← Nat.mul_mod, Nat.mul_one] at e1
        exact e1
      have e3 := (ha.dvd _).1 e2
      exact Nat.Coprime.dvd_of_dvd_mul_right hst e3
    have h1 := key ha hb hst e
    have h2 := key hb ha (by rw [Nat.gcd_comm]; exact hst) (by rw [Nat.mul_comm]; exact e)
    exact Nat.Coprime.mul_dvd_of_dvd_of_dvd hst h1 h2
  · intro hd
    rw [Nat.mul_pow, Nat.mul_mod, (ha.dvd k).2 (Nat.dvd_trans (Nat.dvd_mul_right _ _) hd), (hb.dvd k).2 (Nat.dvd_trans (Nat.dvd_mul_left _ _) hd), ← Nat.mul_mod, Nat.one_mul]

/-- Any two numbers have divisors that have nothing in common, and whose product is what both divide. -/
theorem lcm_split : ∀ (a b : Nat), 1 ≤ a → 1 ≤ b → ∃ s t, s ∣ a ∧ t ∣ b ∧ Nat.gcd s t = 1 ∧ s * t = Nat.lcm a b := by
  have key : ∀ n a b, a + b = n → 1 ≤ a → 1 ≤ b → ∃ s t, s ∣ a ∧ t ∣ b ∧ Nat.gcd s t = 1 ∧ s * t = Nat.lcm a b := by
    intro n
    induction n using Nat.strongRecOn with
    | ind n ih =>
      intro a b hn ha hb
      by_cases hg : Nat.gcd a b = 1
      · exact ⟨a, b, Nat.dvd_refl _, Nat.dvd_refl _, hg, by rw [Nat.lcm, hg, Nat.div_one]⟩
      · have hg2 : 2 ≤ Nat.gcd a b := by
          have := Nat.gcd_pos_of_pos_left b (show 0 < a by omega)
          omega
        obtain ⟨p, hp, hpd, _⟩ := least_prime hg2
        have hpa := Nat.dvd_trans hpd (Nat.gcd_dvd_left a b)
        have hpb := Nat.dvd_trans hpd (Nat.gcd_dvd_right a b)
        obtain ⟨i, a', ea, ha', ha1⟩ := pow_out hp.1 a ha
        obtain ⟨j, b', eb, hb', hb1⟩ := pow_out hp.1 b hb
        have hi : 1 ≤ i := by
          rcases Nat.eq_zero_or_pos i with e | e
          · subst e; rw [Nat.pow_zero, Nat.one_mul] at ea; subst ea; exact absurd hpa ha'
          · exact e
        have hj : 1 ≤ j := by
          rcases Nat.eq_zero_or_pos j with e | e
          · subst e; rw [Nat.pow_zero, Nat.one_mul] at eb; subst eb; exact absurd hpb hb'
          · exact e
        have h2i := two_le_pow hp.1 hi
        have hlt : a' + b' < n := by
          have h3 : 2 * a' ≤ p ^ i * a' := Nat.mul_le_mul_right a' h2i
          have h4 : 1 * b' ≤ p ^ j * b' := Nat.mul_le_mul_right b' (Nat.pow_pos (by have := hp.1; omega))
          omega
        obtain ⟨s, t, hs, ht, hst, hl⟩ := ih (a' + b') hlt a' b' rfl ha1 hb1
        have hcs : ∀ {k x : Nat}, ¬ p ∣ x → Nat.gcd (p ^ k) x = 1 := fun {k x} hx => by
          refine Nat.Coprime.pow_left k ?_
          have := (gcd_prime (x := x) hp).2 hx
          rw [Nat.gcd_comm] at this
          exact this
        have hps : ¬ p ∣ s := fun h => ha' (Nat.dvd_trans h hs)
        have hpt : ¬ p ∣ t := fun h => hb' (Nat.dvd_trans h ht)
        have hlcm : Nat.lcm a b = p ^ (max i j) * Nat.lcm a' b' := by
          rw [ea, eb]
          have hu : ∀ x, x ∣ p ^ (max i j) * Nat.lcm a' b' → True := fun _ _ => trivial
          refine Nat.dvd_antisymm (Nat.lcm_dvd (Nat.mul_dvd_mul (Nat.pow_dvd_pow p (Nat.le_max_left i j)) (Nat.dvd_lcm_left a' b')) (Nat.mul_dvd_mul (Nat.pow_dvd_pow p (Nat.le_max_right i j)) (Nat.dvd_lcm_right a' b'))) ?_
          have hL1 := Nat.dvd_lcm_left (p ^ i * a') (p ^ j * b')
          have hL2 := Nat.dvd_lcm_right (p ^ i * a') (p ^ j * b')
          have hpmax : p ^ (max i j) ∣ Nat.lcm (p ^ i * a') (p ^ j * b') := by
            rcases Nat.le_total i j with h | h
            · rw [Nat.max_eq_right h]; exact Nat.dvd_trans (Nat.dvd_mul_right _ _) hL2
            · rw [Nat.max_eq_left h]; exact Nat.dvd_trans (Nat.dvd_mul_right _ _) hL1
          have hlow : Nat.lcm a' b' ∣ Nat.lcm (p ^ i * a') (p ^ j * b') := Nat.lcm_dvd (Nat.dvd_trans (Nat.dvd_mul_left _ _) hL1) (Nat.dvd_trans (Nat.dvd_mul_left _ _) hL2)
          have hcop : Nat.gcd (p ^ (max i j)) (Nat.lcm a' b') = 1 := by
            refine hcs (fun h => ?_)
            have h5 : p ∣ a' * b' := Nat.dvd_trans h (by rw [← Nat.gcd_mul_lcm a' b']; exact Nat.dvd_mul_left _ _)
            rcases hp.dvd_mul h5 with h | h
            · exact ha' h
            · exact hb' h
          exact Nat.Coprime.mul_dvd_of_dvd_of_dvd hcop hpmax hlow
        rcases Nat.le_total i j with h | h
        · refine ⟨s, p ^ j * t, Nat.dvd_trans hs (by rw [ea]; exact Nat.dvd_mul_left _ _), by rw [eb]; exact Nat.mul_dvd_mul (Nat.dvd_refl _) ht, ?_, ?_⟩
          · exact Nat.Coprime.mul_right (by rw [Nat.coprime_comm]; exact hcs hps) hst
          · rw [hlcm, Nat.max_eq_right h, ← hl, Nat.mul_left_comm]
        · refine ⟨p ^ i * s, t, by rw [ea]; exact Nat.mul_dvd_mul (Nat.dvd_refl _) hs, Nat.dvd_trans ht (by rw [eb]; exact Nat.dvd_mul_left _ _), ?_, ?_⟩
          · exact Nat.Coprime.mul_left (hcs hpt) hst
          · rw [hlcm, Nat.max_eq_left h, ← hl, Nat.mul_assoc]
  intro a b ha hb
  exact key (a + b) a b rfl ha hb

theorem ord_lcm {a b m s t : Nat} (ha : IsOrd a m s) (hb : IsOrd b m t) (hm : 1 ≤ m) : ∃ c, IsOrd c m (Nat.lcm s t) := by
  obtain ⟨u, v, hu, hv, huv, e⟩ := lcm_split s t ha.1 hb.1
  obtain ⟨s', rfl⟩ := hu
  obtain ⟨t', rfl⟩ := hv
  have h1 : IsOrd (a ^ s') m u := IsOrd.pow (by rw [Nat.mul_comm]; exact ha)
  have h2 : IsOrd (b ^ t') m v := IsOrd.pow (by rw [Nat.mul_comm]; exact hb)
  have := h1.mul h2 hm huv
  rw [e] at this
  exact ⟨_, this⟩

/-- The least number that all orders divide is an order itself (Carmichael). -/
theorem lambda_ex {m : Nat} (hm : 1 ≤ m) : ∃ c L, IsOrd c m L ∧ ∀ a o, IsOrd a m o → o ∣ L := by
  have key : ∀ k, ∃ c L, IsOrd c m L ∧ ∀ a, 1 ≤ a → a ≤ k → ∀ o, IsOrd a m o → o ∣ L := by
    intro k
    induction k with
    | zero =>
      refine ⟨1, 1, ⟨Nat.le_refl _, by simp, fun k h1 h2 => by omega⟩, fun a h1 h2 => by omega⟩
    | succ k ih =>
      obtain ⟨c, L, hc, hall⟩ := ih
      by_cases hex : ∃ o, IsOrd (k + 1) m o
      · obtain ⟨o, ho⟩ := hex
        obtain ⟨d, hd⟩ := ord_lcm hc ho hm
        refine ⟨d, Nat.lcm L o, hd, fun a h1 h2 o' ho' => ?_⟩
        by_cases e : a = k + 1
        · subst e; rw [ho'.uniq ho]; exact Nat.dvd_lcm_right L o
        · exact Nat.dvd_trans (hall a h1 (by omega) o' ho') (Nat.dvd_lcm_left L o)
      · refine ⟨c, L, hc, fun a h1 h2 o' ho' => ?_⟩
        by_cases e : a = k + 1
        · subst e; exact absurd ⟨o', ho'⟩ hex
        · exact hall a h1 (by omega) o' ho'
  obtain ⟨c, L, hc, hall⟩ := key m
  refine ⟨c, L, hc, fun a o ho => ?_⟩
  by_cases h0 : a % m = 0
  · -- then the modulus is 1
    have hg := cop_of_pow hm ho.1 ho.2.1
    have : m = 1 := by
      have h1 : m ∣ a := Nat.dvd_of_mod_eq_zero h0
      have h2 : m ∣ Nat.gcd a m := Nat.dvd_gcd h1 (Nat.dvd_refl _)
      rw [hg] at h2
      exact Nat.dvd_one.1 h2
    subst this
    have h1 : IsOrd a 1 1 := ⟨Nat.le_refl _, by rw [Nat.mod_one, Nat.mod_one], fun k h1 h2 => by omega⟩
    rw [ho.uniq h1]
    exact Nat.one_dvd _
  · exact hall (a % m) (by omega) (Nat.le_of_lt (Nat.mod_lt _ (by omega))) o (isOrd_mod.2 ho)

end Go.Proofs.Ytjpmkcijkcnfiaa.Num6
