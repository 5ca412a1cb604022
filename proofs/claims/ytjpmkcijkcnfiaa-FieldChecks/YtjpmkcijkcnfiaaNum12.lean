/-
  Plain arithmetic, without the model: how many seem to prove a number a prime: half at most by Euler's criterion, a quarter at most by square roots of 1.
-/
import Derived.Test.YtjpmkcijkcnfiaaNum11
namespace Go.Proofs.Ytjpmkcijkcnfiaa.Num12
set_option linter.unusedVariables false
open Go.Proofs.Ytjpmkcijkcnfiaa.Num Go.Proofs.Ytjpmkcijkcnfiaa.Num3 Go.Proofs.Ytjpmkcijkcnfiaa.Num6 Go.Proofs.Ytjpmkcijkcnfiaa.Num7 Go.Proofs.Ytjpmkcijkcnfiaa.Num8 Go.Proofs.Ytjpmkcijkcnfiaa.Num9 Go.Proofs.Ytjpmkcijkcnfiaa.Num10 Go.Proofs.Ytjpmkcijkcnfiaa.Num11

theorem len_le {l m : List Nat} : l.Nodup → (∀ x ∈ l, x ∈ m) → l.length ≤ m.length := by
  induction l generalizing m with
  | nil => intro _ _; exact Nat.zero_le _
  | cons x t ih =>
    intro hn hs
    obtain ⟨hx, hn'⟩ := List.nodup_cons.1 hn
    have hxm := hs x (by simp)
    have h1 := ih (m := m.erase x) hn' (fun y hy => by
      have hne : y ≠ x := by intro e; subst e; exact hx hy
      exact (List.mem_erase_of_ne hne).2 (hs y (by simp [hy])))
    rw [List.length_erase_of_mem hxm] at h1
    have : 1 ≤ m.length := List.length_pos_of_mem hxm
    rw [List.length_cons]; omega

theorem unit_mul {n a x : Nat} (hn : 2 ≤ n) (ha : Nat.gcd a n = 1) (hx : x ∈ ul n n) : a * x % n ∈ ul n n := by
  obtain ⟨h1, h2, h3⟩ := mem_ul.1 hx
  have hg : Nat.gcd (a * x % n) n = 1 := by rw [gcd_mod]; exact Nat.Coprime.mul_left ha h3
  refine mem_ul.2 ⟨?_, Nat.le_of_lt (Nat.mod_lt _ (by omega)), hg⟩
  rcases Nat.eq_zero_or_pos (a * x % n) with e | e
  · rw [e, Nat.gcd_zero_left] at hg; omega
  · exact e

theorem unit_lt {n x : Nat} (hn : 2 ≤ n) (hx : x ∈ ul n n) : x < n := by
  obtain ⟨h1, h2, h3⟩ := mem_ul.1 hx
  by_cases e : x = n
  · subst e; rw [Nat.gcd_self] at h3; omega
  · omega

/-- As many times as nothing meets, so many times they fit. -/
theorem coset {n : Nat} (hn : 2 ≤ n) {L : List Nat} (hL : L.Nodup) (hu : ∀ u ∈ L, u ∈ ul n n) : ∀ T : List Nat, (∀ t ∈ T, Nat.gcd t n = 1) → T.Pairwise (fun s t => ∀ u ∈ L, ∀ v ∈ L, ¬ s * u % n = t * v % n) →
    T.length * L.length ≤ tot n := by
  have key : ∀ T : List Nat, (∀ t ∈ T, Nat.gcd t n = 1) → T.Pairwise (fun s t => ∀ u ∈ L, ∀ v ∈ L, ¬ s * u % n = t * v % n) →
      ∃ M : List Nat, M.Nodup ∧ (∀ x ∈ M, x ∈ ul n n) ∧ M.length = T.length * L.length ∧ ∀ x ∈ M, ∃ t ∈ T, ∃ u ∈ L, x = t * u % n := by
    intro T
    induction T with
    | nil => intro _ _; exact ⟨[], by simp, by simp, by simp, by simp⟩
    | cons t T ih =>
      intro hg hw
      obtain ⟨M, h1, h2, h3, h4⟩ := ih (fun s hs => hg s (by simp [hs])) (List.pairwise_cons.1 hw).2
      refine ⟨L.map (fun u => t * u % n) ++ M, ?_, ?_, ?_, ?_⟩
      · refine List.nodup_append.2 ⟨?_, h1, fun a ha b hb e => ?_⟩
        · refine List.pairwise_map.2 (hL.imp_of_mem (fun {x y} hx hy hne e => hne ?_))
          have e2 := cancel (m := n) (x := x) (y := y) (c := t) (by rw [Nat.mul_comm x, Nat.mul_comm y]; exact e) (hg t (by simp))
          rwa [Nat.mod_eq_of_lt (unit_lt hn (hu x hx)), Nat.mod_eq_of_lt (unit_lt hn (hu y hy))] at e2
        · obtain ⟨u, hu', rfl⟩ := List.mem_map.1 ha
          obtain ⟨s, hs, v, hv, rfl⟩ := h4 b hb
          exact (List.pairwise_cons.1 hw).1 s hs u hu' v hv e
      · intro x hx
        rcases List.mem_append.1 hx with hx | hx
        · obtain ⟨u, hu', rfl⟩ := List.mem_map.1 hx
          exact unit_mul hn (hg t (by simp)) (hu u hu')
        · exact h2 x hx
      · rw [List.length_append, List.length_map, h3, List.length_cons, Nat.succ_mul]; omega
      · intro x hx
        rcases List.mem_append.1 hx with hx | hx
        · obtain ⟨u, hu', rfl⟩ := List.mem_map.1 hx
          exact ⟨t, by simp, u, hu', rfl⟩
        · obtain ⟨s, hs, v, hv, e⟩ := h4 x hx
          exact ⟨s, by simp [hs], v, hv, e⟩
  intro T hg hw
  obtain ⟨M, h1, h2, h3, _⟩ := key T hg hw
  have := len_le h1 h2
  rw [h3, ul_length] at this
  exact this

/-- What is not 1 by Fermat, where a square divides. -/
theorem square_b {n p N : Nat} (hp : Pr p) (hn : n = p * N) (hpN : p ∣ N) (hN : 1 ≤ N) (k : Nat) : (1 + N) ^ k % n = 1 % n ↔ p ∣ k := by
  obtain ⟨w, hw⟩ := binom1 N k
  obtain ⟨r, hr⟩ := hpN
  have e : N * N * w = n * (r * w) := by
    rw [hn]
    conv => lhs; rw [show N * N = N * (p * r) by rw [← hr]]
    simp only [Nat.mul_assoc, Nat.mul_left_comm]
  rw [hw, e, Nat.add_mul_mod_self_left, mod_eq_iff]
  have e2 : ((1 + k * N : Nat) : Int) - ((1 : Nat) : Int) = ((k * N : Nat) : Int) := by omega
  rw [e2, Int.natCast_dvd_natCast, hn]
  exact Nat.mul_dvd_mul_iff_right (by omega)

theorem tot_low {p N : Nat} (hp : Pr p) : tot (p * N) ≤ (p - 1) * N := by
  have h1 : ∀ k, cnt (fun x => Nat.gcd x (p * N) == 1) k ≤ cnt (fun x => !decide (p ∣ x)) k := by
    intro k
    induction k with
    | zero => exact Nat.le_refl _
    | succ k ih =>
      simp only [cnt]
      by_cases h : Nat.gcd (k + 1) (p * N) = 1
      · have h2 : ¬ p ∣ k + 1 := (gcd_prime hp).1 (Nat.Coprime.coprime_dvd_right (Nat.dvd_mul_right p N) h)
        rw [if_pos (by simpa using h), if_pos (by simpa using h2)]; omega
      · rw [if_neg (by simpa using h)]
        split <;> omega
  have h2 := cnt_not (fun x => decide (p ∣ x)) (p * N)
  have h3 := cnt_multiples (p := p) (by have := hp.1; omega) (fun _ => true) N
  simp only [Bool.and_true] at h3
  have h4 : ∀ k, cnt (fun _ => true) k = k := by
    intro k
    induction k with
    | zero => rfl
    | succ k ih => simp only [cnt, ih]; rfl
  rw [h4] at h3
  rw [h3] at h2
  have h5 := h1 (p * N)
  have e : p * N = (p - 1) * N + N := by
    obtain ⟨q, hq⟩ : ∃ q, p = q + 1 := ⟨p - 1, by have := hp.1; omega⟩
    rw [hq, Nat.succ_mul, Nat.add_sub_cancel]
  show cnt (fun x => Nat.gcd x (p * N) == 1) (p * N) ≤ _
  omega

theorem tot_lt {n : Nat} (hn : 2 ≤ n) : tot n ≤ n - 1 := by
  obtain ⟨p, hp, ⟨N, rfl⟩, _⟩ := least_prime hn
  have := tot_low (N := N) hp
  have h2 := hp.1
  have hN : 1 ≤ N := by
    rcases Nat.eq_zero_or_pos N with e | e
    · subst e; simp at hn
    · exact e
  have e : p * N = (p - 1) * N + N := by
    obtain ⟨q, hq⟩ : ∃ q, p = q + 1 := ⟨p - 1, by omega⟩
    rw [hq, Nat.succ_mul, Nat.add_sub_cancel]
  omega

theorem pow_mod_mul (a b k n : Nat) : (a * b % n) ^ k % n = a ^ k * b ^ k % n := by rw [← Nat.pow_mod, Nat.mul_pow]

/-- Where a square divides: of those that are 1 by Fermat. -/
theorem fermat_square {n p N : Nat} (hp : Pr p) (hp3 : 3 ≤ p) (hn : n = p * N) (hpN : p ∣ N) (hN : 1 ≤ N) {L : List Nat} (hL : L.Nodup) (hu : ∀ u ∈ L, u ∈ ul n n) (hF : ∀ u ∈ L, u ^ (n - 1) % n = 1) : 4 * L.length ≤ n - 1 := by
  have hn2 : 2 ≤ n := by
    have : p * 1 ≤ p * N := Nat.mul_le_mul_left p hN
    omega
  have hone : 1 % n = 1 := Nat.mod_eq_of_lt (by omega)
  have hb := square_b hp hn hpN hN
  have hg : Nat.gcd (1 + N) n = 1 := cop_of_pow (k := p) (by omega) (by omega) ((hb p).2 (Nat.dvd_refl _))
  have hnp : ¬ p ∣ n - 1 := fun h => by
    have h1 : p ∣ n := by rw [hn]; exact Nat.dvd_mul_right _ _
    have h2 : p ∣ n - (n - 1) := Nat.dvd_sub h1 h
    rw [show n - (n - 1) = 1 by omega] at h2
    have := Nat.le_of_dvd (by omega) h2
    omega
  have hc := coset hn2 hL hu ((List.range p).map (fun i => (1 + N) ^ i)) (fun t ht => by
    obtain ⟨i, _, rfl⟩ := List.mem_map.1 ht
    exact Nat.Coprime.pow_left i hg) (by
    refine List.pairwise_map.2 ((List.nodup_range (n := p)).imp_of_mem (fun {i j} hi hj hne u hu' v hv e => ?_))
    have hi' := List.mem_range.1 hi
    have hj' := List.mem_range.1 hj
    have e2 : ((1 + N) ^ i * u) ^ (n - 1) % n = ((1 + N) ^ j * v) ^ (n - 1) % n := by rw [Nat.pow_mod, e, ← Nat.pow_mod]
    have e3 : ∀ {i u : Nat}, u ∈ L → ((1 + N) ^ i * u) ^ (n - 1) % n = (1 + N) ^ (i * (n - 1)) % n := fun {i u} hu' => by
      rw [Nat.mul_pow, Nat.mul_mod, hF u hu', Nat.mul_one, Nat.mod_mod, ← Nat.pow_mul]
    rw [e3 hu', e3 hv] at e2
    have key : ∀ i j, i < p → j < p → i < j → (1 + N) ^ (i * (n - 1)) % n = (1 + N) ^ (j * (n - 1)) % n → False := by
      intro i j hi hj hij e
      have e4 : (1 + N) ^ (j * (n - 1)) = (1 + N) ^ ((j - i) * (n - 1)) * (1 + N) ^ (i * (n - 1)) := by
        rw [← Nat.pow_add, ← Nat.add_mul]; congr 2; omega
      have e5 : (1 + N) ^ ((j - i) * (n - 1)) * (1 + N) ^ (i * (n - 1)) % n = 1 * (1 + N) ^ (i * (n - 1)) % n := by rw [← e4, Nat.one_mul]; exact e.symm
      have e6 := cancel e5 (Nat.Coprime.pow_left _ hg)
      rcases hp.dvd_mul ((hb _).1 e6) with h | h
      · have := Nat.le_of_dvd (by omega) h; omega
      · exact hnp h
    rcases Nat.lt_trichotomy i j with h | h | h
    · exact key i j hi' hj' h e2
    · exact hne h
    · exact key j i hj' hi' h e2.symm)
  rw [List.length_map, List.length_range] at hc
  obtain ⟨r, hr⟩ := hpN
  have ht : tot n ≤ (p - 1) * N := by rw [hn]; exact tot_low hp
  have h1 : p * L.length ≤ p * ((p - 1) * r) := by
    refine Nat.le_trans hc (Nat.le_trans ht ?_)
    rw [hr, Nat.mul_left_comm]; exact Nat.le_refl _
  have h2 : L.length ≤ (p - 1) * r := Nat.le_of_mul_le_mul_left h1 (by omega)
  have hr1 : 1 ≤ r := by
    rcases Nat.eq_zero_or_pos r with e | e
    · subst e; rw [Nat.mul_zero] at hr; omega
    · exact e
  obtain ⟨q, rfl⟩ : ∃ q, p = q + 3 := ⟨p - 3, by omega⟩
  have h3 : 4 * ((q + 3 - 1) * r) + 1 ≤ (q + 3) * N := by
    rw [hr]
    have e1 : q + 3 - 1 = q + 2 := by omega
    rw [e1]
    have e2 : (q + 3) * ((q + 3) * r) = 4 * ((q + 2) * r) + (q * q + 2 * q + 1) * r := by
      rw [← Nat.mul_assoc, ← Nat.mul_assoc, ← Nat.add_mul]
      congr 1
      simp only [Nat.mul_add, Nat.add_mul]
      omega
    rw [e2]
    have : 1 * 1 ≤ (q * q + 2 * q + 1) * r := Nat.mul_le_mul (by omega) hr1
    omega
  rw [hn]
  omega

/-- A composite odd number has a square that divides it, or is a product of a prime and a number that have nothing in common. -/
theorem comp_cases {n : Nat} (hn : 3 ≤ n) (ho : n % 2 = 1) (hc : ¬ Pr n) : (∃ p N, Pr p ∧ 3 ≤ p ∧ n = p * N ∧ p ∣ N ∧ 1 ≤ N) ∨ ∃ p m, Pr p ∧ 3 ≤ p ∧ n = p * m ∧ ¬ p ∣ m ∧ 3 ≤ m ∧ m % 2 = 1 := by
  obtain ⟨p, hp, ⟨m, hm⟩, _⟩ := least_prime (n := n) (by omega)
  have h2 := hp.1
  rw [hm] at ho
  obtain ⟨hp2, hm2⟩ := odd_factors ho
  have hm1 : m ≠ 1 := fun e => hc (by rw [hm, e, Nat.mul_one]; exact hp)
  by_cases hd : p ∣ m
  · exact .inl ⟨p, m, hp, by omega, hm, hd, by omega⟩
  · exact .inr ⟨p, m, hp, by omega, hm, hd, by omega, hm2⟩

theorem cop_prime {p m : Nat} (hp : Pr p) (h : ¬ p ∣ m) : Nat.gcd p m = 1 := by
  have := (gcd_prime hp).2 h
  rw [Nat.gcd_comm]; exact this

/-- Some one does not seem to be so. -/
theorem not_euler {n : Nat} (hn : 3 ≤ n) (ho : n % 2 = 1) (hc : ¬ Pr n) {l : List (Nat × Nat)} (hF : Fac n l) : ∃ b, Nat.gcd b n = 1 ∧ ¬ EulerB b n l := by
  rcases comp_cases hn ho hc with ⟨p, N, hp, hp3, e, hpN, hN⟩ | ⟨p, m, hp, hp3, e, hd, hm, hm2⟩
  · have hb := square_b hp e hpN hN
    refine ⟨1 + N, cop_of_pow (k := p) (by omega) (by omega) ((hb p).2 (Nat.dvd_refl _)), fun h => ?_⟩
    have h1 := euler_fermat hn ho hF h
    have h2 := (hb (n - 1)).1 (by rw [h1, Nat.mod_eq_of_lt (show 1 < n by omega)])
    have h3 : p ∣ n := by rw [e]; exact Nat.dvd_mul_right _ _
    have h4 : p ∣ n - (n - 1) := Nat.dvd_sub h3 h2
    rw [show n - (n - 1) = 1 by omega] at h4
    have := Nat.le_of_dvd (by omega) h4
    omega
  · obtain ⟨h, hh, hh1⟩ := odd_half hp (by omega)
    -- a number whose powers are all has no root
    obtain ⟨g, hg⟩ := prim_ex hp
    have hgp := cop_of_pow (by omega) hg.1 hg.2.1
    have hg0 : ¬ g % p = 0 := fun e => (gcd_prime hp).1 hgp (Nat.dvd_of_mod_eq_zero e)
    have hlg : leg g p = -1 := by
      rcases leg_three g p with e0 | e0 | e0
      · exact absurd (leg_zero.1 e0) hg0
      · exfalso
        have h1 := euler_crit hp hh hh1 g
        rw [e0, ← natpow_cast] at h1
        have h2 := (one_iff (by omega)).2 h1
        have h3 := (hg.dvd h).1 (by rw [h2, one_mod hp])
        have := Nat.le_of_dvd (by omega) h3
        omega
      · exact e0
    have hpm := cop_prime hp hd
    obtain ⟨b, hb1, hb2⟩ := sun (by omega) (by omega) hpm g 1
    have hgb1 : Nat.gcd b p = 1 := by rw [← gcd_mod, hb1, gcd_mod]; exact hgp
    have hgb2 : Nat.gcd b m = 1 := by rw [← gcd_mod, hb2, gcd_mod]; exact Nat.gcd_one_left _
    refine ⟨b, by rw [e]; exact Nat.Coprime.mul_right hgb1 hgb2, fun hE => ?_⟩
    obtain ⟨k, hk⟩ := Fac.exists m (by omega)
    have hj : jac b l = -1 := by
      have e1 : jac b l = leg b p * jac b k := by
        have hF2 := bump_fac hk hp
        rw [← e] at hF2
        rw [hF.unique hF2]; exact jlc_bump _ _ _
      rw [e1, leg_mod hb1, hlg, jac_mod hk hb2, jac_one hk]; rfl
    obtain ⟨_, hd2⟩ := hE
    rw [hj] at hd2
    have h3 : (m : Int) ∣ (b : Int) ^ ((n - 1) / 2) - -1 := Int.dvd_trans ⟨(p : Int), by rw [e, Int.natCast_mul, Int.mul_comm]⟩ hd2
    have h4 : (m : Int) ∣ (b : Int) - 1 := (mod_eq_iff (x := b) (y := 1)).1 hb2
    have h5 := int_pow_one h4 ((n - 1) / 2)
    have h6 := Int.dvd_sub h3 h5
    have e7 : (b : Int) ^ ((n - 1) / 2) - -1 - ((b : Int) ^ ((n - 1) / 2) - 1) = 2 := by omega
    rw [e7] at h6
    have := Int.le_of_dvd (by omega) h6
    omega

/-- Solovay, Strassen. -/
theorem solovay {n : Nat} (hn : 3 ≤ n) (ho : n % 2 = 1) (hc : ¬ Pr n) {l : List (Nat × Nat)} (hF : Fac n l) {L : List Nat} (hL : L.Nodup) (hu : ∀ u ∈ L, 1 ≤ u ∧ u < n) (hE : ∀ u ∈ L, EulerB u n l) : 2 * L.length ≤ tot n := by
  obtain ⟨b, hb, hnb⟩ := not_euler hn ho hc hF
  have hul : ∀ u ∈ L, u ∈ ul n n := fun u h => mem_ul.2 ⟨(hu u h).1, by have := (hu u h).2; omega, (hE u h).1⟩
  have hcs := coset (by omega) hL hul [1, b] (fun t ht => by
    rcases List.mem_cons.1 ht with e | ht
    · subst e; exact Nat.gcd_one_left _
    · simp at ht; subst ht; exact hb) (by
    refine List.pairwise_cons.2 ⟨fun t ht u hu' v hv e => ?_, by simp⟩
    simp at ht; subst ht
    rw [Nat.one_mul] at e
    -- u is t * v
    refine hnb ⟨hb, ?_⟩
    obtain ⟨_, hu1⟩ := hE u hu'
    obtain ⟨hvg, hv1⟩ := hE v hv
    have hjv : jac v l * jac v l = 1 := by
      rcases jac_three (n := n) (l := l) v with e0 | e0 | e0
      · exact absurd hvg ((jac_zero hF).1 e0)
      · rw [e0]; rfl
      · rw [e0]; rfl
    have hju : jac u l = jac t l * jac v l := by rw [jac_mod hF e, jac_mul hF ho]
    have hpw : (n : Int) ∣ ((u : Int) ^ ((n - 1) / 2)) - (t : Int) ^ ((n - 1) / 2) * (v : Int) ^ ((n - 1) / 2) := by
      have e1 : u ^ ((n - 1) / 2) % n = (t * v) ^ ((n - 1) / 2) % n := by rw [Nat.pow_mod, e, ← Nat.pow_mod]
      have e2 := mod_eq_iff.1 e1
      rw [natpow_cast, Nat.mul_pow, Int.natCast_mul, natpow_cast, natpow_cast] at e2
      exact e2
    rw [hju] at hu1
    generalize (u : Int) ^ ((n - 1) / 2) = U at *
    generalize (t : Int) ^ ((n - 1) / 2) = X at *
    generalize (v : Int) ^ ((n - 1) / 2) = V at *
    generalize jac t l = jt at *
    generalize jac v l = jv at *
    obtain ⟨q1, e1⟩ := hu1
    obtain ⟨q2, e2⟩ := hv1
    obtain ⟨q3, e3⟩ := hpw
    -- X * V = jt * jv, V = jv
    have g1 : V = jv + n * q2 := by omega
    have g2 : X * V = jt * jv + n * (q1 - q3) := by rw [Int.mul_sub]; omega
    rw [g1, Int.mul_add] at g2
    -- times jv
    have g3 : (X * jv + X * (n * q2)) * jv = (jt * jv + n * (q1 - q3)) * jv := by rw [g2]
    rw [Int.add_mul, Int.add_mul, Int.mul_assoc X jv jv, Int.mul_assoc jt jv jv, hjv, Int.mul_one, Int.mul_one] at g3
    refine ⟨(q1 - q3) * jv - X * q2 * jv, ?_⟩
    have g4 : X * (n * q2) * jv = n * (X * q2 * jv) := by rw [Int.mul_left_comm X, Int.mul_assoc]
    have g5 : n * (q1 - q3) * jv = n * ((q1 - q3) * jv) := Int.mul_assoc _ _ _
    rw [g4, g5] at g3
    rw [Int.mul_sub]; omega)
  simpa using hcs

end Go.Proofs.Ytjpmkcijkcnfiaa.Num12
