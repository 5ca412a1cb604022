/-
  Plain arithmetic, without the model: all that divides a number, made of its primes one by one; and sums over it.
-/
import Derived.Test.YtlbmhhkhemhfaaaNum3
namespace Go.Proofs.Ytlbmhhkhemhfaaa.Num5
set_option linter.unusedVariables false
open Go.Proofs.Ytlbmhhkhemhfaaa.Num Go.Proofs.Ytlbmhhkhemhfaaa.Num3

/-- A list times each power, from the 0th to the kth. -/
def big (xs : List Nat) (p : Nat) : Nat → List Nat
  | 0 => xs
  | k + 1 => big xs p k ++ xs.map (· * p ^ (k + 1))

/-- The same, one by one: what is appended is itself multiplied later on. -/
def sp (xs : List Nat) (p : Nat) : Nat → List Nat
  | 0 => xs
  | j + 1 => sp xs p j ++ [(sp xs p j).getD j 0 * p]

theorem sp_length (xs : List Nat) (p : Nat) : ∀ j, (sp xs p j).length = xs.length + j
  | 0 => rfl
  | j + 1 => by simp [sp, sp_length xs p j]; omega

theorem big_length (xs : List Nat) (p : Nat) : ∀ k, (big xs p k).length = xs.length * (k + 1)
  | 0 => by simp [big]
  | k + 1 => by rw [big, List.length_append, big_length xs p k, List.length_map, Nat.mul_succ xs.length (k + 1)]

theorem big_last (xs : List Nat) (p : Nat) {j : Nat} (hj : j < xs.length) : ∀ k, (big xs p k)[xs.length * k + j]? = some (xs.getD j 0 * p ^ k)
  | 0 => by simp [big, hj]
  | k + 1 => by
    rw [big, List.getElem?_append_right (by rw [big_length]; omega), big_length, Nat.add_sub_cancel_left]
    simp [hj]

theorem sp_big (xs : List Nat) (p : Nat) : ∀ t j, j ≤ xs.length → sp xs p (xs.length * t + j) = big xs p t ++ (xs.map (· * p ^ (t + 1))).take j := by
  intro t
  have step : ∀ t, sp xs p (xs.length * t) = big xs p t → ∀ j, j ≤ xs.length → sp xs p (xs.length * t + j) = big xs p t ++ (xs.map (· * p ^ (t + 1))).take j := by
    intro t h0 j
    induction j with
    | zero => intro _; simp [h0]
    | succ j ih =>
      intro hj
      have hi := ih (by omega)
      show sp xs p (xs.length * t + j) ++ [(sp xs p (xs.length * t + j)).getD (xs.length * t + j) 0 * p] = _
      have e : (sp xs p (xs.length * t + j)).getD (xs.length * t + j) 0 = xs.getD j 0 * p ^ t := by
        rw [hi, List.getD, List.getElem?_append_left (by rw [big_length, Nat.mul_succ]; omega), big_last xs p (by omega) t]
        rfl
      rw [e, hi, List.take_add_one, List.append_assoc]
      congr 2
      simp [show j < xs.length by omega, Nat.pow_succ, Nat.mul_assoc]
  have all : ∀ t, sp xs p (xs.length * t) = big xs p t := by
    intro t
    induction t with
    | zero => rfl
    | succ t ih =>
      rw [Nat.mul_succ, step t ih xs.length (Nat.le_refl _)]
      show _ = big xs p t ++ _
      congr 1
      rw [List.take_of_length_le (by simp)]
  exact step t (all t)

theorem sp_all (xs : List Nat) (p k : Nat) : sp xs p (xs.length * k) = big xs p k := by
  have := sp_big xs p k 0 (Nat.zero_le _)
  simpa using this

theorem mem_big {xs : List Nat} {p d : Nat} : ∀ {k : Nat}, d ∈ big xs p k ↔ ∃ a ∈ xs, ∃ t, t ≤ k ∧ d = a * p ^ t
  | 0 => by
    simp only [big]
    constructor
    · intro h; exact ⟨d, h, 0, Nat.le_refl _, by simp⟩
    · rintro ⟨a, ha, t, ht, e⟩
      have : t = 0 := by omega
      subst this; simp at e; subst e; exact ha
  | k + 1 => by
    simp only [big, List.mem_append, mem_big (k := k), List.mem_map]
    constructor
    · rintro (⟨a, ha, t, ht, e⟩ | ⟨a, ha, e⟩)
      · exact ⟨a, ha, t, by omega, e⟩
      · exact ⟨a, ha, k + 1, Nat.le_refl _, e.symm⟩
    · rintro ⟨a, ha, t, ht, e⟩
      by_cases h : t ≤ k
      · exact .inl ⟨a, ha, t, h, e⟩
      · have : t = k + 1 := by omega
        subst this
        exact .inr ⟨a, ha, e.symm⟩

/-- All that divides m, each once. -/
def All (xs : List Nat) (m : Nat) : Prop := xs.Nodup ∧ ∀ d, d ∈ xs ↔ d ∣ m

theorem dvd_pow_split {p m k d : Nat} (hp : Pr p) (hm : 1 ≤ m) (hd : ¬ p ∣ m) : d ∣ m * p ^ k ↔ ∃ a, a ∣ m ∧ ∃ t, t ≤ k ∧ d = a * p ^ t := by
  constructor
  · intro h
    have hpos : 1 ≤ m * p ^ k := Nat.mul_le_mul hm (Nat.pow_pos (by have := hp.1; omega))
    have hd0 : 1 ≤ d := Nat.pos_of_dvd_of_pos h hpos
    obtain ⟨t, a, e, ha, ha1⟩ := pow_out hp.1 d hd0
    have hac : Nat.Coprime a (p ^ k) := by
      refine Nat.Coprime.pow_right k ?_
      rcases hp.2 (Nat.gcd a p) (Nat.gcd_dvd_right a p) with e1 | e1
      · exact e1
      · exact absurd (e1 ▸ Nat.gcd_dvd_left a p) ha
    have h1 : a ∣ m * p ^ k := Nat.dvd_trans (by rw [e]; exact Nat.dvd_mul_left _ _) h
    have h2 : a ∣ m := hac.dvd_of_dvd_mul_right h1
    refine ⟨a, h2, t, ?_, by rw [e, Nat.mul_comm]⟩
    by_cases hk : t ≤ k
    · exact hk
    · exfalso
      have h3 : p ^ (k + 1) ∣ m * p ^ k := by
        refine Nat.dvd_trans (Nat.pow_dvd_pow p (show k + 1 ≤ t by omega)) (Nat.dvd_trans ?_ h)
        rw [e]; exact Nat.dvd_mul_right _ _
      rw [Nat.pow_succ, Nat.mul_comm m] at h3
      exact hd (Nat.dvd_of_mul_dvd_mul_left (Nat.pow_pos (by have := hp.1; omega)) h3)
  · rintro ⟨a, ha, t, ht, e⟩
    rw [e]
    exact Nat.mul_dvd_mul ha (Nat.pow_dvd_pow p ht)

theorem All.step {xs : List Nat} {m p k : Nat} (h : All xs m) (hp : Pr p) (hm : 1 ≤ m) (hd : ¬ p ∣ m) : All (big xs p k) (m * p ^ k) := by
  have hx : ∀ a ∈ xs, ¬ p ∣ a := fun a ha hpa => hd (Nat.dvd_trans hpa ((h.2 a).1 ha))
  refine ⟨?_, fun d => ?_⟩
  · induction k with
    | zero => exact h.1
    | succ k ih =>
      refine List.nodup_append.2 ⟨ih, ?_, fun a ha b hb => ?_⟩
      · refine List.Pairwise.map _ ?_ h.1
        intro a b hab e
        exact hab (Nat.eq_of_mul_eq_mul_right (Nat.pow_pos (by have := hp.1; omega)) e)
      · obtain ⟨a', ha', t, ht, rfl⟩ := mem_big.1 ha
        obtain ⟨b', hb', rfl⟩ := List.mem_map.1 hb
        intro e
        have e2 : p ^ t * a' = p ^ (k + 1) * b' := by rw [Nat.mul_comm _ a', Nat.mul_comm _ b']; exact e
        have := (pow_split hp.1 (hx a' ha') (hx b' hb') e2).1
        omega
  · rw [mem_big, dvd_pow_split hp hm hd]
    constructor
    · rintro ⟨a, ha, t, ht, e⟩; exact ⟨a, (h.2 a).1 ha, t, ht, e⟩
    · rintro ⟨a, ha, t, ht, e⟩; exact ⟨a, (h.2 a).2 ha, t, ht, e⟩

/-- Made of all primes. -/
def dv (l : List (Nat × Nat)) : List Nat := l.foldl (fun xs q => big xs q.1 q.2) [1]

theorem dv_snoc (l : List (Nat × Nat)) (q : Nat × Nat) : dv (l ++ [q]) = big (dv l) q.1 q.2 := by simp [dv]

theorem all_one : All [1] 1 := ⟨by simp, fun d => by simp [Nat.dvd_one]⟩

/-- Whatever holds ahead of the primes, and is handed on by each. -/
theorem fold_ind {G : List Nat → Nat → Prop} (hG : ∀ xs m p k, G xs m → 1 ≤ m → Pr p → 1 ≤ k → ¬ p ∣ m → G (big xs p k) (m * p ^ k)) :
    ∀ (l : List (Nat × Nat)) (xs : List Nat) (m : Nat), G xs m → 1 ≤ m → (∀ x ∈ l, Pr x.1 ∧ 1 ≤ x.2) → l.Pairwise (fun x y => x.1 < y.1) → (∀ x ∈ l, ¬ x.1 ∣ m) → G (l.foldl (fun xs q => big xs q.1 q.2) xs) (m * pd l) := by
  intro l
  induction l with
  | nil => intro xs m h _ _ _ _; simpa [pd] using h
  | cons x l ih =>
    intro xs m h hm hp hw hn
    obtain ⟨hp1, hk1⟩ := hp x (by simp)
    have h1 := hG xs m x.1 x.2 h hm hp1 hk1 (hn x (by simp))
    have h2 := ih (big xs x.1 x.2) (m * x.1 ^ x.2) h1 (Nat.mul_le_mul hm (Nat.pow_pos (by have := hp1.1; omega))) (fun y hy => hp y (by simp [hy])) (List.pairwise_cons.1 hw).2 (fun y hy hd => by
      rcases (hp y (by simp [hy])).1.dvd_mul hd with h | h
      · exact hn y (by simp [hy]) h
      · have e := (hp y (by simp [hy])).1.eq_of_dvd hp1 ((hp y (by simp [hy])).1.dvd_pow h)
        have := (List.pairwise_cons.1 hw).1 y hy
        omega)
    rw [List.foldl_cons]
    simpa [pd, Nat.mul_assoc] using h2

theorem fac_ind {G : List Nat → Nat → Prop} (h1 : G [1] 1) (hG : ∀ xs m p k, G xs m → 1 ≤ m → Pr p → 1 ≤ k → ¬ p ∣ m → G (big xs p k) (m * p ^ k)) {n : Nat} {l : List (Nat × Nat)} (hF : Fac n l) : G (dv l) n := by
  have := fold_ind hG l [1] 1 h1 (Nat.le_refl _) hF.1 hF.2.1 (fun x hx hd => by
    have := Nat.le_of_dvd (by omega) hd
    have := (hF.1 x hx).1.1
    omega)
  rw [Nat.one_mul, hF.2.2] at this
  exact this

theorem dv_all {n : Nat} {l : List (Nat × Nat)} (hF : Fac n l) : All (dv l) n :=
  fac_ind (G := fun xs m => All xs m) all_one (fun xs m p k h hm hp _ hd => h.step hp hm hd) hF

/-- Sums. -/
def sumf (f : Nat → Int) : List Nat → Int
  | [] => 0
  | x :: xs => f x + sumf f xs

theorem sumf_append (f : Nat → Int) (l m : List Nat) : sumf f (l ++ m) = sumf f l + sumf f m := by
  induction l with
  | nil => simp [sumf]
  | cons x xs ih => simp [sumf, ih, Int.add_assoc]

theorem sumf_perm (f : Nat → Int) {l m : List Nat} (h : l.Perm m) : sumf f l = sumf f m := by
  induction h with
  | nil => rfl
  | cons x _ ih => simp [sumf, ih]
  | swap x y l => simp only [sumf]; omega
  | trans _ _ h1 h2 => rw [h1, h2]

theorem sumf_map {f g : Nat → Int} {h : Nat → Nat} {c : Int} {xs : List Nat} (hh : ∀ a ∈ xs, f (h a) = c * g a) : sumf f (xs.map h) = c * sumf g xs := by
  induction xs with
  | nil => simp [sumf]
  | cons x xs ih =>
    simp only [List.map_cons, sumf]
    rw [hh x (by simp), ih (fun a ha => hh a (by simp [ha])), Int.mul_add]

/-- Gauss. -/
theorem gauss {n : Nat} {l : List (Nat × Nat)} (hF : Fac n l) : sumf (fun x => (tot x : Int)) (dv l) = n := by
  refine (fac_ind (G := fun xs m => All xs m ∧ sumf (fun x => (tot x : Int)) xs = m) ⟨all_one, by simp [sumf, tot_one]⟩ ?_ hF).2
  rintro xs m p k ⟨hA, hs⟩ hm hp hk hd
  refine ⟨hA.step hp hm hd, ?_⟩
  have hx : ∀ a ∈ xs, ¬ p ∣ a := fun a ha hpa => hd (Nat.dvd_trans hpa ((hA.2 a).1 ha))
  have key : ∀ k, sumf (fun x => (tot x : Int)) (big xs p k) = (m * p ^ k : Nat) := by
    intro k
    induction k with
    | zero => simpa [big] using hs
    | succ k ih =>
      rw [big, sumf_append, ih, sumf_map (g := fun x => (tot x : Int)) (c := (p ^ k * (p - 1) : Nat)) (fun a ha => by
        rw [Nat.mul_comm a, tot_pow hp (hx a ha) k, Int.natCast_mul]), hs]
      have e : m * p ^ (k + 1) = m * p ^ k + p ^ k * (p - 1) * m := by
        obtain ⟨q, rfl⟩ : ∃ q, p = q + 1 := ⟨p - 1, by have := hp.1; omega⟩
        rw [Nat.pow_succ, Nat.add_sub_cancel, Nat.mul_comm (_ * q) m, ← Nat.mul_add]
        congr 1
        rw [Nat.mul_succ]; omega
      rw [e]; simp
  exact key k

/-- Put in where it belongs. -/
def ins (q : Nat × Nat) : List (Nat × Nat) → List (Nat × Nat)
  | [] => [q]
  | x :: xs => if q.1 < x.1 then q :: x :: xs else x :: ins q xs

theorem ins_perm (q : Nat × Nat) (l : List (Nat × Nat)) : (ins q l).Perm (q :: l) := by
  induction l with
  | nil => exact List.Perm.refl _
  | cons x xs ih =>
    unfold ins
    split
    · exact List.Perm.refl _
    · exact (List.Perm.cons x ih).trans (List.Perm.swap q x xs)

theorem pd_perm {l m : List (Nat × Nat)} (h : l.Perm m) : pd l = pd m := by
  induction h with
  | nil => rfl
  | cons x _ ih => simp [pd, ih]
  | swap x y l => simp only [pd]; rw [Nat.mul_left_comm]
  | trans _ _ h1 h2 => rw [h1, h2]

theorem ins_fac {a p t : Nat} {l : List (Nat × Nat)} (hF : Fac a l) (ha : 1 ≤ a) (hp : Pr p) (ht : 1 ≤ t) (hd : ¬ p ∣ a) : Fac (a * p ^ t) (ins (p, t) l) := by
  have hpm := ins_perm (p, t) l
  refine ⟨fun x hx => ?_, ?_, ?_⟩
  · rcases List.mem_cons.1 (hpm.mem_iff.1 hx) with e | hx
    · subst e; exact ⟨hp, ht⟩
    · exact hF.1 x hx
  · have hne : ∀ x ∈ l, x.1 ≠ p := fun x hx e => hd (by
      have := mem_dvd_pd hF.1 hx
      rw [hF.2.2, e] at this
      exact this)
    have : ∀ l : List (Nat × Nat), l.Pairwise (fun x y => x.1 < y.1) → (∀ x ∈ l, x.1 ≠ p) → (ins (p, t) l).Pairwise (fun x y => x.1 < y.1) := by
      intro l
      induction l with
      | nil => intro _ _; simp [ins]
      | cons x xs ih =>
        intro hw hn
        unfold ins
        split
        · rename_i hlt
          refine List.pairwise_cons.2 ⟨fun y hy => ?_, hw⟩
          rcases List.mem_cons.1 hy with e | hy
          · subst e; exact hlt
          · have := (List.pairwise_cons.1 hw).1 y hy
            simp at hlt ⊢; omega
        · rename_i hlt
          refine List.pairwise_cons.2 ⟨fun y hy => ?_, ih (List.pairwise_cons.1 hw).2 (fun y hy => hn y (by simp [hy]))⟩
          rcases List.mem_cons.1 ((ins_perm (p, t) xs).mem_iff.1 hy) with e | hy
          · subst e
            have := hn x (by simp)
            simp at hlt ⊢; omega
          · exact (List.pairwise_cons.1 hw).1 y hy
    exact this l hF.2.1 hne
  · rw [pd_perm hpm, pd, hF.2.2, Nat.mul_comm]

end Go.Proofs.Ytlbmhhkhemhfaaa.Num5
