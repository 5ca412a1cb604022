/-
  Plain arithmetic, without the model: when all numbers below 256 are back; how great that can be at most.
-/
import Derived.Test.YtngdhhhdnkkagaaNum18
namespace Go.Proofs.Ytngdhhhdnkkagaa.Num52
set_option linter.unusedVariables false
open Go.Proofs.Ytngdhhhdnkkagaa.Num6 Go.Proofs.Ytngdhhhdnkkagaa.Num18

/-- Each number of S is back behind just the multiples of o. -/
def OrdOf (f : Nat → Nat) (S : Nat → Prop) (o : Nat) : Prop := 1 ≤ o ∧ ∀ m, (∀ x, S x → it f x m = x) ↔ o ∣ m

/-- What the numbers below n become, these again, and no two become one. -/
def Turn (f : Nat → Nat) (n : Nat) : Prop := (∀ y, y < n → f y < n) ∧ ∀ y z, y < n → z < n → f y = f z → y = z

theorem Turn.rho {f : Nat → Nat} {n x : Nat} (h : Turn f n) (hx : x < n) : ∃ k, Rho f x 0 k ∧ 1 ≤ k ∧ k ≤ n := by
  obtain ⟨t, s, hR⟩ := rho_ex hx h.1
  by_cases e : t = 0
  · subst e
    exact ⟨s, hR, hR.pos, by have := hR.le hx h.1; omega⟩
  · exfalso
    refine hR.before (by omega) ?_
    refine h.2 _ _ (it_lt hx h.1 _) (it_lt hx h.1 _) ?_
    have h1 : f (it f x (t - 1)) = it f x t := by show it f x (t - 1 + 1) = _; rw [show t - 1 + 1 = t by omega]
    have h2 : f (it f x (t - 1 + s)) = it f x (t + s) := by show it f x (t - 1 + s + 1) = _; rw [show t - 1 + s + 1 = t + s by omega]
    rw [h1, h2, hR.back]

theorem rho_back {f : Nat → Nat} {x k : Nat} (h : Rho f x 0 k) (m : Nat) : it f x m = x ↔ k ∣ m := by
  by_cases e : m = 0
  · subst e; exact ⟨fun _ => Nat.dvd_zero _, fun _ => rfl⟩
  · have := h.iff (i := 0) (j := m) (by omega)
    rw [Nat.sub_zero] at this
    exact ⟨fun e => (this.mp e.symm).2, fun e => (this.mpr ⟨by omega, e⟩).symm⟩

theorem rho_same {f : Nat → Nat} {x k i j : Nat} (h : Rho f x 0 k) (hi : i < k) (hj : j < k) (e : it f x i = it f x j) : i = j := by
  rcases Nat.lt_trichotomy i j with hl | hl | hl
  · have := Nat.le_of_dvd (by omega) (h.only i j hl e).2; omega
  · exact hl
  · have := Nat.le_of_dvd (by omega) (h.only j i hl e.symm).2; omega

theorem OrdOf.nil {f : Nat → Nat} {S : Nat → Prop} (h : ∀ x, ¬ S x) : OrdOf f S 1 := ⟨by decide, fun m => ⟨fun _ => Nat.one_dvd m, fun _ x hx => absurd hx (h x)⟩⟩

theorem OrdOf.step {f : Nat → Nat} {S S' : Nat → Prop} {o x k : Nat} (h : OrdOf f S o) (hR : Rho f x 0 k) (h1 : ∀ y, S y → S' y) (h2 : S' x) (h3 : ∀ y, S' y → S y ∨ ∃ j, y = it f x j) : OrdOf f S' (Nat.lcm o k) := by
  refine ⟨Nat.pos_of_ne_zero (Nat.lcm_ne_zero (by have := h.1; omega) (by have := hR.pos; omega)), fun m => ⟨fun hm => Nat.lcm_dvd ((h.2 m).mp (fun y hy => hm y (h1 y hy))) ((rho_back hR m).mp (hm x h2)), fun hd y hy => ?_⟩⟩
  rcases h3 y hy with hs | ⟨j, e⟩
  · exact (h.2 m).mpr (Nat.dvd_trans (Nat.dvd_lcm_left _ _) hd) y hs
  · rw [e, ← it_add, Nat.add_comm, it_add, (rho_back hR m).mpr (Nat.dvd_trans (Nat.dvd_lcm_right _ _) hd)]

theorem OrdOf.dvd {f : Nat → Nat} {S T : Nat → Prop} {a b : Nat} (h : OrdOf f S a) (h' : OrdOf f T b) (hs : ∀ x, S x → T x) : a ∣ b :=
  (h.2 b).mp (fun x hx => (h'.2 b).mpr (Nat.dvd_refl b) x (hs x hx))

theorem OrdOf.uniq {f : Nat → Nat} {S T : Nat → Prop} {a b : Nat} (h : OrdOf f S a) (h' : OrdOf f T b) (hs : ∀ x, S x ↔ T x) : a = b :=
  Nat.dvd_antisymm (h.dvd h' (fun x => (hs x).mp)) (h'.dvd h (fun x => (hs x).mpr))

/-- The primes below 256. -/
def PS : List Nat := [2, 3, 5, 7, 11, 13, 17, 19, 23, 29, 31, 37, 41, 43, 47, 53, 59, 61, 67, 71, 73, 79, 83, 89, 97, 101, 103, 107, 109, 113, 127, 131, 137, 139, 149, 151, 157, 163, 167, 173, 179, 181, 191, 193, 197, 199, 211, 223, 227, 229, 233, 239, 241, 251]

/-- A product of their powers. -/
def pp (e : Nat → Nat) : List Nat → Nat
  | [] => 1
  | p :: t => p ^ e p * pp e t

/-- One power, as part of a sum. -/
def c1 (p k : Nat) : Nat := if k = 0 then 0 else p ^ k

/-- The sum of these powers. -/
def cs (e : Nat → Nat) : List Nat → Nat
  | [] => 0
  | p :: t => c1 p (e p) + cs e t

/-- How often p divides. -/
def vl (p : Nat) : Nat → Nat → Nat
  | 0, _ => 0
  | k + 1, n => if n % p = 0 then vl p k (n / p) + 1 else 0

/-- How much more than its part a power may count. -/
def bb (p : Nat) : Nat := if p < 20 then 17 else if p < 30 then 14 else if p < 44 then 10 else 0

def bs : List Nat → Nat
  | [] => 0
  | p :: t => bb p + bs t

theorem all_parts : ∀ c, c < 257 → c = 0 ∨ (pp (fun p => vl p 8 c) PS = c ∧ cs (fun p => vl p 8 c) PS ≤ c ∧ ∀ p, p ∈ PS → p ^ vl p 8 c ≤ 256) := by decide +kernel

theorem all_costs : ∀ p, p ∈ PS → ∀ k, k < 9 → p ^ k ≤ 256 → (p ^ k) ^ 8 ≤ 2 ^ (c1 p k + bb p) := by decide +kernel

theorem exp9 : ∀ p, p ∈ PS → 256 < p ^ 9 := by decide +kernel

theorem ps_two : ∀ p, p ∈ PS → 2 ≤ p := by decide +kernel

theorem costs {p k : Nat} (hp : p ∈ PS) (h : p ^ k ≤ 256) : (p ^ k) ^ 8 ≤ 2 ^ (c1 p k + bb p) := by
  by_cases hk : k < 9
  · exact all_costs p hp k hk h
  · have := Nat.pow_le_pow_right (show 0 < p by have := ps_two p hp; omega) (show 9 ≤ k by omega)
    have := exp9 p hp
    omega

theorem pp_costs (e : Nat → Nat) : ∀ (l : List Nat), (∀ p, p ∈ l → p ∈ PS) → (∀ p, p ∈ l → p ^ e p ≤ 256) → pp e l ^ 8 ≤ 2 ^ (cs e l + bs l)
  | [], _, _ => Nat.le_refl 1
  | p :: t, h1, h2 => by
    show (p ^ e p * pp e t) ^ 8 ≤ 2 ^ (c1 p (e p) + cs e t + (bb p + bs t))
    rw [Nat.mul_pow, show c1 p (e p) + cs e t + (bb p + bs t) = (c1 p (e p) + bb p) + (cs e t + bs t) by omega, Nat.pow_add]
    exact Nat.mul_le_mul (costs (h1 p List.mem_cons_self) (h2 p List.mem_cons_self)) (pp_costs e t (fun q hq => h1 q (List.mem_cons_of_mem _ hq)) (fun q hq => h2 q (List.mem_cons_of_mem _ hq)))

theorem pp_pos (e : Nat → Nat) : ∀ (l : List Nat), (∀ p, p ∈ l → 2 ≤ p) → 1 ≤ pp e l
  | [], _ => Nat.le_refl _
  | p :: t, h => Nat.mul_pos (Nat.pow_pos (by have := h p List.mem_cons_self; omega)) (pp_pos e t (fun q hq => h q (List.mem_cons_of_mem _ hq)))

theorem pp_max (a b : Nat → Nat) : ∀ (l : List Nat), pp a l ∣ pp (fun p => max (a p) (b p)) l ∧ pp b l ∣ pp (fun p => max (a p) (b p)) l
  | [] => ⟨Nat.dvd_refl _, Nat.dvd_refl _⟩
  | p :: t => ⟨Nat.mul_dvd_mul (Nat.pow_dvd_pow p (Nat.le_max_left _ _)) (pp_max a b t).1, Nat.mul_dvd_mul (Nat.pow_dvd_pow p (Nat.le_max_right _ _)) (pp_max a b t).2⟩

theorem c1_max (p i j : Nat) : c1 p (max i j) ≤ c1 p i + c1 p j := by
  rcases Nat.le_total i j with h | h
  · rw [Nat.max_eq_right h]; omega
  · rw [Nat.max_eq_left h]; omega

theorem cs_max (a b : Nat → Nat) : ∀ (l : List Nat), cs (fun p => max (a p) (b p)) l ≤ cs a l + cs b l
  | [] => Nat.le_refl _
  | p :: t => by
    have h1 := c1_max p (a p) (b p)
    have h2 := cs_max a b t
    show c1 p (max (a p) (b p)) + cs (fun p => max (a p) (b p)) t ≤ c1 p (a p) + cs a t + (c1 p (b p) + cs b t)
    omega

/-- It divides a product of powers of primes that together are no more than s. -/
def Wt (o s : Nat) : Prop := ∃ e : Nat → Nat, o ∣ pp e PS ∧ cs e PS ≤ s ∧ ∀ p, p ∈ PS → p ^ e p ≤ 256

theorem Wt.one : Wt 1 0 := ⟨fun _ => 0, Nat.one_dvd _, by decide +kernel, fun p _ => by rw [Nat.pow_zero]; decide⟩

theorem Wt.step {o s k : Nat} (h : Wt o s) (h1 : 1 ≤ k) (h2 : k ≤ 256) : Wt (Nat.lcm o k) (s + k) := by
  obtain ⟨e, hd, hc, hp⟩ := h
  rcases all_parts k (by omega) with e0 | ⟨q1, q2, q3⟩
  · omega
  · refine ⟨fun p => max (e p) (vl p 8 k), Nat.lcm_dvd (Nat.dvd_trans hd (pp_max e _ PS).1) ?_, Nat.le_trans (cs_max e _ PS) (by omega), fun p hpp => ?_⟩
    · have := (pp_max e (fun p => vl p 8 k) PS).2
      rw [q1] at this
      exact this
    · show p ^ max (e p) (vl p 8 k) ≤ 256
      rcases Nat.le_total (e p) (vl p 8 k) with hl | hl
      · rw [Nat.max_eq_right hl]; exact q3 p hpp
      · rw [Nat.max_eq_left hl]; exact hp p hpp

theorem Wt.le {o s : Nat} (h : Wt o s) (hs : s ≤ 256) : o ≤ 2 ^ 58 := by
  obtain ⟨e, hd, hc, hp⟩ := h
  have h1 := pp_pos e PS ps_two
  refine Nat.le_trans (Nat.le_of_dvd h1 hd) ?_
  have h2 := pp_costs e PS (fun _ h => h) hp
  have hb : bs PS ≤ 208 := by decide +kernel
  obtain ⟨m, hm⟩ : ∃ m, m = 58 := ⟨_, rfl⟩
  rw [← hm]
  have h3 : pp e PS ^ 8 ≤ (2 ^ m) ^ 8 := Nat.le_trans h2 (by rw [← Nat.pow_mul]; exact Nat.pow_le_pow_right (by decide) (by omega))
  exact (Nat.pow_le_pow_iff_left (by decide)).mp h3

/-- Numbers that were gone through: whole ways round. -/
structure Gone (f : Nat → Nat) (n : Nat) (l : List Nat) (o : Nat) : Prop where
  nodup : l.Nodup
  lt : ∀ y, y ∈ l → y < n
  fore : ∀ y, y ∈ l → f y ∈ l
  aft : ∀ y, y < n → f y ∈ l → y ∈ l
  ord : OrdOf f (fun y => y ∈ l) o
  wt : Wt o l.length

theorem aft_way {f : Nat → Nat} {n x : Nat} {S : Nat → Prop} (h : Turn f n) (hx : x < n) (ha : ∀ y, y < n → S (f y) → S y) : ∀ j, S (it f x j) → S x
  | 0, hs => hs
  | j + 1, hs => aft_way h hx ha j (ha _ (it_lt hx h.1 j) hs)

theorem Gone.step {f : Nat → Nat} {l : List Nat} {o x k : Nat} (h : Gone f 256 l o) (hT : Turn f 256) (hx : x < 256) (hl : x ∉ l) (hR : Rho f x 0 k) (hk : k ≤ 256) : Gone f 256 (l ++ (List.range k).map (it f x)) (Nat.lcm o k) := by
  have hb : it f x k = x := (rho_back hR k).mpr (Nat.dvd_refl k)
  have hp := hR.pos
  refine ⟨?_, ?_, ?_, ?_, ?_, ?_⟩
  · refine List.nodup_append.mpr ⟨h.nodup, ?_, ?_⟩
    · refine List.pairwise_map.mpr ?_
      refine List.Pairwise.imp_of_mem ?_ List.nodup_range
      intro i j hi hj hne e
      exact hne (rho_same hR (List.mem_range.mp hi) (List.mem_range.mp hj) e)
    · rintro a ha b hb' rfl
      obtain ⟨j, _, rfl⟩ := List.mem_map.mp hb'
      exact hl (aft_way (S := fun y => y ∈ l) hT hx h.aft j ha)
  · intro y hy
    rcases List.mem_append.mp hy with hy | hy
    · exact h.lt y hy
    · obtain ⟨j, _, rfl⟩ := List.mem_map.mp hy
      exact it_lt hx hT.1 j
  · intro y hy
    rcases List.mem_append.mp hy with hy | hy
    · exact List.mem_append_left _ (h.fore y hy)
    · obtain ⟨j, hj, rfl⟩ := List.mem_map.mp hy
      have hj := List.mem_range.mp hj
      refine List.mem_append_right _ (List.mem_map.mpr ?_)
      by_cases e : j + 1 < k
      · exact ⟨j + 1, List.mem_range.mpr e, rfl⟩
      · exact ⟨0, List.mem_range.mpr (by omega), by show x = it f x (j + 1); rw [show j + 1 = k by omega, hb]⟩
  · intro y hy hf
    rcases List.mem_append.mp hf with hf | hf
    · exact List.mem_append_left _ (h.aft y hy hf)
    · obtain ⟨j, hj, e⟩ := List.mem_map.mp hf
      have hj := List.mem_range.mp hj
      refine List.mem_append_right _ (List.mem_map.mpr ?_)
      by_cases e0 : j = 0
      · subst e0
        refine ⟨k - 1, List.mem_range.mpr (by omega), hT.2 _ _ (it_lt hx hT.1 _) hy ?_⟩
        rw [← e]
        show it f x (k - 1 + 1) = x
        rw [show k - 1 + 1 = k by omega, hb]
      · refine ⟨j - 1, List.mem_range.mpr (by omega), hT.2 _ _ (it_lt hx hT.1 _) hy ?_⟩
        rw [← e]
        show it f x (j - 1 + 1) = it f x j
        rw [show j - 1 + 1 = j by omega]
  · refine h.ord.step hR (fun y hy => List.mem_append_left _ hy) (List.mem_append_right _ (List.mem_map.mpr ⟨0, List.mem_range.mpr (by omega), rfl⟩)) (fun y hy => ?_)
    rcases List.mem_append.mp hy with hy | hy
    · exact .inl hy
    · obtain ⟨j, _, e⟩ := List.mem_map.mp hy
      exact .inr ⟨j, e.symm⟩
  · have := h.wt.step hp hk
    simpa using this

theorem gone_ex {f : Nat → Nat} (hT : Turn f 256) : ∀ n, n ≤ 256 → ∃ l o, Gone f 256 l o ∧ ∀ x, x < n → x ∈ l
  | 0, _ => ⟨[], 1, ⟨List.nodup_nil, fun y hy => by simp at hy, fun y hy => by simp at hy, fun y _ hy => by simp at hy, OrdOf.nil (fun x hx => by simp at hx), Wt.one⟩, fun x hx => by omega⟩
  | n + 1, hn => by
    obtain ⟨l, o, hG, hl⟩ := gone_ex hT n (by omega)
    by_cases e : n ∈ l
    · exact ⟨l, o, hG, fun x hx => by
        by_cases e' : x = n
        · rw [e']; exact e
        · exact hl x (by omega)⟩
    · obtain ⟨k, hR, h1, h2⟩ := hT.rho (x := n) (by omega)
      refine ⟨_, _, hG.step hT (by omega) e hR h2, fun x hx => ?_⟩
      by_cases e' : x = n
      · rw [e']; exact List.mem_append_right _ (List.mem_map.mpr ⟨0, List.mem_range.mpr (by omega), rfl⟩)
      · exact List.mem_append_left _ (hl x (by omega))

/-- There is a number behind which all are back, and it is not too great. -/
theorem all_ex {f : Nat → Nat} (hT : Turn f 256) : ∃ o, OrdOf f (fun x => x < 256) o ∧ o ≤ 2 ^ 58 := by
  obtain ⟨l, o, hG, hl⟩ := gone_ex hT 256 (Nat.le_refl _)
  have hlen : l.length ≤ 256 := by
    by_cases e : l.length ≤ 256
    · exact e
    · have := (perm_of_sub (m := List.range 256) hG.nodup (fun x hx => List.mem_range.mpr (hG.lt x hx)) (by simp; omega)).length_eq
      simp at this; omega
  refine ⟨o, ⟨hG.ord.1, fun m => ?_⟩, hG.wt.le hlen⟩
  rw [← hG.ord.2 m]
  exact ⟨fun h x hx => h x (hG.lt x hx), fun h x hx => h x (hl x hx)⟩

end Go.Proofs.Ytngdhhhdnkkagaa.Num52
