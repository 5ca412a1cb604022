/-
  Sums over all that divides a number: how many have nothing in common with each; what Mobius has of each.
-/
import Derived.Test.YtlbmhhkhemhfaabCalls16
import Derived.Test.YtlbmhhkhemhfaabCalls10
namespace Go.Proofs.Ytlbmhhkhemhfaab.Calls17
set_option linter.unusedVariables false
open Go.RowKit Go.Proofs.Ytlbmhhkhemhfaab.Num Go.Proofs.Ytlbmhhkhemhfaab.Num3 Go.Proofs.Ytlbmhhkhemhfaab.Num5 Go.Proofs.Ytlbmhhkhemhfaab.Calls7 Go.Proofs.Ytlbmhhkhemhfaab.Calls8 Go.Proofs.Ytlbmhhkhemhfaab.Calls9 Go.Proofs.Ytlbmhhkhemhfaab.Calls15 Go.Proofs.Ytlbmhhkhemhfaab.Calls16

theorem mob_ins {l : List (Nat × Nat)} {p : Nat} : mob (ins (p, 1) l) = - mob l := by
  have hp := ins_perm (p, 1) l
  have hl : (ins (p, 1) l).length = l.length + 1 := by rw [hp.length_eq]; rfl
  have ha : (ins (p, 1) l).any (fun x => decide (1 < x.2)) = l.any (fun x => decide (1 < x.2)) := by
    rw [Bool.eq_iff_iff, List.any_eq_true, List.any_eq_true]
    constructor
    · rintro ⟨x, hx, h⟩
      rcases List.mem_cons.1 (hp.mem_iff.1 hx) with e | hx
      · subst e; simp at h
      · exact ⟨x, hx, h⟩
    · rintro ⟨x, hx, h⟩
      exact ⟨x, hp.mem_iff.2 (List.mem_cons_of_mem _ hx), h⟩
  unfold mob
  rw [ha, hl]
  by_cases h1 : l.any (fun x => decide (1 < x.2)) = true
  · rw [if_pos h1, if_pos h1]; rfl
  · rw [if_neg h1, if_neg h1]
    by_cases h2 : l.length % 2 = 1
    · rw [if_neg (by omega), if_pos h2]; rfl
    · rw [if_pos (by omega), if_neg h2]

theorem mob_ins2 {l : List (Nat × Nat)} {p t : Nat} (h : 2 ≤ t) : mob (ins (p, t) l) = 0 :=
  mob_zero ⟨(p, t), (ins_perm (p, t) l).mem_iff.2 (by simp), by simp; omega⟩

theorem mu_ex : ∃ mu : Nat → Int, ∀ n l, Fac n l → mu n = mob l := by
  have h : ∀ n : Nat, ∃ z : Int, ∀ l, Fac n l → z = mob l := by
    intro n
    by_cases hn : 1 ≤ n
    · obtain ⟨l, hl⟩ := Fac.exists n hn
      exact ⟨mob l, fun l' hl' => by rw [hl.unique hl']⟩
    · exact ⟨0, fun l hl => by
        have := pd_pos hl.1
        rw [hl.2.2] at this
        exact absurd this hn⟩
  exact ⟨fun n => Classical.choose (h n), fun n l hl => Classical.choose_spec (h n) l hl⟩

theorem mobius_sum {mu : Nat → Int} (hmu : ∀ n l, Fac n l → mu n = mob l) {n : Nat} {l : List (Nat × Nat)} (hF : Fac n l) : sumf mu (dv l) = if n = 1 then 1 else 0 := by
  have h1 : mu 1 = 1 := by rw [hmu 1 [] ⟨by simp, by simp, rfl⟩]; rfl
  refine (fac_ind (G := fun xs m => All xs m ∧ sumf mu xs = if m = 1 then 1 else 0) ⟨all_one, by simp [sumf, h1]⟩ ?_ hF).2
  rintro xs m p k ⟨hA, hs⟩ hm hp hk hd
  refine ⟨hA.step hp hm hd, ?_⟩
  have hx : ∀ a ∈ xs, ¬ p ∣ a := fun a ha hpa => hd (Nat.dvd_trans hpa ((hA.2 a).1 ha))
  have hx1 : ∀ a ∈ xs, 1 ≤ a := fun a ha => Nat.pos_of_dvd_of_pos ((hA.2 a).1 ha) hm
  have hone : ∀ a ∈ xs, mu (a * p ^ 1) = -1 * mu a := fun a ha => by
    obtain ⟨la, hla⟩ := Fac.exists a (hx1 a ha)
    rw [hmu _ _ (ins_fac hla (hx1 a ha) hp (Nat.le_refl 1) (hx a ha)), mob_ins, hmu _ _ hla]; omega
  have htwo : ∀ t, 2 ≤ t → ∀ a ∈ xs, mu (a * p ^ t) = 0 * mu a := fun t ht a ha => by
    obtain ⟨la, hla⟩ := Fac.exists a (hx1 a ha)
    rw [hmu _ _ (ins_fac hla (hx1 a ha) hp (by omega) (hx a ha)), mob_ins2 ht]; simp
  have hne : ¬ m * p ^ k = 1 := by
    have h2 := two_le_pow hp.1 hk
    have : 1 * 2 ≤ m * p ^ k := Nat.mul_le_mul hm h2
    omega
  rw [if_neg hne]
  have key : ∀ k, sumf mu (big xs p (k + 1)) = 0 := by
    intro k
    induction k with
    | zero =>
      rw [big, sumf_append, sumf_map hone]
      simp only [big]; omega
    | succ k ih =>
      rw [big, sumf_append, ih, sumf_map (htwo (k + 1 + 1) (by omega))]; simp
  obtain ⟨j, rfl⟩ : ∃ j, k = j + 1 := ⟨k - 1, by omega⟩
  exact key j

theorem sumf_take {f : Nat → Int} {l : List Nat} {k : Nat} (h : k < l.length) : sumf f (l.take (k + 1)) = sumf f (l.take k) + f (l.getD k 0) := by
  rw [List.take_add_one, sumf_append]
  simp [List.getD, h, sumf]

theorem sumf_nonneg {f : Nat → Int} (h : ∀ x, 0 ≤ f x) (l : List Nat) : 0 ≤ sumf f l := by
  induction l with
  | nil => exact Int.le_refl _
  | cons x xs ih => have := h x; simp only [sumf]; omega

theorem sumf_part {f : Nat → Int} (h : ∀ x, 0 ≤ f x) (l : List Nat) (k : Nat) : sumf f (l.take k) ≤ sumf f l := by
  have e : sumf f l = sumf f (l.take k) + sumf f (l.drop k) := by rw [← sumf_append, List.take_append_drop]
  have := sumf_nonneg h (l.drop k)
  omega

theorem dsort_dvd {m : Nat} {l : List (Nat × Nat)} (hF : Fac m l) {k : Nat} (h : k < (dsort l).length) : (dsort l).getD k 0 ∣ m :=
  ((dv_all hF).2 _).1 ((dsort_perm l).mem_iff.1 (by simp [List.getD, h]))

theorem row_len {W : World} {base g cap : Nat} {l : List Nat} (h : W.ownsRow base 2 1 (.slice (some ⟨g, 0, none⟩) l.length cap) l.length (ivals (zs l))) : l.length ≤ 9223372036854775807 := by
  rcases h.2 with ⟨h', _⟩ | ⟨g', cap', cur, h', _, _, h1, h2, _⟩
  · cases h'
  · unfold maxLen at h2; omega

/-- The cell of element k in a world behind. -/
theorem row_at {W W' : World} {base g cap : Nat} {l : List Nat} (h : W.ownsRow base 2 1 (.slice (some ⟨g, 0, none⟩) l.length cap) l.length (ivals (zs l))) (hB : Below W.heap.size W W') {k : Nat} (hk : k < l.length) :
    W'.cell? ⟨g, k, none⟩ = some (.int .i64 ((l.getD k 0 : Nat) : Int)) := by
  have hg := (h.lt g rfl).2
  have c := h.cellAt k (by omega)
  rw [ivals_get (by rw [zs_length]; exact hk)] at c
  have e : (zs l).getD k 0 = ((l.getD k 0 : Nat) : Int) := by
    simp only [zs, List.getD, List.getElem?_map]
    cases l[k]? <;> simp
  rw [e] at c
  exact (hB.cell (p := ⟨g, k, none⟩) hg).trans c

end Go.Proofs.Ytlbmhhkhemhfaab.Calls17
