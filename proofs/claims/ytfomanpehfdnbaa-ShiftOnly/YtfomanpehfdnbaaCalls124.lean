/-
  The shortest rule as Massey has it: no other one makes a list that is long enough; one bit more.
-/
import Derived.Test.YtfomanpehfdnbaaCalls120
import Derived.Test.YtfomanpehfdnbaaCalls121
namespace Go.Proofs.Ytfomanpehfdnbaa.Calls124
set_option linter.unusedVariables false
open Go.Proofs.Ytfomanpehfdnbaa.Base7 Go.Proofs.Ytfomanpehfdnbaa.Num44 Go.Proofs.Ytfomanpehfdnbaa.Num54 Go.Proofs.Ytfomanpehfdnbaa.Num65 Go.Proofs.Ytfomanpehfdnbaa.Calls120 Go.Proofs.Ytfomanpehfdnbaa.Calls121

theorem makes_same {l s : Nat → Bool} {T N : Nat} {t : Nat → Bool} (h : ∀ i, i < N → l i = s i) : Makes l T N t ↔ Makes s T N t := by
  unfold Makes
  constructor
  · intro H i h1 h2
    rw [← h i h2, H i h1 h2]
    exact xs_congr (fun k hk => by rw [h (i - k - 1) (by omega)])
  · intro H i h1 h2
    rw [h i h2, H i h1 h2]
    exact xs_congr (fun k hk => by rw [h (i - k - 1) (by omega)])

/-- Massey's form of the taps. -/
def ext (T : Nat) (t : Nat → Bool) : Nat → Bool := fun j => if j = 0 then true else if j ≤ T then t (j - 1) else false

theorem mk_makes {s C : Nat → Bool} {L N : Nat} (hC : Rl C L) (h : Mk s C L N) : Makes s L N (fun k => C (k + 1)) := by
  refine makes_mk.2 (fun i h1 h2 => ?_)
  refine Eq.trans ?_ (h i h1 h2)
  unfold Dl
  refine xs_congr (fun j hj => ?_)
  show ((if j = 0 then true else if j ≤ L then C (j - 1 + 1) else false) && s (i - j)) = (C j && s (i - j))
  by_cases e : j = 0
  · subst e; rw [if_pos rfl, hC.1]
  · rw [if_neg e, if_pos (by omega), show j - 1 + 1 = j by omega]

theorem least_of {l T : List Bool} (h : ShL l T) {s : Nat → Bool} (hs : ∀ i, i < l.length → gb l i = s i) : Least s l.length T.length :=
  ⟨⟨ext T.length (gb T), makes_rl _ _, makes_mk.1 ((makes_same hs).1 h.1.1)⟩, fun L' C' h1 h2 => h.2 L' _ ((makes_same hs).2 (mk_makes h1 h2))⟩

/-- MASSEY: no other rule with as many taps. -/
theorem only_one {l T P : List Bool} (h : ShL l T) (h2 : 2 * T.length ≤ l.length) (hP : MkL P l) (hl : P.length = T.length) : P = T := by
  refine gb_ext hl (fun k hk => ?_)
  have hm := hP.2
  rw [hl] at hm hk
  have := only (least_of h (s := gb l) (fun i _ => rfl)) h2 (makes_rl T.length (gb T)) (makes_mk.1 h.1.1) (makes_rl T.length (gb P)) (makes_mk.1 hm) (k + 1)
  have e : ∀ t : Nat → Bool, (if k + 1 = 0 then true else if k + 1 ≤ T.length then t (k + 1 - 1) else false) = t k := fun t => by
    rw [if_neg (by omega), if_pos (by omega), Nat.add_sub_cancel]
  have this : (if k + 1 = 0 then true else if k + 1 ≤ T.length then gb T (k + 1 - 1) else false) = (if k + 1 = 0 then true else if k + 1 ≤ T.length then gb P (k + 1 - 1) else false) := this
  rw [e, e] at this
  exact this.symm

theorem one_tap {T : List Bool} (h : ShL [true] T) : T.length = 1 := by
  have h1 := h.le
  have h1' : T.length ≤ 1 := h1
  by_cases e : T.length = 0
  · exfalso
    have hm := h.1.1
    rw [e] at hm
    have := hm 0 (by omega) (by simp)
    cases this
  · omega

theorem snoc_get {l : List Bool} {b : Bool} : ∀ i, i < l.length → gb l i = gb (l ++ [b]) i := fun i hi => (gb_snoc_lt hi).symm

/-- MASSEY: one bit more: it is made, too. -/
theorem grow_same {l T U : List Bool} {b : Bool} (h : ShL l T) (hU : ShL (l ++ [b]) U) (hm : MkL T (l ++ [b])) : U.length = T.length := by
  have h1 := least_of h (s := gb (l ++ [b])) snoc_get
  have hm2 := makes_mk.1 hm.2
  have hl : (l ++ [b]).length = l.length + 1 := by simp
  rw [hl] at hm2
  have h2 := grows_same h1 (makes_rl T.length (gb T)) hm2
  have h3 := least_of hU (s := gb (l ++ [b])) (fun i _ => rfl)
  rw [hl] at h3
  exact h3.uniq h2

/-- MASSEY: one bit more: it is another one. -/
theorem grow_more {l T U : List Bool} {b : Bool} (h : ShL l T) (hU : ShL (l ++ [b]) U) (hm : ¬ MkL T (l ++ [b])) : U.length = max T.length (l.length + 1 - T.length) := by
  have hle := h.le
  have hl : (l ++ [b]).length = l.length + 1 := by simp
  have h1 := least_of h (s := gb (l ++ [b])) snoc_get
  have hmk := makes_mk.1 ((makes_same (s := gb (l ++ [b])) snoc_get).1 h.1.1)
  have hD : Dl (gb (l ++ [b])) (fun j => if j = 0 then true else if j ≤ T.length then gb T (j - 1) else false) T.length l.length = true := by
    cases hx : Dl (gb (l ++ [b])) (fun j => if j = 0 then true else if j ≤ T.length then gb T (j - 1) else false) T.length l.length with
    | true => rfl
    | false =>
      exfalso
      refine hm ⟨by omega, makes_mk.2 (fun i h1 h2 => ?_)⟩
      rw [hl] at h2
      by_cases e : i = l.length
      · rw [e]; exact hx
      · exact hmk i h1 (by omega)
  have h2 := (grows h1 (makes_rl T.length (gb T)) hmk hD).1
  have h3 := least_of hU (s := gb (l ++ [b])) (fun i _ => rfl)
  rw [hl] at h3
  exact h3.uniq h2

end Go.Proofs.Ytfomanpehfdnbaa.Calls124
