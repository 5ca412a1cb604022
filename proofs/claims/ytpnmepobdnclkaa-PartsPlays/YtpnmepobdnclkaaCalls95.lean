/-
  Some of the shares: what is known of them.
-/
import Derived.Test.YtpnmepobdnclkaaCalls90
import Derived.Test.YtpnmepobdnclkaaCalls91
import Derived.Test.YtpnmepobdnclkaaCalls94
namespace Go.Proofs.Ytpnmepobdnclkaa.Calls95
set_option linter.unusedVariables false
open Go.ChangeShapes Go.WideShapes Go.ChangeAt Go.RowKit Go.Deep Go.Proofs.Ytpnmepobdnclkaa.Base Go.Proofs.Ytpnmepobdnclkaa.Base2 Go.Proofs.Ytpnmepobdnclkaa.Num Go.Proofs.Ytpnmepobdnclkaa.Num7 Go.Proofs.Ytpnmepobdnclkaa.Num13 Go.Proofs.Ytpnmepobdnclkaa.Num16 Go.Proofs.Ytpnmepobdnclkaa.Num17 Go.Proofs.Ytpnmepobdnclkaa.Num34 Go.Proofs.Ytpnmepobdnclkaa.Num35 Go.Proofs.Ytpnmepobdnclkaa.Num39 Go.Proofs.Ytpnmepobdnclkaa.Base4 Go.Proofs.Ytpnmepobdnclkaa.Calls56 Go.Proofs.Ytpnmepobdnclkaa.Calls57 Go.Proofs.Ytpnmepobdnclkaa.Calls69 Go.Proofs.Ytpnmepobdnclkaa.Calls87 Go.Proofs.Ytpnmepobdnclkaa.Calls88 Go.Proofs.Ytpnmepobdnclkaa.Calls90 Go.Proofs.Ytpnmepobdnclkaa.Calls91 Go.Proofs.Ytpnmepobdnclkaa.Calls94

theorem fewL_succ (M : Nat) (l : List (Int × Int)) (k : Nat) : fewL M l (k + 1) = fewL M l k ++ [l.getD k (0, 0)] ∨ fewL M l (k + 1) = fewL M l k := by
  by_cases h : bitM M k = true
  · exact .inl (if_pos h)
  · exact .inr (if_neg h)

theorem getD_front {a b : List (Int × Int)} {j : Nat} (h : j < a.length) : (a ++ b).getD j (0, 0) = a.getD j (0, 0) := by
  simp [List.getD, List.getElem?_append_left h]

theorem getD_end (a : List (Int × Int)) (x : Int × Int) : (a ++ [x]).getD a.length (0, 0) = x := by
  simp [List.getD]

theorem fewL_at (M : Nat) (l : List (Int × Int)) (k : Nat) : ∀ j, j < (fewL M l k).length → ∃ i, i < k ∧ (fewL M l k).getD j (0, 0) = l.getD i (0, 0) := by
  induction k with
  | zero => intro j hj; exact absurd hj (by simp [fewL])
  | succ k ih =>
    intro j hj
    rcases fewL_succ M l k with e | e
    · rw [e] at hj ⊢
      by_cases h : j < (fewL M l k).length
      · rw [getD_front h]
        obtain ⟨i, h1, h2⟩ := ih j h
        exact ⟨i, by omega, h2⟩
      · have : j = (fewL M l k).length := by simp at hj; omega
        subst this
        exact ⟨k, by omega, getD_end _ _⟩
    · rw [e] at hj ⊢
      obtain ⟨i, h1, h2⟩ := ih j hj
      exact ⟨i, by omega, h2⟩

theorem fewL_inc (M : Nat) (l : List (Int × Int)) (k : Nat) : ∀ i j, i < (fewL M l k).length → j < i → ∃ a b, a < b ∧ b < k ∧ (fewL M l k).getD j (0, 0) = l.getD a (0, 0) ∧ (fewL M l k).getD i (0, 0) = l.getD b (0, 0) := by
  induction k with
  | zero => intro i j hi; exact absurd hi (by simp [fewL])
  | succ k ih =>
    intro i j hi hj
    rcases fewL_succ M l k with e | e
    · rw [e] at hi ⊢
      by_cases h : i < (fewL M l k).length
      · rw [getD_front h, getD_front (by omega)]
        obtain ⟨a, b, h1, h2, h3⟩ := ih i j h hj
        exact ⟨a, b, h1, by omega, h3⟩
      · have : i = (fewL M l k).length := by simp at hi; omega
        subst this
        rw [getD_front hj, getD_end]
        obtain ⟨a, h1, h2⟩ := fewL_at M l k j hj
        exact ⟨a, k, h1, by omega, h2, rfl⟩
    · rw [e] at hi ⊢
      obtain ⟨a, b, h1, h2, h3⟩ := ih i j hi hj
      exact ⟨a, b, h1, by omega, h3⟩

/-- Some of the shares of a secret. -/
def Some (P : Nat) (s : Int) (m : List Int) (N : Nat) (r : List (Int × Int)) : Prop :=
  (∀ j, j < r.length → ∃ i : Nat, i < N ∧ px r j = (i : Int) + 1 ∧ py r j = ev (s :: m) ((i : Int) + 1) % (P : Int)) ∧ ∀ i j, i < r.length → j < i → px r j < px r i

theorem some_few (P : Nat) (s : Int) (m : List Int) (N M k : Nat) (hk : k ≤ N) : Some P s m N (fewL M (shl P s m N) k) := by
  refine ⟨fun j hj => ?_, fun i j hi hj => ?_⟩
  · obtain ⟨i, h1, h2⟩ := fewL_at M (shl P s m N) k j hj
    refine ⟨i, by omega, ?_, ?_⟩
    · show (List.getD _ j (0, 0)).1 = _
      rw [h2, shl_get (by omega)]
    · show (List.getD _ j (0, 0)).2 = _
      rw [h2, shl_get (by omega)]
  · obtain ⟨a, b, h1, h2, h3, h4⟩ := fewL_inc M (shl P s m N) k i j hi hj
    show (List.getD _ j (0, 0)).1 < (List.getD _ i (0, 0)).1
    rw [h3, h4, shl_get (by omega), shl_get (by omega)]
    show (a : Int) + 1 < (b : Int) + 1
    omega

theorem Some.inp {P : Nat} {s : Int} {m : List Int} {N : Nat} {r : List (Int × Int)} (h : Some P s m N r) (hN : N < P) : InP (P : Int) r r.length := fun j hj => by
  obtain ⟨i, h1, h2, h3⟩ := h.1 j hj
  rw [h2, h3]
  exact ⟨⟨by omega, by omega⟩, mod_bd (by omega) _⟩

theorem Some.dis {P : Nat} {s : Int} {m : List Int} {N : Nat} {r : List (Int × Int)} (h : Some P s m N r) : Dis r r.length := fun i j hi hj => by
  have := h.2 i j hi hj
  omega

theorem Some.noz {P : Nat} {s : Int} {m : List Int} {N : Nat} {r : List (Int × Int)} (h : Some P s m N r) : NoZ r r.length := fun j hj => by
  obtain ⟨i, h1, h2, h3⟩ := h.1 j hj
  omega

theorem Some.val {P : Nat} {s : Int} {m : List Int} {N : Nat} {r : List (Int × Int)} (h : Some P s m N r) : ∀ j, j < r.length → py r j = ev (s :: m) (px r j) % (P : Int) := fun j hj => by
  obtain ⟨i, h1, h2, h3⟩ := h.1 j hj
  rw [h2, h3]

theorem Some.dist {P : Nat} {s : Int} {m : List Int} {N : Nat} {r : List (Int × Int)} (h : Some P s m N r) (hN : N < P) : Dist P (px r) r.length := Go.Proofs.Ytpnmepobdnclkaa.Calls73.dist_of (h.inp hN) h.dis

theorem Some.ptc {P : Nat} {s : Int} {m : List Int} {N : Nat} {r : List (Int × Int)} (h : Some P s m N r) (hP : Pr P) (hP2 : P ≤ 251) (hN : N < P) (hr : r.length ≤ 13) : PtC (P : Int) r 0 :=
  .inr ⟨PrC.of hP hP2, .inr ⟨hr, .inr ⟨h.inp hN, .inr ⟨h.dis, rfl⟩⟩⟩⟩

theorem Some.jnc {P : Nat} {s : Int} {m : List Int} {N : Nat} {r : List (Int × Int)} (h : Some P s m N r) (hP : Pr P) (hP2 : P ≤ 251) (hN : N < P) (hr : r.length ≤ 13) : JnC (P : Int) r 0 :=
  .inr ⟨h.ptc hP hP2 hN hr, .inr ⟨h.noz, rfl⟩⟩

end Go.Proofs.Ytpnmepobdnclkaa.Calls95
