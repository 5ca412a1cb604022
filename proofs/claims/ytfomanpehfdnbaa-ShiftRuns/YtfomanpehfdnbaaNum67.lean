/-
  Plain arithmetic: sums of equations over bits, row by row, as tables have them.
-/
import Derived.Test.YtfomanpehfdnbaaNum54
namespace Go.Proofs.Ytfomanpehfdnbaa.Num67
set_option linter.unusedVariables false
open Go.Proofs.Ytfomanpehfdnbaa.Num44 Go.Proofs.Ytfomanpehfdnbaa.Num54

/-- There are unknowns to which all K rows hold. -/
def SolT (n K : Nat) (R : Nat → Nat → Bool) : Prop := ∃ x, ∀ j, j < K → Eqn n (R j) x

/-- Nothing stands ahead of c. -/
def ZrT (K : Nat) (R : Nat → Nat → Bool) (c : Nat) : Prop := ∀ j, j < K → ∀ k, k < c → R j k = false

/-- All rows but the one at a, with that one added where they have a bit at c. -/
def nxt (R : Nat → Nat → Bool) (a c : Nat) : Nat → Nat → Bool := fun j => adr (R a) c (R (if j < a then j else j + 1))

def lst (K : Nat) (R : Nat → Nat → Bool) : List (Nat → Bool) := (List.range K).map R

theorem sv_lst {n K : Nat} {R : Nat → Nat → Bool} {x : Nat → Bool} : Sv n (lst K R) x ↔ ∀ j, j < K → Eqn n (R j) x := by
  constructor
  · intro h j hj
    exact h _ (List.mem_map.2 ⟨j, List.mem_range.2 hj, rfl⟩)
  · intro h r hr
    obtain ⟨j, hj, rfl⟩ := List.mem_map.1 hr
    exact h j (List.mem_range.1 hj)

theorem solv_iff {n K : Nat} {R : Nat → Nat → Bool} : SolT n K R ↔ ∃ x, Sv n (lst K R) x := by
  constructor
  · rintro ⟨x, hx⟩; exact ⟨x, sv_lst.2 hx⟩
  · rintro ⟨x, hx⟩; exact ⟨x, sv_lst.1 hx⟩

theorem nxt_mem {K a c : Nat} {R : Nat → Nat → Bool} {r : Nat → Bool} (h : r ∈ lst (K - 1) (nxt R a c)) (ha : a < K) : ∃ r0 ∈ lst K R, r = adr (R a) c r0 := by
  obtain ⟨j, hj, rfl⟩ := List.mem_map.1 h
  have hj := List.mem_range.1 hj
  refine ⟨R (if j < a then j else j + 1), List.mem_map.2 ⟨_, List.mem_range.2 ?_, rfl⟩, rfl⟩
  split <;> omega

theorem sol_step {n K a c : Nat} {R : Nat → Nat → Bool} (hc : c < n) (ha : a < K) (hac : R a c = true) : SolT n K R ↔ SolT n (K - 1) (nxt R a c) := by
  rw [solv_iff, solv_iff]
  refine sv_step hc (List.mem_map.2 ⟨a, List.mem_range.2 ha, rfl⟩) hac (fun r hr => ?_) (fun r' hr' => nxt_mem hr' ha)
  obtain ⟨j, hj, rfl⟩ := List.mem_map.1 hr
  have hj := List.mem_range.1 hj
  by_cases e : j = a
  · exact .inl (by rw [e])
  · refine .inr (List.mem_map.2 ⟨if j < a then j else j - 1, List.mem_range.2 (by split <;> omega), ?_⟩)
    unfold nxt
    by_cases h : j < a
    · rw [if_pos h, if_pos h]
    · rw [if_neg h, if_neg (by omega), show j - 1 + 1 = j by omega]

theorem zr_nxt {K a c : Nat} {R : Nat → Nat → Bool} (hz : ZrT K R c) (ha : a < K) (hac : R a c = true) : ZrT (K - 1) (nxt R a c) (c + 1) := fun j hj k hk => by
  have hi : (if j < a then j else j + 1) < K := by split <;> omega
  show adr (R a) c (R (if j < a then j else j + 1)) k = false
  generalize (if j < a then j else j + 1) = i at *
  unfold adr
  by_cases e : k = c
  · rw [e, hac]; cases R i c <;> rfl
  · rw [hz i hi k (by omega), hz a ha k (by omega)]; cases R i c <;> rfl

theorem zr_skp {K c : Nat} {R : Nat → Nat → Bool} (hz : ZrT K R c) (h : ∀ j, j < K → R j c = false) : ZrT K R (c + 1) := fun j hj k hk => by
  by_cases e : k = c
  · rw [e]; exact h j hj
  · exact hz j hj k (by omega)

theorem sol_end {n K : Nat} {R : Nat → Nat → Bool} (hz : ZrT K R n) : SolT n K R ↔ ∀ j, j < K → R j n = false := by
  rw [solv_iff, sv_end (S := lst K R) (fun r hr k hk => by
    obtain ⟨j, hj, rfl⟩ := List.mem_map.1 hr
    exact hz j (List.mem_range.1 hj) k hk)]
  constructor
  · intro h j hj
    exact h _ (List.mem_map.2 ⟨j, List.mem_range.2 hj, rfl⟩)
  · intro h r hr
    obtain ⟨j, hj, rfl⟩ := List.mem_map.1 hr
    exact h j (List.mem_range.1 hj)

theorem sol_rows {l b : Nat → Bool} {m M N : Nat} (hm : m ≤ M) : SolT (M - m) (N - M) (fun j => rowOf l b m M (M + j)) ↔ ∃ t, Makes l M N t ∧ ∀ k, k < m → t k = b k := by
  rw [solv_iff]
  exact rows_makes hm

end Go.Proofs.Ytfomanpehfdnbaa.Num67
