/-
  Plain arithmetic, without the model: what is told of many rests hangs on which there are, not on their order.
-/
import Derived.Test.YtiphbddalmpifaaNum27
namespace Go.Proofs.Ytiphbddalmpifaa.Num28
set_option linter.unusedVariables false
open Go.Proofs.Ytiphbddalmpifaa.Num Go.Proofs.Ytiphbddalmpifaa.Num14 Go.Proofs.Ytiphbddalmpifaa.Num27

theorem all_mem {l : List (Int × Int)} {P : Int × Int → Prop} : (∀ j, j < l.length → P (l.getD j (0, 0))) ↔ ∀ r, r ∈ l → P r := by
  constructor
  · intro h r hr
    obtain ⟨j, hj, rfl⟩ := List.mem_iff_getElem.1 hr
    have := h j hj
    rwa [List.getD, List.getElem?_eq_getElem hj] at this
  · intro h j hj
    rw [List.getD, List.getElem?_eq_getElem hj]
    exact h _ (List.getElem_mem hj)

theorem fits_mem {l : List (Int × Int)} {x : Int} : (∀ j, j < l.length → Fits x ((nats l).getD j (0, 1))) ↔ ∀ r, r ∈ l → Fits x (r.1, r.2.toNat) := by
  rw [← all_mem (P := fun r => Fits x (r.1, r.2.toNat))]
  constructor
  · intro h j hj
    have := h j hj
    rwa [nats_get hj] at this
  · intro h j hj
    rw [nats_get hj]
    exact h j hj

theorem lc_mem {l : List (Int × Int)} {z : Nat} : lc (nats l) l.length ∣ z ↔ ∀ r, r ∈ l → r.2.toNat ∣ z := by
  rw [← all_mem (P := fun r => r.2.toNat ∣ z)]
  constructor
  · intro h j hj
    have := Nat.dvd_trans (lc_dvd (l := nats l) hj) h
    rwa [nats_get hj] at this
  · intro h
    refine lc_least fun j hj => ?_
    rw [nats_get hj]
    exact h j hj

theorem lc_same {l m : List (Int × Int)} (h : ∀ r, r ∈ l ↔ r ∈ m) : lc (nats l) l.length = lc (nats m) m.length := by
  apply Nat.dvd_antisymm
  · exact lc_mem.2 fun r hr => lc_mem.1 (Nat.dvd_refl _) r ((h r).1 hr)
  · exact lc_mem.2 fun r hr => lc_mem.1 (Nat.dvd_refl _) r ((h r).2 hr)

theorem inR_same {l m : List (Int × Int)} (h : ∀ r, r ∈ l ↔ r ∈ m) : InR l ↔ InR m := by
  constructor
  · intro hi
    exact ⟨all_mem.2 fun r hr => all_mem.1 hi.each r ((h r).2 hr), by rw [← lc_same h]; exact hi.all⟩
  · intro hi
    exact ⟨all_mem.2 fun r hr => all_mem.1 hi.each r ((h r).1 hr), by rw [lc_same h]; exact hi.all⟩

theorem fits_same {l m : List (Int × Int)} (h : ∀ r, r ∈ l ↔ r ∈ m) (x : Int) : (∀ j, j < l.length → Fits x ((nats l).getD j (0, 1))) ↔ (∀ j, j < m.length → Fits x ((nats m).getD j (0, 1))) := by
  rw [fits_mem, fits_mem]
  exact ⟨fun h1 r hr => h1 r ((h r).2 hr), fun h1 r hr => h1 r ((h r).1 hr)⟩

/-- The list from a place on, then what stood ahead of it, then the one at that place once more. -/
def rot (l : List (Int × Int)) (k : Nat) : List (Int × Int) := l.drop k ++ l.take k ++ [l.getD k (0, 0)]

theorem rot_length {l : List (Int × Int)} {k : Nat} (h : k < l.length) : (rot l k).length = l.length + 1 := by
  simp [rot]; omega

theorem rot_mem {l : List (Int × Int)} {k : Nat} (h : k < l.length) (r : Int × Int) : r ∈ l ↔ r ∈ rot l k := by
  have e : l.getD k (0, 0) ∈ l := by
    rw [List.getD, List.getElem?_eq_getElem h]
    exact List.getElem_mem h
  unfold rot
  constructor
  · intro hr
    rw [← List.take_append_drop k l, List.mem_append] at hr
    rw [List.mem_append, List.mem_append]
    exact .inl (hr.symm)
  · intro hr
    rw [List.mem_append, List.mem_append, List.mem_singleton] at hr
    rcases hr with (h1 | h1) | h1
    · exact List.mem_of_mem_drop h1
    · exact List.mem_of_mem_take h1
    · rw [h1]; exact e

end Go.Proofs.Ytiphbddalmpifaa.Num28
