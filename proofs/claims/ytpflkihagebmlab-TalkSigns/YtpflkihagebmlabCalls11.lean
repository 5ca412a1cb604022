/-
  Lists of prime powers in memory: how they read, and when two are the same.
-/
import Derived.Test.YtpflkihagebmlabCalls9
namespace Go.Proofs.Ytpflkihagebmlab.Calls11
set_option linter.unusedVariables false
open Go.ChangeShapes Go.WideShapes Go.ChangeAt Go.RowKit Go.Proofs.Ytpflkihagebmlab.Num Go.Proofs.Ytpflkihagebmlab.Calls7 Go.Proofs.Ytpflkihagebmlab.Calls8 Go.Proofs.Ytpflkihagebmlab.Calls9

/-- A slice of two-cell structs reads as a list of pairs. -/
def PRow (W : World) (ao : Option Addr) (l : List (Int × Int)) : Prop :=
  (ao = none → l = []) ∧ ∀ ad, ao = some ad → ∀ j, j < l.length → W.cell? (ad.add (j * 2)) = some (.int .i64 (l.getD j (0, 0)).1) ∧ W.cell? (ad.add (j * 2 + 1)) = some (.int .i64 (l.getD j (0, 0)).2)

theorem add_two (ad : Addr) (k : Nat) : ad.add (k * 2 + 1) = { block := (ad.add (k * 2)).block, off := (ad.add (k * 2)).off + 1 } := by
  unfold Addr.add
  by_cases h : k * 2 = 0
  · simp [h]
  · simp [h]; omega

theorem infoP : (Try.prog.info? 83).map (fun i => (i.zero, i.size, i.bytes)) = some (some (.agg #[.int .i64 0, .int .i64 0]), 2, 16) := by kernel_rfl

/-- The cells of a list of powers. -/
def flat : List (Nat × Nat) → List Value
  | [] => []
  | x :: xs => .int .i64 (x.1 : Int) :: .int .i64 (x.2 : Int) :: flat xs

def ints (l : List (Nat × Nat)) : List (Int × Int) := l.map (fun x => ((x.1 : Int), (x.2 : Int)))

theorem ints_length (l : List (Nat × Nat)) : (ints l).length = l.length := by simp [ints]

theorem ints_inj {l m : List (Nat × Nat)} (h : ints l = ints m) : l = m := by
  induction l generalizing m with
  | nil => cases m <;> simp [ints] at h ⊢
  | cons x xs ih =>
    cases m with
    | nil => simp [ints] at h
    | cons y ys =>
      simp only [ints, List.map_cons, List.cons.injEq, Prod.mk.injEq] at h
      rw [ih h.2, show x = y from Prod.ext (by omega) (by omega)]

theorem flat_length (l : List (Nat × Nat)) : (flat l).length = l.length * 2 := by
  induction l with
  | nil => rfl
  | cons x xs ih => simp [flat, ih]; omega

theorem flat_snoc (l : List (Nat × Nat)) (p k : Nat) : flat (l ++ [(p, k)]) = flat l ++ [.int .i64 (p : Int), .int .i64 (k : Int)] := by
  induction l with
  | nil => rfl
  | cons x xs ih => simp [flat, ih]

theorem flat_get (l : List (Nat × Nat)) : ∀ j, j < l.length → (flat l)[j * 2]? = some (.int .i64 ((ints l).getD j (0, 0)).1) ∧ (flat l)[j * 2 + 1]? = some (.int .i64 ((ints l).getD j (0, 0)).2) := by
  induction l with
  | nil => intro j h; simp at h
  | cons x xs ih =>
    intro j h
    cases j with
    | zero => simp [flat, ints]
    | succ j =>
      have := ih j (by simpa using h)
      rw [show (j + 1) * 2 = j * 2 + 2 by omega]
      simpa [flat, ints] using this

theorem prow_of_owns {W : World} {base : Nat} {v : Value} {l : List (Nat × Nat)} (h : W.ownsRow base 83 2 v l.length (flat l)) :
    ∃ ao cap, v = .slice ao (ints l).length cap ∧ PRow W ao (ints l) := by
  rcases h.2 with ⟨rfl, hn⟩ | ⟨g, cap, cur, rfl, hb, hg, hnc, hcm, hcs, htake⟩
  · have e : l = [] := List.length_eq_zero_iff.1 hn
    subst e
    exact ⟨none, 0, rfl, fun _ => rfl, fun ad h => by cases h⟩
  · refine ⟨some ⟨g, 0, none⟩, cap, by rw [ints_length], fun h => (by cases h), fun ad h j hj => ?_⟩
    obtain rfl : (⟨g, 0, none⟩ : Addr) = ad := by simpa using h
    rw [ints_length] at hj
    obtain ⟨f1, f2⟩ := flat_get l j hj
    have hlen := flat_length l
    have c1 := World.ownsRow.cellAt ⟨hlen, .inr ⟨g, cap, cur, rfl, hb, hg, hnc, hcm, hcs, htake⟩⟩ (j * 2) (by omega)
    have c2 := World.ownsRow.cellAt ⟨hlen, .inr ⟨g, cap, cur, rfl, hb, hg, hnc, hcm, hcs, htake⟩⟩ (j * 2 + 1) (by omega)
    have a1 : ∀ i, (⟨g, 0, none⟩ : Addr).add i = ⟨g, i, none⟩ := fun i => by
      unfold Addr.add; by_cases h : i = 0
      · simp [h]
      · simp [h]
    rw [a1, a1, c1, c2]
    exact ⟨f1, f2⟩

/-- What is owned stays owned wherever what lay lies as it lay. -/
theorem owns_below {W W' : World} {base : Nat} {e : TypeId} {size : Nat} {v : Value} {n : Nat} {xs : List Value} (h : W.ownsRow base e size v n xs) (hb : Below W.heap.size W W') : W'.ownsRow base e size v n xs := by
  refine ⟨h.1, ?_⟩
  rcases h.2 with ⟨rfl, hn⟩ | ⟨g, cap, cur, rfl, hb', hg, rest⟩
  · exact .inl ⟨rfl, hn⟩
  · exact .inr ⟨g, cap, cur, rfl, hb', (hb.block g (Array.getElem?_eq_some_iff.1 hg).1).trans hg, rest⟩

theorem prow_below {W W' : World} {ao : Option Addr} {l : List (Int × Int)} (h : PRow W ao l) (hb : Below W.heap.size W W') (hlt : ∀ ad, ao = some ad → l = [] ∨ ad.block < W.heap.size) : PRow W' ao l := by
  refine ⟨h.1, fun ad e j hj => ?_⟩
  have hl : ad.block < W.heap.size := by
    rcases hlt ad e with e' | e'
    · subst e'; simp at hj
    · exact e'
  have a1 : ∀ i, (ad.add i).block = ad.block := fun i => by
    unfold Addr.add; split <;> rfl
  obtain ⟨c1, c2⟩ := h.2 ad e j hj
  exact ⟨(hb.cell (p := ad.add (j * 2)) (by rw [a1]; exact hl)).trans c1, (hb.cell (p := ad.add (j * 2 + 1)) (by rw [a1]; exact hl)).trans c2⟩

theorem fac_len {m : Nat} {l : List (Nat × Nat)} (hF : Fac m l) (hm : m ≤ 1048576) : l.length ≤ 20 := by
  have h1 := pd_len hF.1
  rw [hF.2.2] at h1
  have h3 : 2 ^ l.length ≤ 2 ^ 20 := by
    have : (2 : Nat) ^ 20 = 1048576 := by decide
    omega
  exact (Nat.pow_le_pow_iff_right (by omega)).1 h3

theorem fac_ints {m : Nat} {l : List (Nat × Nat)} (hF : Fac m l) (hm : m ≤ 1048576) : (ints l).length ≤ 9223372036854775807 := by
  have := fac_len hF hm
  rw [ints_length]; omega

theorem owns_block' {W : World} {base : Nat} {e : TypeId} {size : Nat} {ao : Option Addr} {k cap n : Nat} {xs : List Value} (h : W.ownsRow base e size (.slice ao k cap) n xs) : ∀ ad, ao = some ad → base ≤ ad.block ∧ ad.block < W.heap.size := by
  intro ad e'
  subst e'
  exact h.lt ad.block rfl

theorem below_drewN {B : Nat} {a b : World} (h : Below B a b) (n : Nat) : Below B a (b.drewN n) := ⟨h.os, h.tape, h.output, h.size, h.block⟩

theorem meas5 {p : Nat} (h : p ≤ 1048576) : (1048578 - ((p : Int) + 1)).toNat < (1048578 - (p : Int)).toNat := by omega

end Go.Proofs.Ytpflkihagebmlab.Calls11
