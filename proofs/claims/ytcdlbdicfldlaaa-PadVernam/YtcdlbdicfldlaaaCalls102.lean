/-
  Rows that a call makes itself, each a new one: the table of Vernam's cipher.
-/
import Derived.Test.YtcdlbdicfldlaaaCalls101
namespace Go.Proofs.Ytcdlbdicfldlaaa.Calls102
set_option linter.unusedVariables false
open Go.ChangeShapes Go.WideShapes Go.ChangeAt Go.RowKit Go.Deep Go.Maps Go.Proofs.Ytcdlbdicfldlaaa.Base Go.Proofs.Ytcdlbdicfldlaaa.Base2 Go.Proofs.Ytcdlbdicfldlaaa.Num16 Go.Proofs.Ytcdlbdicfldlaaa.Num17 Go.Proofs.Ytcdlbdicfldlaaa.Num34 Go.Proofs.Ytcdlbdicfldlaaa.Num40 Go.Proofs.Ytcdlbdicfldlaaa.Base4 Go.Proofs.Ytcdlbdicfldlaaa.Base5 Go.Proofs.Ytcdlbdicfldlaaa.Calls96 Go.Proofs.Ytcdlbdicfldlaaa.Calls97 Go.Proofs.Ytcdlbdicfldlaaa.Calls98 Go.Proofs.Ytcdlbdicfldlaaa.Calls99 Go.Proofs.Ytcdlbdicfldlaaa.Calls100 Go.Proofs.Ytcdlbdicfldlaaa.Calls101

/-- One of the rows: a block of its own, with these numbers; it is not the outer row's. -/
def RowAt (W : World) (own : Option Nat) (u : Option Value) (l : List Int) : Prop :=
  ∃ g c, u = some (.slice (some ⟨g, 0, none⟩) l.length c) ∧ l.length ≤ c ∧ own ≠ some g ∧ g < W.heap.size ∧ ∀ i, i < l.length → W.cell? ⟨g, i, none⟩ = some (.int .i64 (co l i))

/-- The call's own rows: the outer one's cells lead to rows that read as f 0, f 1 .. -/
def Tab (W : World) (base : Nat) (v : Value) (k : Nat) (f : Nat → List Int) : Prop :=
  ∃ vs : List Value, W.ownsRow base 30 1 v k vs ∧ ∀ j, j < k → RowAt W v.ownBlock vs[j]? (f j)

theorem RowAt.below {W W' : World} {own : Option Nat} {u : Option Value} {l : List Int} (h : RowAt W own u l) (hB : Below W.heap.size W W') : RowAt W' own u l := by
  obtain ⟨g, c, h1, h2, h3, h4, h5⟩ := h
  exact ⟨g, c, h1, h2, h3, Nat.lt_of_lt_of_le h4 hB.size, fun i hi => (hB.cell (p := ⟨g, i, none⟩) h4).trans (h5 i hi)⟩

theorem Tab.below {W W' : World} {base : Nat} {v : Value} {k : Nat} {f : Nat → List Int} (h : Tab W base v k f) (hB : Below W.heap.size W W') : Tab W' base v k f := by
  obtain ⟨vs, h1, h2⟩ := h
  exact ⟨vs, owns_below h1 hB, fun j hj => (h2 j hj).below hB⟩

theorem Tab.nil (W : World) (base : Nat) (f : Nat → List Int) : Tab W base (.slice none 0 0) 0 f := ⟨[], World.ownsRow_nil _ _ _ _, fun j hj => absurd hj (by omega)⟩

theorem RowAt.grown {W W' : World} {own : Option Nat} {u : Option Value} {l : List Int} (h : RowAt W own u l) (hg : W.grownBy W' own) {g : Nat} (hor : own = some g ∨ W.heap.size ≤ g) : RowAt W' (some g) u l := by
  obtain ⟨b, c, h1, h2, h3, h4, h5⟩ := h
  refine ⟨b, c, h1, h2, fun e => ?_, Nat.lt_of_lt_of_le h4 hg.size, fun i hi => (World.cell?_of_block (a := ⟨b, i, none⟩) (hg.block b h4 (fun e => h3 e.symm))).trans (h5 i hi)⟩
  have : g = b := Option.some.inj e
  subst this
  rcases hor with hor | hor
  · exact h3 hor
  · omega

/-- One row more. -/
theorem Tab.snoc {W W' : World} {base : Nat} {v : Value} {k : Nat} {f : Nat → List Int} {vs : List Value} {u : Value} {tmp : Obj} {g cap : Nat} (hown : W.ownsRow base 30 1 v k vs) (hrows : ∀ j, j < k → RowAt W v.ownBlock vs[j]? (f j)) (hu : RowAt W v.ownBlock (some u) (f k))
    (h1 : W'.ownsRow base 30 1 (.slice (some ⟨g, 0, none⟩) (k + 1) cap) (k + 1) (vs ++ [u])) (hg : (W.alloc tmp).grownBy W' v.ownBlock) (hor : v.ownBlock = some g ∨ g = (W.alloc tmp).heap.size) : Tab W' base (.slice (some ⟨g, 0, none⟩) (k + 1) cap) (k + 1) f := by
  have hl : vs.length = k := by have := hown.1; omega
  have hB : Below W.heap.size W (W.alloc tmp) := (Below.refl _ _).alloc (Nat.le_refl _) _
  have hor' : v.ownBlock = some g ∨ (W.alloc tmp).heap.size ≤ g := hor.imp id (fun e => by omega)
  refine ⟨vs ++ [u], h1, fun j hj => ?_⟩
  by_cases e : j = k
  · subst e
    rw [List.getElem?_append_right (by omega), hl, Nat.sub_self]
    exact (hu.below hB).grown hg hor'
  · rw [List.getElem?_append_left (by omega)]
    exact ((hrows j (by omega)).below hB).grown hg hor'

theorem infoS : (Try.prog.info? 30).map (fun i => (i.zero, i.size, i.bytes)) = some (some (.slice none 0 0), 1, 24) := by kernel_rfl

theorem infoS_ex : ∃ i, Try.prog.info? 30 = some i ∧ i.zero = some (.slice none 0 0) ∧ i.size = 1 ∧ i.bytes = 24 := by
  have h := infoS
  cases e : Try.prog.info? 30 with
  | none => rw [e] at h; simp at h
  | some i => rw [e] at h; simp at h; exact ⟨i, rfl, h.1, h.2.1, h.2.2⟩

/-- What such rows read as. -/
theorem Tab.row {W : World} {base : Nat} {v : Value} {k : Nat} {f : Nat → List Int} (h : Tab W base v k f) (hk : 0 < k) (hm : ∀ j, j < k → (f j).length ≤ 9223372036854775807) :
    ∃ ao cap, v = .slice ao k cap ∧ k ≤ cap ∧ RRow W ao ((List.range k).map f) := by
  obtain ⟨vs, h1, h2⟩ := h
  rcases h1.2 with ⟨rfl, hn⟩ | ⟨g, cap, cur, rfl, hb, hg, hnc, hcm, hcs, htake⟩
  · omega
  · refine ⟨some ⟨g, 0, none⟩, cap, rfl, hnc, fun e => (by cases e), fun ad e j hj => ?_⟩
    obtain rfl : (⟨g, 0, none⟩ : Addr) = ad := by simpa using e
    have hj' : j < k := by simpa using hj
    have er : rw' ((List.range k).map f) j = f j := by simp [rw', List.getD, hj']
    rw [er, zero_add_addr]
    obtain ⟨b, c, h3, h4, h5, h6, h7⟩ := h2 j hj'
    have hc := World.ownsRow.cellAt h1 j (by omega)
    rw [h3] at hc
    refine ⟨some ⟨b, 0, none⟩, c, hc, ⟨fun e => (by cases e), fun ad e i hi => ?_⟩, h4, hm j hj'⟩
    obtain rfl : (⟨b, 0, none⟩ : Addr) = ad := by simpa using e
    rw [zero_add_addr]
    exact h7 i hi

/-- Vernam's table. -/
def vnL (n : Nat) : List (List Int) := (List.range n).map (fun k => mk n (fun m => vern n k m))

theorem vnL_length (n : Nat) : (vnL n).length = n := by simp [vnL]

theorem vnL_row {n k : Nat} (hk : k < n) : rw' (vnL n) k = mk n (fun m => vern n k m) := by simp [vnL, rw', List.getD, hk]

theorem vern_bd {n : Nat} (h1 : 1 ≤ n) (k m : Nat) : 0 ≤ vern n k m ∧ vern n k m < (n : Int) := by
  have : (m + k) % n < n := Nat.mod_lt _ h1
  unfold vern; omega

theorem vnL_ci {n : Nat} (h1 : 1 ≤ n) (h2 : n ≤ 16) : CiC (vnL n) 0 := by
  have hr : ∀ r ∈ vnL n, ∃ k, k < n ∧ r = mk n (fun m => vern n k m) := fun r hr => by
    obtain ⟨k, hk, e⟩ := List.mem_map.1 hr
    exact ⟨k, List.mem_range.1 hk, e.symm⟩
  have e0 := vnL_row (n := n) (k := 0) h1
  refine .inr ⟨fun h => ?_, .inr ⟨fun h => ?_, .inr ⟨fun h => ?_, .inr ⟨fun h => ?_, rfl⟩⟩⟩⟩
  · rcases h with h | ⟨r, hr', h⟩
    · rw [vnL_length] at h; omega
    · obtain ⟨k, _, rfl⟩ := hr r hr'
      rw [mk_length] at h; omega
  · rcases h with h | h
    · rw [vnL_length] at h; omega
    · rw [e0, mk_length] at h; omega
  · obtain ⟨r, hr', h⟩ := h
    obtain ⟨k, _, rfl⟩ := hr r hr'
    rw [e0, mk_length, mk_length] at h
    exact h rfl
  · obtain ⟨r, hr', x, hx, h⟩ := h
    obtain ⟨k, _, rfl⟩ := hr r hr'
    obtain ⟨m, hm, rfl⟩ := mk_mem hx
    have := vern_bd h1 k m
    omega

theorem vnL_tb {n k m : Nat} (hk : k < n) (hm : m < n) : tb (vnL n) k m = vern n k m := by
  unfold tb
  rw [vnL_row hk, co_mk, if_pos hm]

theorem vnL_perf {n : Nat} (h1 : 1 ≤ n) : PerfIs (tb (vnL n)) (vnL n).length (rw' (vnL n) 0).length := by
  rw [vnL_length, vnL_row h1, mk_length]
  intro m hm c
  rw [kc_congr (g := fun k => vern n k m) (fun k hk => by rw [vnL_tb hk hm]), kc_congr (f := fun k => tb (vnL n) k 0) (g := fun k => vern n k 0) (fun k hk => by rw [vnL_tb hk (by omega)])]
  exact vern_perf h1 m hm c

theorem vnL_plain {n : Nat} : PlainL (vnL n) := fun r hr => by
  obtain ⟨k, hk, rfl⟩ := List.mem_map.1 hr
  refine (twB_inj _).2 ?_
  rw [mk_length]
  intro i j hi hj e
  rw [co_mk, co_mk, if_pos hi, if_pos hj] at e
  exact vern_plain n k (List.mem_range.1 hk) i j hi hj e

end Go.Proofs.Ytcdlbdicfldlaaa.Calls102
