/-
  The program's texts and the document's, place by place.
-/
import Derived.Test.YthjmmibfgphlhaaCalls147
namespace Go.Proofs.Ythjmmibfgphlhaa.Calls148
set_option linter.unusedVariables false
open Go.ChangeShapes Go.WideShapes Go.ChangeAt Go.RowKit Go.Deep Go.Proofs.Ythjmmibfgphlhaa.Base Go.Proofs.Ythjmmibfgphlhaa.Base2 Go.Proofs.Ythjmmibfgphlhaa.Base7 Go.Proofs.Ythjmmibfgphlhaa.Base8 Go.Proofs.Ythjmmibfgphlhaa.Base9 Go.Proofs.Ythjmmibfgphlhaa.Num55 Go.Proofs.Ythjmmibfgphlhaa.Num60 Go.Proofs.Ythjmmibfgphlhaa.Calls126 Go.Proofs.Ythjmmibfgphlhaa.Calls128 Go.Proofs.Ythjmmibfgphlhaa.Calls133 Go.Proofs.Ythjmmibfgphlhaa.Calls134 Go.Proofs.Ythjmmibfgphlhaa.Calls135 Go.Proofs.Ythjmmibfgphlhaa.Calls141 Go.Proofs.Ythjmmibfgphlhaa.Calls142 Go.Proofs.Ythjmmibfgphlhaa.Calls143 Go.Proofs.Ythjmmibfgphlhaa.Calls144 Go.Proofs.Ythjmmibfgphlhaa.Calls147

set_option maxRecDepth 100000 in
theorem first_one (c d : Int) (h : c ≠ 0) (w : World) : Calls Try.prog 20 #[.int .i64 c, .int .i64 d] w fun e w' => e = .returned (.int .i64 c) ∧ w' = w := by
  have h1 : (c == 0) = false := by simpa using h
  have h2 : (c != 0) = true := by simpa using h
  go_enter Try.func20, Try.ntmps20
  go_wp2
  go_ret
  exact ⟨rfl, rfl⟩

set_option maxRecDepth 100000 in
theorem first_two (d : Int) (w : World) : Calls Try.prog 20 #[.int .i64 0, .int .i64 d] w fun e w' => e = .returned (.int .i64 d) ∧ w' = w := by
  go_enter Try.func20, Try.ntmps20
  go_wp2
  go_ret
  exact ⟨rfl, rfl⟩

/-- Where the s-th of the program's texts stands among the document's. -/
theorem pos_ex {n i : Nat} : ∀ (h s : Nat), s ≤ us n i h → ∃ r, r ≤ h ∧ ((r = 0 ∧ s = 0) ∨ ∃ k, r = k + 1 ∧ Need n i k ∧ s = us n i k + 1)
  | 0, s, hs => ⟨0, Nat.le_refl _, .inl ⟨rfl, by have : us n i 0 = 0 := rfl; omega⟩⟩
  | h + 1, s, hs => by
    rcases need_dec n i h with e | e
    · rw [us_need e] at hs
      by_cases e2 : s = us n i h + 1
      · exact ⟨h + 1, Nat.le_refl _, .inr ⟨h, rfl, e, e2⟩⟩
      · obtain ⟨r, h1, h2⟩ := pos_ex (n := n) (i := i) h s (by omega)
        exact ⟨r, by omega, h2⟩
    · rw [us_not e] at hs
      obtain ⟨r, h1, h2⟩ := pos_ex (n := n) (i := i) h s hs
      exact ⟨r, by omega, h2⟩

/-- The first row at which the document's texts have one sum. -/
theorem fst_ll {n i h s : Nat} {p a q b : List Nat} (ha : a.length ≤ 4095) (hba : Byt a) (hs : Fst (wl n i p a h) (wl n i q b h) (us n i h + 1) s) :
    ∃ r, r ≤ h ∧ yr (ll n i p a h) r = yr (wl n i p a h) s ∧ yr (ll n i q b h) r = yr (wl n i q b h) s ∧
      ∀ j, j < r → yr (ll n i p a h) j = [] ∨ (yr (ll n i p a h) j ≠ [] ∧ sum (yr (ll n i p a h) j) ≠ sum (yr (ll n i q b h) j)) := by
  have hs1 := hs.1
  have hs3 := hs.2.2
  obtain ⟨r, hr, hpos⟩ := pos_ex (n := n) (i := i) h s (by omega)
  have ne : ∀ t, t ≤ us n i h → yr (wl n i p a h) t ≠ [] := fun t ht e => by
    have := (wl_at_fit (n := n) (i := i) (p := p) ha hba (k := h) ht).2.2
    rw [e] at this
    simp at this
  refine ⟨r, hr, ?_, ?_, fun j hj => ?_⟩
  · rcases hpos with ⟨rfl, rfl⟩ | ⟨k, rfl, hN, rfl⟩
    · rw [ll_zero, wl_zero]
    · rw [ll_at hr hN, wl_at hr hN]
  · rcases hpos with ⟨rfl, rfl⟩ | ⟨k, rfl, hN, rfl⟩
    · rw [ll_zero, wl_zero]
    · rw [ll_at hr hN, wl_at hr hN]
  · rcases hpos with ⟨rfl, rfl⟩ | ⟨k, rfl, hN, rfl⟩
    · omega
    · match j with
      | 0 =>
        right
        have h0 := hs3 0 (by omega)
        have n0 := ne 0 (Nat.zero_le _)
        rw [wl_zero] at h0 n0
        rw [wl_zero] at h0
        rw [ll_zero, ll_zero]
        exact ⟨n0, h0⟩
      | j + 1 =>
        have hjk : j < k := by omega
        have hjh : j < h := by omega
        rcases need_dec n i j with e | e
        · right
          have hm := us_mono (n := n) (i := i) (k := j + 1) (k - (j + 1))
          rw [show j + 1 + (k - (j + 1)) = k by omega, us_need e] at hm
          have h0 := hs3 (us n i j + 1) (by omega)
          have n0 := ne (us n i j + 1) (by omega)
          rw [wl_at hjh e] at h0 n0
          rw [wl_at hjh e] at h0
          rw [ll_at hjh e, ll_at hjh e]
          exact ⟨n0, h0⟩
        · left
          exact ll_none hjh e

theorem ltab_form {W : World} {base : Nat} {v : Value} {u : Nat} {A : List (List Nat)} (h : LTab W base v (u + 1) A) : ∃ G C, v = .slice (some ⟨G, 0, none⟩) (u + 1) C ∧ u + 1 ≤ C := by
  obtain ⟨G, C, h1, h2, _⟩ := h.text (j := 0) (by omega)
  exact ⟨G, C, h1, h2⟩

theorem ltab_cell {W : World} {base G K C : Nat} {A : List (List Nat)} (h : LTab W base (.slice (some ⟨G, 0, none⟩) K C) K A) {j : Nat} (hj : j < K) :
    ∃ so c, W.cell? ⟨G, j, none⟩ = some (.slice so (yr A j).length c) ∧ (yr A j).length ≤ c ∧ YRow W so (yr A j) := by
  obtain ⟨G', C', h1, h2, so, c, h3, h4, h5⟩ := h.text hj
  simp only [Value.slice.injEq, Option.some.injEq, Addr.mk.injEq, and_true, true_and] at h1
  obtain ⟨rfl, rfl⟩ := h1
  exact ⟨so, c, h3, h4, h5⟩

theorem ll_mem {n i : Nat} {p a t : List Nat} : ∀ {k : Nat}, t ∈ ll n i p a k → t = [] ∨ t = lft a ∨ ∃ x y, t = prt x y
  | 0, h => .inr (.inl (by simpa [ll] using h))
  | k + 1, h => by
    rcases need_dec n i k with e | e
    · rw [ll_need e] at h
      rcases List.mem_append.1 h with h | h
      · exact ll_mem h
      · refine .inr (.inr ?_)
        have ht : t = kt n i p a k := by simpa using h
        rw [ht]
        unfold kt tx
        split
        · exact ⟨_, _, rfl⟩
        · exact ⟨_, _, rfl⟩
    · rw [ll_not e] at h
      rcases List.mem_append.1 h with h | h
      · exact ll_mem h
      · exact .inl (by simpa using h)

theorem ll_fit {n i : Nat} {p a : List Nat} (ha : a.length ≤ 4095) (hb : Byt a) {k j : Nat} (hj : j ≤ k) : (yr (ll n i p a k) j).length ≤ 4096 ∧ Byt (yr (ll n i p a k) j) := by
  rcases ll_mem (yr_mem (L := ll n i p a k) (j := j) (by rw [ll_length]; omega)) with e | e | ⟨x, y, e⟩
  · rw [e]; exact ⟨by simp, fun b hb => by cases hb⟩
  · rw [e]; exact ⟨by rw [lft_length]; omega, lft_byt hb⟩
  · rw [e]; exact ⟨by rw [prt_length]; omega, prt_byt x y⟩

end Go.Proofs.Ythjmmibfgphlhaa.Calls148
