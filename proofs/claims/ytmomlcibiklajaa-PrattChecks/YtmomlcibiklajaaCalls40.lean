/-
  A slice of lines among the arguments, as a list.
-/
import Derived.Test.YtmomlcibiklajaaCalls36
namespace Go.Proofs.Ytmomlcibiklajaa.Calls40
set_option linter.unusedVariables false
open Go.ChangeShapes Go.WideShapes Go.ChangeAt Go.RowKit Go.Deep Go.Proofs.Ytmomlcibiklajaa.Base Go.Proofs.Ytmomlcibiklajaa.Num31 Go.Proofs.Ytmomlcibiklajaa.Calls35 Go.Proofs.Ytmomlcibiklajaa.Calls36

theorem ints_view {H : Type} {enc : TypeId × Value → H} {P : Program} {W : World} {sp : Nat → Bool} {hd : Bool} {t te : TypeId} {v : Value} {fuel : Nat} {x : DataW H × List MemPlace}
    (ht : P.underlying t = some (.slice te)) (ce : P.cellsOf te = 1) (ue : P.underlying te = some (.int .i64)) (h : DataW.trod enc P W 0 sp hd fuel t [v] = some x) :
    ∃ (bo : Option Addr) (cb : Nat) (F : List Int), v = .slice bo F.length cb ∧ IRow W bo F ∧ F.length ≤ 9223372036854775807 := by
  rcases open_slice1 ht ce h with ⟨hc, hx⟩ | ⟨a, len, cap, m, n, V, D, Pl, hcs, hb, hl, hm, hmm, hx, hall⟩
  · have e : v = .slice none 0 0 := by simpa using hc
    exact ⟨none, 0, [], e, irow_nil _, by simp⟩
  · have e : v = .slice (some a) len cap := by simpa using hcs
    have hlm : len ≤ m := by rw [hmm]; split <;> omega
    have each : ∀ i, i < len → ∃ z : Int, W.cell? (a.add i) = some (.int .i64 z) := by
      intro i hi
      obtain ⟨c0, t0⟩ := hall i (by omega)
      obtain ⟨z0, e0, _, w0⟩ := DataW.trod_int ue t0
      simp at e0
      rw [e0] at c0
      exact ⟨z0, c0⟩
    obtain ⟨q, hq⟩ := choose_lt each
    have hlen : ((List.range len).map q).length = len := by simp
    have hget : ∀ j, j < len → ((List.range len).map q).getD j 0 = q j := fun j hj => by simp [List.getD, hj]
    refine ⟨some a, cap, (List.range len).map q, by rw [hlen]; exact e, ⟨fun e => (by cases e), fun ad e j hj => ?_⟩, ?_⟩
    · obtain rfl : a = ad := by simpa using e
      rw [hlen] at hj
      rw [hget j hj]
      exact hq j hj
    · rw [hlen]; unfold maxLen at hm; omega

theorem add_one (a : Addr) : a.add 1 = { block := a.block, off := a.off + 1 } := by
  unfold Addr.add; simp

theorem add_dbl (a : Addr) : a.add 2 = { block := a.block, off := a.off + 2 } := by
  unfold Addr.add; simp

/-- What an argument's cells are, as a list of lines. -/
theorem lines_view {H : Type} {enc : TypeId × Value → H} {P : Program} {W : World} {sp : Nat → Bool} {hd : Bool} {t te tj : TypeId} {f0 f1 f2 : Field} {v : Value} {d : DataW H} {p : List MemPlace} (hsp : ∀ b, sp b = true)
    (ht : P.underlying t = some (.slice te)) (he : P.underlying te = some (.struct #[f0, f1, f2])) (ce : P.cellsOf te = 3) (o0 : f0.offset = 0) (o1 : f1.offset = 1) (o2 : f2.offset = 2) (c0 : P.cellsOf f0.type = 1) (c1 : P.cellsOf f1.type = 1) (c2 : P.cellsOf f2.type = 1)
    (u0 : P.underlying f0.type = some (.int .i64)) (u1 : P.underlying f1.type = some (.int .i64)) (u2 : P.underlying f2.type = some (.slice tj)) (cj : P.cellsOf tj = 1) (uj : P.underlying tj = some (.int .i64))
    (h : DataW.Trod enc P W 0 sp hd t v d p) (hv : ∃ a len cap, v = .slice a len cap) :
    ∃ (bo : Option Addr) (cb : Nat) (ls : List Ln), v = .slice bo ls.length cb ∧ LRow W bo ls ∧ ls.length ≤ cb ∧ ls.length ≤ 9223372036854775807 := by
  obtain ⟨a, len, cap, rfl⟩ := hv
  obtain ⟨fuel, hf⟩ := h
  rcases open_slice ht hf with ⟨hc, hx⟩ | ⟨a', len', cap', m, n, D, Pl, hcs, hb, hl, hm, hmm, hx, hall⟩
  · simp [Value.cells] at hc
    obtain ⟨rfl, rfl, rfl⟩ := hc
    exact ⟨none, 0, [], rfl, ⟨fun _ => rfl, fun ad e => (by cases e)⟩, by simp, by simp⟩
  · simp [Value.cells] at hcs
    obtain ⟨rfl, rfl, rfl⟩ := hcs
    have hlm : len ≤ m := by rw [hmm]; split <;> omega
    have each : ∀ i, i < len → ∃ x : Ln, LAt W (a'.add (i * 3)) x := by
      intro i hi
      obtain ⟨cs', h1, h2⟩ := hall i (by omega)
      rw [ce] at h1
      obtain ⟨_, hlen, hcell⟩ := World.cells?_some h1
      obtain ⟨xs, k, hk, hxy, _, hxl, hg⟩ := DataW.trod_struct he h2
      match xs, hxl, cs', hlen with
      | [y0, y1, y2], _, [v0, v1, v2], _ =>
        have g0 := hg 0 f0 rfl
        have g1 := hg 1 f1 rfl
        have g2 := hg 2 f2 rfl
        simp [o0, o1, o2, c0, c1, c2] at g0 g1 g2
        have e0 := hcell 0 (by omega)
        have e1 := hcell 1 (by omega)
        have e2 := hcell 2 (by omega)
        rw [add_one] at e1
        rw [add_dbl] at e2
        obtain ⟨z0, q0, _, _⟩ := DataW.trod_int u0 g0
        obtain ⟨z1, q1, _, _⟩ := DataW.trod_int u1 g1
        obtain ⟨bo, cb, F, q2, hr, hF⟩ := ints_view u2 cj uj g2
        simp at q0 q1
        subst q0 q1 q2
        exact ⟨⟨z0, z1, F⟩, by simpa [Addr.add] using e0, by simpa using e1, bo, cb, by simpa using e2, hr, hF⟩
    have hin : Inhabited Ln := ⟨Ln0⟩
    obtain ⟨q, hq⟩ := choose_lt each
    have hlen : ((List.range len).map q).length = len := by simp
    have hget : ∀ j, j < len → ((List.range len).map q).getD j Ln0 = q j := fun j hj => by simp [List.getD, hj]
    refine ⟨some a', cap, (List.range len).map q, by rw [hlen], ⟨fun e => (by cases e), fun ad e j hj => ?_⟩, by rw [hlen]; exact hl, ?_⟩
    · obtain rfl : a' = ad := by simpa using e
      rw [hlen] at hj
      rw [hget j hj]
      exact hq j hj
    · rw [hlen]; unfold maxLen at hm; omega

end Go.Proofs.Ytmomlcibiklajaa.Calls40
