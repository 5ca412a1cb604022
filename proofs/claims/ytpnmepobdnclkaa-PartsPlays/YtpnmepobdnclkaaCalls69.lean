/-
  Package poly: points: what is wrong with them.
-/
import Derived.Test.YtpnmepobdnclkaaCalls57
import Derived.Test.YtpnmepobdnclkaaBase3
import Derived.Test.YtpnmepobdnclkaaFoldB
namespace Go.Proofs.Ytpnmepobdnclkaa.Calls69
set_option linter.unusedVariables false
open Go.ChangeShapes Go.WideShapes Go.ChangeAt Go.RowKit Go.Deep Go.Maps Go.Proofs.Ytpnmepobdnclkaa.Base Go.Proofs.Ytpnmepobdnclkaa.Num Go.Proofs.Ytpnmepobdnclkaa.Num13 Go.Proofs.Ytpnmepobdnclkaa.Num16 Go.Proofs.Ytpnmepobdnclkaa.Num17 Go.Proofs.Ytpnmepobdnclkaa.Num34 Go.Proofs.Ytpnmepobdnclkaa.Num35 Go.Proofs.Ytpnmepobdnclkaa.Base4 Go.Proofs.Ytpnmepobdnclkaa.Calls56 Go.Proofs.Ytpnmepobdnclkaa.Calls57
open Go.Proofs.Ytpnmepobdnclkaa.Base3 (RV)

def px (l : List (Int × Int)) (j : Nat) : Int := (l.getD j (0, 0)).1

def py (l : List (Int × Int)) (j : Nat) : Int := (l.getD j (0, 0)).2

theorem pcell {W : World} {ad : Addr} {l : List (Int × Int)} (h : PRow W (some ad) l) {j : Nat} (hj : j < l.length) :
    W.cell? (ad.add (j * 2)) = some (.int .i64 (px l j)) ∧ W.cell? { block := (ad.add (j * 2)).block, off := (ad.add (j * 2)).off + 1 } = some (.int .i64 (py l j)) := prow_at h hj

/-- All numbers are from 0 to p - 1. -/
def InP (p : Int) (l : List (Int × Int)) (k : Nat) : Prop := ∀ j, j < k → (0 ≤ px l j ∧ px l j < p) ∧ 0 ≤ py l j ∧ py l j < p

/-- No two have one place. -/
def Dis (l : List (Int × Int)) (k : Nat) : Prop := ∀ i j, i < k → j < i → px l i ≠ px l j

/-- The code of points. -/
def PtC (p : Int) (l : List (Int × Int)) (c : Int) : Prop :=
  (PrC p c ∧ c ≠ 0) ∨ (PrC p 0 ∧ ((13 < l.length ∧ c = 1) ∨ (l.length ≤ 13 ∧ ((¬ InP p l l.length ∧ c = 2) ∨ (InP p l l.length ∧ ((¬ Dis l l.length ∧ c = 4) ∨ (Dis l l.length ∧ c = 0)))))))

theorem ptc_ex (p : Int) (l : List (Int × Int)) : ∃ c, PtC p l c := by
  obtain ⟨c, hc⟩ := prc_ex p
  by_cases h0 : c = 0
  · subst h0
    by_cases hl : 13 < l.length
    · exact ⟨1, .inr ⟨hc, .inl ⟨hl, rfl⟩⟩⟩
    · rcases Classical.em (InP p l l.length) with h1 | h1
      · rcases Classical.em (Dis l l.length) with h2 | h2
        · exact ⟨0, .inr ⟨hc, .inr ⟨by omega, .inr ⟨h1, .inr ⟨h2, rfl⟩⟩⟩⟩⟩
        · exact ⟨4, .inr ⟨hc, .inr ⟨by omega, .inr ⟨h1, .inl ⟨h2, rfl⟩⟩⟩⟩⟩
      · exact ⟨2, .inr ⟨hc, .inr ⟨by omega, .inl ⟨h1, rfl⟩⟩⟩⟩
  · exact ⟨c, .inl ⟨hc, h0⟩⟩

theorem PtC.ok {p : Int} {l : List (Int × Int)} (h : PtC p l 0) : ∃ P : Nat, p = (P : Int) ∧ Pr P ∧ P ≤ 251 ∧ l.length ≤ 13 ∧ InP p l l.length ∧ Dis l l.length := by
  rcases h with ⟨_, h⟩ | ⟨h, ⟨_, h2⟩ | ⟨h2, ⟨_, h3⟩ | ⟨h3, ⟨_, h4⟩ | ⟨h4, _⟩⟩⟩⟩
  · exact absurd rfl h
  · cases h2
  · cases h3
  · cases h4
  · obtain ⟨P, e, h5, h6⟩ := h.ok
    exact ⟨P, e, h5, h6, h2, h3, h4⟩

theorem checkPoints1_any (A B : Nat) (p x y : Int) (w : World) (hA : w.cell? ⟨A, 0, none⟩ = some (.int .i64 p)) (hB : w.cell? ⟨B, 0, none⟩ = some (.func (.func 69) #[] #[.pointer (some ⟨A, 0, none⟩)])) :
    Calls Try.prog 70 #[.agg #[.int .i64 x, .int .i64 y], .pointer (some ⟨B, 0, none⟩)] w fun e w' => e = .returned (.bool (outB p x || outB p y)) ∧ Below w.heap.size w w' := by
  have hb1 := (Below.refl _ w).alloc (Nat.le_refl _) (.cells #[.int .i64 x, .int .i64 y] 30)
  have hA2 := (hb1.cell (p := ⟨A, 0, none⟩) (cell_lt hA)).trans hA
  have hB2 := (hb1.cell (p := ⟨B, 0, none⟩) (cell_lt hB)).trans hB
  have cX := outside1_any A p x _ hA2
  have cY := outside1_any A p y _ hA2
  have HB := hid hb1
  clear hb1
  cases hx : outB p x with
  | true =>
    rw [hx] at cX
    clear hx cY
    go_enter Try.func70, Try.ntmps70
    go_wp2_with (go_at_call 69; refine cX.mono ?_; rintro e w1 ⟨rfl, hw⟩; subst w1)
    go_ret
    exact ⟨rfl, HB.out⟩
  | false =>
    rw [hx] at cX
    generalize outB p y = b at *
    clear hx
    go_enter Try.func70, Try.ntmps70
    go_wp2_with (first
      | (go_at_call 69; refine cX.mono ?_; rintro e w1 ⟨rfl, hw⟩; subst w1; clear cX)
      | (go_at_call 69; refine cY.mono ?_; rintro e w1 ⟨rfl, hw⟩; subst w1))
    go_ret
    exact ⟨rfl, HB.out⟩

def outP (p : Int) (l : List (Int × Int)) (j : Nat) : Bool := outB p (px l j) || outB p (py l j)

theorem outP_no {p : Int} {l : List (Int × Int)} {j : Nat} : outP p l j = false ↔ ((0 ≤ px l j ∧ px l j < p) ∧ 0 ≤ py l j ∧ py l j < p) := by
  unfold outP outB
  simp

/-- What IndexFunc answers: a place, or -1. -/
def SeenP (p : Int) (l : List (Int × Int)) (e : Ending) : Prop := (∃ k : Nat, ¬ InP p l l.length ∧ e = .returned (.int .i64 (k : Int))) ∨ (InP p l l.length ∧ e = .returned (.int .i64 (-1)))

set_option maxRecDepth 100000 in
theorem ptsIndex_any (ao : Option Addr) (cap : Nat) (l : List (Int × Int)) (A B : Nat) (p : Int) (hl : l.length ≤ 1048576) (w : World) (hrow : PRow w ao l) (hli : Lies w ao l) (hA : w.cell? ⟨A, 0, none⟩ = some (.int .i64 p)) (hB : w.cell? ⟨B, 0, none⟩ = some (.func (.func 69) #[] #[.pointer (some ⟨A, 0, none⟩)])) :
    Calls Try.prog 65 #[.slice ao l.length cap, .func (.func 70) #[] #[.pointer (some ⟨B, 0, none⟩)]] w fun e w' => SeenP p l e ∧ Below w.heap.size w w' := by
  obtain ⟨N, hN⟩ : ∃ N, N = l.length := ⟨_, rfl⟩
  have HN : Hid (N = l.length) := hN
  have cK := fun (x y : Int) w' (hb : Below w.heap.size w w') => checkPoints1_any A B p x y w' ((hb.cell (p := ⟨A, 0, none⟩) (cell_lt hA)).trans hA) ((hb.cell (p := ⟨B, 0, none⟩) (cell_lt hB)).trans hB)
  rw [← hN] at hl ⊢
  clear hN hA hB
  go_enter Try.func65, Try.ntmps65
  go_wp2
  go_loopw [8] (fun i wr => ∃ k : Nat, i = .int .i64 (k : Int) ∧ k ≤ N ∧ Hid (InP p l k) ∧ Hid (Below w.heap.size w wr)) (fun i wr => ((N : Int) - intOf i).toNat)
  case atStart => exact ⟨0, rfl, by omega, fun j hj => absurd hj (by omega), Below.refl _ _⟩
  case round =>
    obtain ⟨k, rfl, hk, hI, hBr⟩ := hrel
    by_cases hgo : k < N
    · have hgo' : (k : Int) < (N : Int) := by omega
      have hkl : Hid (k < l.length) := by have := HN.out; show k < l.length; omega
      rcases ao with _ | ad
      · exact (prow_none hrow hkl.out).elim
      · obtain ⟨c1, c2⟩ := pcell (prow_below hrow hBr.out hli) hkl.out
        have cC := cK (px l k) (py l k) wr hBr.out
        rw [show (outB p (px l k) || outB p (py l k)) = outP p l k from rfl] at cC
        cases hb : outP p l k with
        | true =>
          have hno : Hid (¬ InP p l l.length) := fun h => by
            have := outP_no.2 (h k hkl.out)
            rw [hb] at this; cases this
          rw [hb] at cC
          generalize px l k = x at *
          generalize py l k = y at *
          clear hb cK
          go_wp2_with (go_at_call 70; refine cC.mono ?_; rintro e w1 ⟨rfl, hB1⟩)
          go_ret
          exact ⟨.inl ⟨k, hno.out, rfl⟩, below_trans hBr.out hB1⟩
        | false =>
          have hI2 : Hid (InP p l (k + 1)) := fun j hj => by
            by_cases e : j = k
            · subst e; exact outP_no.1 hb
            · exact hI.out j (by omega)
          rw [hb] at cC
          generalize px l k = x at *
          generalize py l k = y at *
          clear hb cK
          go_wp2_with (go_at_call 70; refine cC.mono ?_; rintro e w1 ⟨rfl, hB1⟩)
          go_roundw
          case rel => exact ⟨k + 1, by simp, by omega, hI2, below_trans hBr.out hB1⟩
          case measure => exact measK hgo
    · have hgo' : ¬ (k : Int) < (N : Int) := by omega
      obtain rfl : k = N := by omega
      go_wp2
      go_ret
      exact ⟨.inr ⟨by rw [← HN.out]; exact hI.out, rfl⟩, hBr.out⟩

theorem ptsContains_any (ao : Option Addr) (cap : Nat) (l : List (Int × Int)) (A B : Nat) (p : Int) (hl : l.length ≤ 1048576) (b : Bool) (hb : b = false ↔ InP p l l.length) (w : World) (hrow : PRow w ao l) (hli : Lies w ao l) (hA : w.cell? ⟨A, 0, none⟩ = some (.int .i64 p)) (hB : w.cell? ⟨B, 0, none⟩ = some (.func (.func 69) #[] #[.pointer (some ⟨A, 0, none⟩)])) :
    Calls Try.prog 47 #[.slice ao l.length cap, .func (.func 70) #[] #[.pointer (some ⟨B, 0, none⟩)]] w fun e w' => e = .returned (.bool b) ∧ Below w.heap.size w w' := by
  have cF := ptsIndex_any ao cap l A B p hl w hrow hli hA hB
  cases b with
  | true =>
    have cI := cF.mono (R' := fun e w1 => (∃ k : Nat, e = .returned (.int .i64 (k : Int))) ∧ Below w.heap.size w w1) (fun e w1 h => ⟨by
      rcases h.1 with ⟨k, _, e⟩ | ⟨h, _⟩
      · exact ⟨k, e⟩
      · exact absurd (hb.2 h) (by decide), h.2⟩)
    clear cF hb hrow hA hB
    go_enter Try.func47, Try.ntmps47
    go_wp2_with (go_at_call 65; refine cI.mono ?_; rintro e w1 ⟨⟨k, rfl⟩, hB1⟩)
    go_ret
    exact ⟨ret_bool (by simp), hB1⟩
  | false =>
    have hI := hb.1 rfl
    have cI := cF.mono (R' := fun e w1 => e = .returned (.int .i64 (-1)) ∧ Below w.heap.size w w1) (fun e w1 h => ⟨by
      rcases h.1 with ⟨k, h1, e⟩ | ⟨_, e⟩
      · exact absurd hI h1
      · exact e, h.2⟩)
    clear cF hb hrow hA hB hI
    go_enter Try.func47, Try.ntmps47
    go_wp2_with (go_at_call 65; refine cI.mono ?_; rintro e w1 ⟨rfl, hB1⟩)
    go_ret
    exact ⟨rfl, hB1⟩

end Go.Proofs.Ytpnmepobdnclkaa.Calls69
