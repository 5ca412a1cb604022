/-
  Plain arithmetic, without the model: numbers of two halves, turned round by round, there and back.
-/
import Derived.Test.YtngdhhhdnkkagaaFoldB
namespace Go.Proofs.Ytngdhhhdnkkagaa.Num51
set_option linter.unusedVariables false
open Go.Proofs.Ytngdhhhdnkkagaa.Num16

/-- A round: sixteen numbers from 0 to 15. -/
def Ro (r : List Int) : Prop := r.length = 16 ∧ ∀ j, j < 16 → 0 ≤ co r j ∧ co r j ≤ 15

/-- The number at a place of a round. -/
def ho (r : List Int) (j : Nat) : Nat := (co r j).toNat

theorem Ro.lt {r : List Int} (h : Ro r) {j : Nat} (hj : j < 16) : ho r j < 16 := by
  have := h.2 j hj; unfold ho; omega

theorem Ro.eq {r : List Int} (h : Ro r) {j : Nat} (hj : j < 16) : co r j = ((ho r j : Nat) : Int) := by
  have := h.2 j hj; unfold ho; omega

theorem xor16 {a b : Nat} (ha : a < 16) (hb : b < 16) : a ^^^ b < 16 := Nat.xor_lt_two_pow (n := 4) ha hb

theorem xor_back (a b : Nat) : (a ^^^ b) ^^^ b = a := by rw [Nat.xor_assoc, Nat.xor_self, Nat.xor_zero]

/-- One round. -/
def rd (r : List Int) (x : Nat) : Nat := x % 16 * 16 + (x / 16 ^^^ ho r (x % 16))

/-- One round back. -/
def bk (r : List Int) (y : Nat) : Nat := (y % 16 ^^^ ho r (y / 16)) * 16 + y / 16

theorem rd_lt {r : List Int} (h : Ro r) {x : Nat} (hx : x < 256) : rd r x < 256 := by
  have h1 := xor16 (a := x / 16) (by omega) (h.lt (Nat.mod_lt x (by decide : 0 < 16)))
  unfold rd; omega

theorem bk_lt {r : List Int} (h : Ro r) {y : Nat} (hy : y < 256) : bk r y < 256 := by
  have h1 := xor16 (Nat.mod_lt y (by decide : 0 < 16)) (h.lt (j := y / 16) (by omega))
  unfold bk; omega

theorem halves {a b : Nat} (hb : b < 16) : (a * 16 + b) / 16 = a ∧ (a * 16 + b) % 16 = b := by omega

theorem rd_left {r : List Int} (h : Ro r) {x : Nat} (hx : x < 256) : rd r x / 16 = x % 16 :=
  (halves (xor16 (a := x / 16) (by omega) (h.lt (Nat.mod_lt x (by decide : 0 < 16))))).1

theorem rd_right {r : List Int} (h : Ro r) {x : Nat} (hx : x < 256) : rd r x % 16 = x / 16 ^^^ ho r (x % 16) :=
  (halves (xor16 (a := x / 16) (by omega) (h.lt (Nat.mod_lt x (by decide : 0 < 16))))).2

theorem bk_left {r : List Int} {y : Nat} (hy : y < 256) : bk r y / 16 = y % 16 ^^^ ho r (y / 16) := (halves (by omega)).1

theorem bk_right {r : List Int} {y : Nat} (hy : y < 256) : bk r y % 16 = y / 16 := (halves (by omega)).2

theorem bk_rd {r : List Int} (h : Ro r) {x : Nat} (hx : x < 256) : bk r (rd r x) = x := by
  unfold bk
  rw [rd_left h hx, rd_right h hx, xor_back]
  omega

theorem rd_bk {r : List Int} (h : Ro r) {y : Nat} (hy : y < 256) : rd r (bk r y) = y := by
  unfold rd
  rw [bk_left hy, bk_right hy, xor_back]
  omega

/-- There: round by round. -/
def sl (L : List (List Int)) (x : Nat) : Nat := L.foldl (fun y r => rd r y) x

/-- Back: from the last round on. -/
def op (L : List (List Int)) (y : Nat) : Nat := L.foldr (fun r y => bk r y) y

/-- All are rounds. -/
def Ros (L : List (List Int)) : Prop := ∀ r, r ∈ L → Ro r

theorem Ros.tail {r : List Int} {t : List (List Int)} (h : Ros (r :: t)) : Ros t := fun q hq => h q (List.mem_cons_of_mem _ hq)

theorem Ros.head {r : List Int} {t : List (List Int)} (h : Ros (r :: t)) : Ro r := h r List.mem_cons_self

theorem sl_lt : ∀ {L : List (List Int)}, Ros L → ∀ {x : Nat}, x < 256 → sl L x < 256
  | [], _, _, hx => hx
  | r :: t, h, x, hx => sl_lt (L := t) h.tail (rd_lt h.head hx)

theorem op_lt : ∀ {L : List (List Int)}, Ros L → ∀ {y : Nat}, y < 256 → op L y < 256
  | [], _, _, hy => hy
  | r :: t, h, y, hy => bk_lt h.head (op_lt (L := t) h.tail hy)

theorem op_sl : ∀ {L : List (List Int)}, Ros L → ∀ {x : Nat}, x < 256 → op L (sl L x) = x
  | [], _, _, _ => rfl
  | r :: t, h, x, hx => by
    show bk r (op t (sl t (rd r x))) = x
    rw [op_sl (L := t) h.tail (rd_lt h.head hx), bk_rd h.head hx]

theorem sl_op : ∀ {L : List (List Int)}, Ros L → ∀ {y : Nat}, y < 256 → sl L (op L y) = y
  | [], _, _, _ => rfl
  | r :: t, h, y, hy => by
    show sl t (rd r (bk r (op t y))) = y
    rw [rd_bk h.head (op_lt h.tail hy), sl_op (L := t) h.tail hy]

theorem sl_inj {L : List (List Int)} (h : Ros L) {x y : Nat} (hx : x < 256) (hy : y < 256) (e : sl L x = sl L y) : x = y := by
  rw [← op_sl h hx, e, op_sl h hy]

theorem sl_take {L : List (List Int)} {i : Nat} (hi : i < L.length) (x : Nat) : sl (L.take (i + 1)) x = rd (L.getD i []) (sl (L.take i) x) := by
  have e2 : L.getD i [] = L[i] := by simp [List.getD, hi]
  rw [e2, ← List.take_append_getElem hi]
  unfold sl
  rw [List.foldl_append]
  rfl

theorem op_drop {L : List (List Int)} {i : Nat} (hi : i < L.length) (y : Nat) : op (L.drop i) y = bk (L.getD i []) (op (L.drop (i + 1)) y) := by
  have e2 : L.getD i [] = L[i] := by simp [List.getD, hi]
  rw [e2, List.drop_eq_getElem_cons hi]
  rfl

theorem sl_snoc (L : List (List Int)) (r : List Int) (x : Nat) : sl (L ++ [r]) x = rd r (sl L x) := by simp [sl]

/-- Halves changed. -/
def sw (x : Nat) : Nat := x % 16 * 16 + x / 16

theorem sw_lt {x : Nat} (hx : x < 256) : sw x < 256 := by unfold sw; omega

theorem sw_sw {x : Nat} (hx : x < 256) : sw (sw x) = x := by unfold sw; omega

theorem bk_sw {r : List Int} (h : Ro r) {y : Nat} (hy : y < 256) : sw (rd r (sw y)) = bk r y := by
  have h1 : sw y / 16 = y % 16 := by unfold sw; omega
  have h2 : sw y % 16 = y / 16 := by unfold sw; omega
  unfold sw
  show rd r (sw y) % 16 * 16 + rd r (sw y) / 16 = bk r y
  rw [rd_right h (sw_lt hy), rd_left h (sw_lt hy), h1, h2]
  rfl

/-- The way back is the way there from the last round on. -/
theorem op_turn : ∀ {L : List (List Int)}, Ros L → ∀ {y : Nat}, y < 256 → op L y = sw (sl L.reverse (sw y))
  | [], _, y, hy => (sw_sw hy).symm
  | r :: t, h, y, hy => by
    have hr : Ros t.reverse := fun q hq => h.tail q (List.mem_reverse.mp hq)
    show bk r (op t y) = _
    rw [op_turn (L := t) h.tail hy, List.reverse_cons, sl_snoc, ← bk_sw h.head (sw_lt (sl_lt hr (sw_lt hy))), sw_sw (sl_lt hr (sw_lt hy))]

/-- Bits of which just one has one, one by one. -/
theorem xor_step : ∀ a, a < 16 → ∀ b, b < 16 → ∀ k, k < 8 → (a ^^^ b) % 2 ^ (k + 1) = (a ^^^ b) % 2 ^ k + (if a / 2 ^ k % 2 = b / 2 ^ k % 2 then 0 else 2 ^ k) := by decide +kernel

theorem xor_done {a b : Nat} (ha : a < 16) (hb : b < 16) : (a ^^^ b) % 2 ^ 8 = a ^^^ b := Nat.mod_eq_of_lt (Nat.lt_trans (xor16 ha hb) (by decide))

end Go.Proofs.Ytngdhhhdnkkagaa.Num51
