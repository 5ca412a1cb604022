/-
  What the document's own functions answer: the greatest common divisor by halves and differences, the least common multiple, the range tests.
-/
import Derived.Test.YtpnmepobdnclkaaCalls3
namespace Go.Proofs.Ytpnmepobdnclkaa.Calls4
set_option linter.unusedVariables false
open Go.ChangeShapes Go.WideShapes Go.ChangeAt Go.RowKit Go.Proofs.Ytpnmepobdnclkaa.Math Go.Proofs.Ytpnmepobdnclkaa.Calls1 Go.Proofs.Ytpnmepobdnclkaa.Calls2 Go.Proofs.Ytpnmepobdnclkaa.Calls3

/-- What holds at the head of each of the two loops. -/
structure Bin (a0 b0 a b t : Int) : Prop where
  ha : 1 ≤ a
  hb : 1 ≤ b
  ht : 1 ≤ t
  ga : a ≤ 2147483648
  gb : b ≤ 2147483648
  gt : a * t ≤ 2147483648
  g : gg a b * t = gg a0 b0

theorem Bin.start {a b : Int} (ha : 1 ≤ a) (hb : 1 ≤ b) (ga : a ≤ 2147483648) (gb : b ≤ 2147483648) : Bin a b a b 1 :=
  ⟨ha, hb, by omega, ga, gb, by omega, by omega⟩

theorem Bin.t_le {a0 b0 a b t : Int} (h : Bin a0 b0 a b t) : t ≤ 2147483648 := by
  have := mul_le_one (x := t) (y := a) (c := 2147483648) (by have := h.ht; omega) h.ha (by rw [Int.mul_comm]; exact h.gt)
  exact this

theorem Bin.both {a0 b0 a b t : Int} (h : Bin a0 b0 a b t) (h1 : a % 2 = 0) (h2 : b % 2 = 0) : Bin a0 b0 (a / 2) (b / 2) (t * 2) := by
  have hg := gg_half_both h1 h2
  have e : a / 2 * (t * 2) = a * t := by
    have := half_mul h1
    rw [show a / 2 * (t * 2) = (2 * (a / 2)) * t by rw [Int.mul_comm t 2, ← Int.mul_assoc, Int.mul_comm (a / 2) 2], ← this]
  have e2 : gg (a / 2) (b / 2) * (t * 2) = gg a b * t := by
    rw [hg, Int.mul_comm t 2, ← Int.mul_assoc, Int.mul_comm _ 2]
  obtain ⟨ha, hb, ht, ga, gb, gt, g⟩ := h
  exact ⟨by omega, by omega, by omega, by omega, by omega, by omega, by omega⟩

theorem mul_mono {a b t : Int} (h : a ≤ b) (ht : 1 ≤ t) : a * t ≤ b * t := Int.mul_le_mul_of_nonneg_right h (by omega)

theorem Bin.left {a0 b0 a b t : Int} (h : Bin a0 b0 a b t) (ho : gg a b % 2 = 1) (h1 : a % 2 = 0) : Bin a0 b0 (a / 2) b t ∧ gg (a / 2) b % 2 = 1 := by
  obtain ⟨ha, hb, ht, ga, gb, gt, g⟩ := h
  have hg := gg_half_left h1 ho
  have m := mul_mono (a := a / 2) (b := a) (by omega) ht
  exact ⟨⟨by omega, by omega, by omega, by omega, by omega, by omega, by rw [hg]; exact g⟩, by rw [hg]; exact ho⟩

theorem Bin.right {a0 b0 a b t : Int} (h : Bin a0 b0 a b t) (ho : gg a b % 2 = 1) (h1 : b % 2 = 0) : Bin a0 b0 a (b / 2) t ∧ gg a (b / 2) % 2 = 1 := by
  obtain ⟨ha, hb, ht, ga, gb, gt, g⟩ := h
  have hg := gg_half_right h1 ho
  exact ⟨⟨by omega, by omega, by omega, by omega, by omega, by omega, by rw [hg]; exact g⟩, by rw [hg]; exact ho⟩

theorem Bin.subl {a0 b0 a b t : Int} (h : Bin a0 b0 a b t) (ho : gg a b % 2 = 1) (h1 : b < a) : Bin a0 b0 (a - b) b t ∧ gg (a - b) b % 2 = 1 := by
  obtain ⟨ha, hb, ht, ga, gb, gt, g⟩ := h
  have hg := gg_sub_left a b
  have m := mul_mono (a := a - b) (b := a) (by omega) ht
  exact ⟨⟨by omega, by omega, by omega, by omega, by omega, by omega, by rw [hg]; exact g⟩, by rw [hg]; exact ho⟩

theorem Bin.subr {a0 b0 a b t : Int} (h : Bin a0 b0 a b t) (ho : gg a b % 2 = 1) (h1 : a < b) : Bin a0 b0 a (b - a) t ∧ gg a (b - a) % 2 = 1 := by
  obtain ⟨ha, hb, ht, ga, gb, gt, g⟩ := h
  have hg := gg_sub_right a b
  exact ⟨⟨by omega, by omega, by omega, by omega, by omega, by omega, by rw [hg]; exact g⟩, by rw [hg]; exact ho⟩

theorem Bin.done {a0 b0 a t : Int} (h : Bin a0 b0 a a t) : a * t = gg a0 b0 := by
  have := h.g; rw [gg_self (by have := h.ha; omega)] at this; exact this

end Go.Proofs.Ytpnmepobdnclkaa.Calls4
