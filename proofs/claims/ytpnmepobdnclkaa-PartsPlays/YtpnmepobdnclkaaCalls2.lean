/-
  Euclid's extended loop: for any two numbers from 0 to 2^31 it answers their greatest common divisor g and some x, not beyond 2^31, for which the second number divides x times the first less g.
-/
import Derived.Test.YtpnmepobdnclkaaCalls1
namespace Go.Proofs.Ytpnmepobdnclkaa.Calls2
set_option linter.unusedVariables false
open Go.ChangeShapes Go.WideShapes Go.ChangeAt Go.RowKit Go.Proofs.Ytpnmepobdnclkaa.Math Go.Proofs.Ytpnmepobdnclkaa.Calls1

theorem extend_any (a b : Int) (w : World) (ha : 0 ≤ a) (hb : 0 ≤ b) (ga : a ≤ 2147483648) (gb : b ≤ 2147483648) :
    Calls Try.prog 83 #[.int .i64 a, .int .i64 b] w fun e w' =>
      ∃ x : Int, e = .returned (.tuple #[.int .i64 (gg a b), .int .i64 x]) ∧ -2147483648 ≤ x ∧ x ≤ 2147483648 ∧ b ∣ x * a - gg a b ∧ w' = w := by
  have H0 : Hid (Ext a b a b 1 0) := Ext.start ha hb ga gb
  go_enter Try.func83, Try.ntmps83
  go_wp2
  go_loop [0, 1, 6, 7] (fun ta tb tx tn => ∃ p q x n : Int, ta = .int .i64 p ∧ tb = .int .i64 q ∧ tx = .int .i64 x ∧ tn = .int .i64 n ∧ Hid (Ext a b p q x n)) (fun _ tb _ _ => (intOf tb).toNat)
  case atStart => exact ⟨a, b, 1, 0, rfl, rfl, rfl, rfl, H0⟩
  case round =>
    obtain ⟨p, q, x, n, rfl, rfl, rfl, rfl, H⟩ := hrel
    clear H0
    by_cases hq : q = 0
    · subst hq
      have hg : Hid (p = gg a b) := by
        have := H.out.g; rw [gg_zero_right H.out.ha] at this; exact this
      go_wp2
      go_ret2
      refine ⟨x, ?_, H.out.xl, H.out.xu, ?_, rfl⟩
      · rw [← hg.out]; rfl
      · rw [← hg.out]; exact H.out.da
    · obtain ⟨q0, q1, qb0, qb1, r1, qn0, qn1, xn0, xn1, hx⟩ := H.out.next hq gb
      have hp0 := H.out.ha
      have hp1 := H.out.ga
      have hq0 := H.out.hb
      have hq1 := H.out.gb
      have H2 : Hid (Ext a b q (p - p / q * q) n (x - p / q * n)) := hx
      clear hx
      go_wp2
      go_round
      case rel => exact ⟨q, p - p / q * q, n, x - p / q * n, rfl, rfl, rfl, rfl, H2⟩
      case measure => simp [intOf]; omega

end Go.Proofs.Ytpnmepobdnclkaa.Calls2
