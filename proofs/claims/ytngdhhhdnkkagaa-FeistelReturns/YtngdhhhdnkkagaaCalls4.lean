/-
  What the document's own functions answer: the greatest common divisor by halves and differences, the least common multiple, the range tests.
-/
import Derived.Test.YtngdhhhdnkkagaaCalls3
namespace Go.Proofs.Ytngdhhhdnkkagaa.Calls4
set_option linter.unusedVariables false
open Go.ChangeShapes Go.WideShapes Go.ChangeAt Go.RowKit Go.Proofs.Ytngdhhhdnkkagaa.Math Go.Proofs.Ytngdhhhdnkkagaa.Calls1 Go.Proofs.Ytngdhhhdnkkagaa.Calls2 Go.Proofs.Ytngdhhhdnkkagaa.Calls3

/-- What holds at the head of each of the two loops. -/
structure Bin (a0 b0 a b t : Int) : Prop where
  ha : 1 ≤ a
  hb : 1 ≤ b
  ht : 1 ≤ t
  ga : a ≤ 2147483648
  gb : b ≤ 2147483648
  gt : a * t ≤ 2147483648
  g : gg a b * t = gg a0 b0

theorem Bin.start {a b : Int} (ha : 1 ≤ a) (hb : 1 ≤ b) (ga : a ≤ 2147483648) (gb : b ≤ 2147483648) : Bin a b a b 1 :=
  ⟨ha, hb, by omega, ga, gb, by omega, by omega⟩

theorem Bin.t_le {a0 b0 a b t : Int} (h : Bin a0 b0 a b t) : t ≤ 2147483648 := by
  have := mul_le_one (x := t) (y := a) (c := 2147483648) (by have := h.ht; omega) h.ha (by rw [Int.mul_comm]; exact h.gt)
  exact this

theorem Bin.both {a0 b0 a b t : Int} (h : Bin a0 b0 a b t) (h1 : a % 2 = 0) (h2 : b % 2 = 0) : Bin a0 b0 (a / 2) (b / 2) (t * 2) := by
  have hg := gg_half_both h1 h2
  have e : a / 2 * (t * 2) = a * t := by
    have := half_mul h1
    rw [show a / 2 * (t * 2) = (2 * (a / 2)) * t by rw [Int.mul_comm t 2, ← Int.mul_assoc, Int.mul_comm (a / 2) 2], ← this]
  have e2 : gg (a / 2) (b / 2) * (t * 2) = gg a b * t := by
    rw [hg, Int.mul_comm t 2, ← Int.mul_assoc, Int.mul_comm _ 2]
  obtain ⟨ha, hb, ht, ga, gb, gt, g⟩ := h
  exact ⟨by omega, by omega, by omega, by omega, by omega, by omega, by omega⟩

theorem mul_mono {a b t : Int} (h : a ≤ b) (ht : 1 ≤ t) : a * t ≤ b * t := Int.mul_le_mul_of_nonneg_right h (by omega)

theorem Bin.left {a0 b0 a b t : Int} (h : Bin a0 b0 a b t) (ho : gg a b % 2 = 1) (h1 : a % 2 = 0) : Bin a0 b0 (a / 2) b t ∧ gg (a / 2) b % 2 = 1 := by
  obtain ⟨ha, hb, ht, ga, gb, gt, g⟩ := h
  have hg := gg_half_left h1 ho
  have m := mul_mono (a := a / 2) (b := a) (by omega) ht
  exact ⟨⟨by omega, by omega, by omega, by omega, by omega, by omega, by rw [hg]; exact g⟩, by rw [hg]; exact ho⟩

theorem Bin.right {a0 b0 a b t : Int} (h : Bin a0 b0 a b t) (ho : gg a b % 2 = 1) (h1 : b % 2 = 0) : Bin a0 b0 a (b / 2) t ∧ gg a (b / 2) % 2 = 1 := by
  obtain ⟨ha, hb, ht, ga, gb, gt, g⟩ := h
  have hg := gg_half_right h1 ho
  exact ⟨⟨by omega, by omega, by omega, by omega, by omega, by omega, by rw [hg]; exact g⟩, by rw [hg]; exact ho⟩

theorem Bin.subl {a0 b0 a b t : Int} (h : Bin a0 b0 a b t) (ho : gg a b % 2 = 1) (h1 : b < a) : Bin a0 b0 (a - b) b t ∧ gg (a - b) b % 2 = 1 := by
  obtain ⟨ha, hb, ht, ga, gb, gt, g⟩ := h
  have hg := gg_sub_left a b
  have m := mul_mono (a := a - b) (b := a) (by omega) ht
  exact ⟨⟨by omega, by omega, by omega, by omega, by omega, by omega, by rw [hg]; exact g⟩, by rw [hg]; exact ho⟩

theorem Bin.subr {a0 b0 a b t : Int} (h : Bin a0 b0 a b t) (ho : gg a b % 2 = 1) (h1 : a < b) : Bin a0 b0 a (b - a) t ∧ gg a (b - a) % 2 = 1 := by
  obtain ⟨ha, hb, ht, ga, gb, gt, g⟩ := h
  have hg := gg_sub_right a b
  exact ⟨⟨by omega, by omega, by omega, by omega, by omega, by omega, by rw [hg]; exact g⟩, by rw [hg]; exact ho⟩

theorem Bin.done {a0 b0 a t : Int} (h : Bin a0 b0 a a t) : a * t = gg a0 b0 := by
  have := h.g; rw [gg_self (by have := h.ha; omega)] at this; exact this

set_option maxHeartbeats 400000 in
theorem refGcd_any (a b : Int) (w : World) (ha1 : -2147483648 ≤ a) (ha2 : a ≤ 2147483648) (hb1 : -2147483648 ≤ b) (hb2 : b ≤ 2147483648) :
    Calls Try.prog 21 #[.int .i64 a, .int .i64 b] w fun e w' => e = .returned (.int .i64 (gg a b)) ∧ w' = w := by
  by_cases h1 : a = 0
  · subst h1
    have e : gg 0 b = (b.natAbs : Int) := by rw [← gg_abs]; exact gg_zero_left (by omega)
    rw [e]; clear e
    go_enter Try.func21, Try.ntmps21
    go_wp2_with (go_at_call 29; refine (refAbs_any _ _ (by omega) (by omega)).mono ?_; rintro e w' ⟨rfl, rfl⟩)
    go_ret
    exact ⟨rfl, rfl⟩
  · by_cases h2 : b = 0
    · subst h2
      have e : gg a 0 = (a.natAbs : Int) := by rw [← gg_abs]; exact gg_zero_right (by omega)
      rw [e]; clear e
      have h1' : ((a.natAbs : Int) == 0) = false := by simpa using h1
      clear h1
      go_enter Try.func21, Try.ntmps21
      go_wp2_with (go_at_call 29; refine (refAbs_any _ _ (by omega) (by omega)).mono ?_; rintro e w' ⟨rfl, rfl⟩)
      go_ret
      exact ⟨rfl, rfl⟩
    · rw [← gg_abs a b]
      have h1' : 1 ≤ (a.natAbs : Int) := by omega
      have h2' : 1 ≤ (b.natAbs : Int) := by omega
      have H0 : Hid (Bin a.natAbs b.natAbs a.natAbs b.natAbs 1) := Bin.start h1' h2' (by omega) (by omega)
      clear h1 h2
      go_enter Try.func21, Try.ntmps21
      go_wp2_with (go_at_call 29; refine (refAbs_any _ _ (by omega) (by omega)).mono ?_; rintro e w' ⟨rfl, rfl⟩)
      go_loop [0, 1, 5] (fun ta tb tt => ∃ p q t : Int, ta = .int .i64 p ∧ tb = .int .i64 q ∧ tt = .int .i64 t ∧ Hid (Bin a.natAbs b.natAbs p q t)) (fun ta _ _ => (intOf ta).toNat)
      case atStart => exact ⟨_, _, _, rfl, rfl, rfl, H0⟩
      case round =>
        obtain ⟨p, q, t, rfl, rfl, rfl, H⟩ := hrel
        clear H0
        have p0 := H.out.ha
        have q0 := H.out.hb
        have t0 := H.out.ht
        have p1 := H.out.ga
        have q1 := H.out.gb
        have t1 := H.out.t_le
        by_cases hp : p % 2 = 0
        · by_cases hq : q % 2 = 0
          · have H2 : Hid (Bin a.natAbs b.natAbs (p / 2) (q / 2) (t * 2)) := H.out.both hp hq
            go_wp2
            go_round
            case rel => exact ⟨_, _, _, rfl, rfl, rfl, H2⟩
            case measure => simp [intOf]; omega
          · have hq' : ((q % 2) == 0) = false := by simpa using hq
            have HO : Hid (gg p q % 2 = 1) := gg_odd (Or.inr hq)
            clear hq
            go_wp2
            go_loop [0, 1] (fun ta tb => ∃ p q : Int, ta = .int .i64 p ∧ tb = .int .i64 q ∧ Hid (Bin a.natAbs b.natAbs p q t) ∧ Hid (gg p q % 2 = 1)) (fun ta tb => (intOf ta).toNat + (intOf tb).toNat)
            case atStart => exact ⟨_, _, rfl, rfl, H, HO⟩
            case round =>
              obtain ⟨x, y, rfl, rfl, HB, HP⟩ := hrel
              clear H HO t1 p0 q0 p1 q1
              have x0 := HB.out.ha
              have y0 := HB.out.hb
              have x1 := HB.out.ga
              have y1 := HB.out.gb
              by_cases he : x = y
              · subst he
                have e := HB.out.done
                have lo : 1 ≤ x * t := Int.mul_pos (by omega) (by omega)
                have hi := HB.out.gt
                have E : Hid (x * t = gg (a.natAbs : Int) (b.natAbs : Int)) := e
                clear e
                go_wp2
                go_ret
                exact ⟨ret_int E.out, rfl⟩
              · by_cases hx : x % 2 = 0
                · obtain ⟨n1, n2⟩ := HB.out.left HP.out hx
                  have N1 : Hid (Bin a.natAbs b.natAbs (x / 2) y t) := n1
                  have N2 : Hid (gg (x / 2) y % 2 = 1) := n2
                  clear n1 n2
                  have he' : (x == y) = false := by simpa using he
                  go_wp2
                  go_round
                  case rel => exact ⟨_, _, rfl, rfl, N1, N2⟩
                  case measure => simp [intOf]; omega
                · by_cases hy : y % 2 = 0
                  · obtain ⟨n1, n2⟩ := HB.out.right HP.out hy
                    have N1 : Hid (Bin a.natAbs b.natAbs x (y / 2) t) := n1
                    have N2 : Hid (gg x (y / 2) % 2 = 1) := n2
                    clear n1 n2
                    have hx' : (x % 2 == 0) = false := by simpa using hx
                    clear hx
                    have he' : (x == y) = false := by simpa using he
                    go_wp2
                    go_round
                    case rel => exact ⟨_, _, rfl, rfl, N1, N2⟩
                    case measure => simp [intOf]; omega
                  · have hx' : (x % 2 == 0) = false := by simpa using hx
                    have hy' : (y % 2 == 0) = false := by simpa using hy
                    have he' : (x == y) = false := by simpa using he
                    clear hx hy
                    by_cases hl : y < x
                    · obtain ⟨n1, n2⟩ := HB.out.subl HP.out hl
                      have N1 : Hid (Bin a.natAbs b.natAbs (x - y) y t) := n1
                      have N2 : Hid (gg (x - y) y % 2 = 1) := n2
                      clear n1 n2
                      go_wp2
                      go_round
                      case rel => exact ⟨_, _, rfl, rfl, N1, N2⟩
                      case measure => simp [intOf]; omega
                    · obtain ⟨n1, n2⟩ := HB.out.subr HP.out (by omega)
                      have N1 : Hid (Bin a.natAbs b.natAbs x (y - x) t) := n1
                      have N2 : Hid (gg x (y - x) % 2 = 1) := n2
                      clear n1 n2
                      go_wp2
                      go_round
                      case rel => exact ⟨_, _, rfl, rfl, N1, N2⟩
                      case measure => simp [intOf]; omega
        · have hp' : ((p % 2) == 0) = false := by simpa using hp
          have HO : Hid (gg p q % 2 = 1) := gg_odd (Or.inl hp)
          clear hp
          go_wp2
          go_loop [0, 1] (fun ta tb => ∃ p q : Int, ta = .int .i64 p ∧ tb = .int .i64 q ∧ Hid (Bin a.natAbs b.natAbs p q t) ∧ Hid (gg p q % 2 = 1)) (fun ta tb => (intOf ta).toNat + (intOf tb).toNat)
          case atStart => exact ⟨_, _, rfl, rfl, H, HO⟩
          case round =>
            obtain ⟨x, y, rfl, rfl, HB, HP⟩ := hrel
            clear H HO t1 p0 q0 p1 q1
            have x0 := HB.out.ha
            have y0 := HB.out.hb
            have x1 := HB.out.ga
            have y1 := HB.out.gb
            by_cases he : x = y
            · subst he
              have e := HB.out.done
              have lo : 1 ≤ x * t := Int.mul_pos (by omega) (by omega)
              have hi := HB.out.gt
              have E : Hid (x * t = gg (a.natAbs : Int) (b.natAbs : Int)) := e
              clear e
              go_wp2
              go_ret
              exact ⟨ret_int E.out, rfl⟩
            · by_cases hx : x % 2 = 0
              · obtain ⟨n1, n2⟩ := HB.out.left HP.out hx
                have N1 : Hid (Bin a.natAbs b.natAbs (x / 2) y t) := n1
                have N2 : Hid (gg (x / 2) y % 2 = 1) := n2
                clear n1 n2
                have he' : (x == y) = false := by simpa using he
                go_wp2
                go_round
                case rel => exact ⟨_, _, rfl, rfl, N1, N2⟩
                case measure => simp [intOf]; omega
              · by_cases hy : y % 2 = 0
                · obtain ⟨n1, n2⟩ := HB.out.right HP.out hy
                  have N1 : Hid (Bin a.natAbs b.natAbs x (y / 2) t) := n1
                  have N2 : Hid (gg x (y / 2) % 2 = 1) := n2
                  clear n1 n2
                  have hx' : (x % 2 == 0) = false := by simpa using hx
                  clear hx
                  have he' : (x == y) = false := by simpa using he
                  go_wp2
                  go_round
                  case rel => exact ⟨_, _, rfl, rfl, N1, N2⟩
                  case measure => simp [intOf]; omega
                · have hx' : (x % 2 == 0) = false := by simpa using hx
                  have hy' : (y % 2 == 0) = false := by simpa using hy
                  have he' : (x == y) = false := by simpa using he
                  clear hx hy
                  by_cases hl : y < x
                  · obtain ⟨n1, n2⟩ := HB.out.subl HP.out hl
                    have N1 : Hid (Bin a.natAbs b.natAbs (x - y) y t) := n1
                    have N2 : Hid (gg (x - y) y % 2 = 1) := n2
                    clear n1 n2
                    go_wp2
                    go_round
                    case rel => exact ⟨_, _, rfl, rfl, N1, N2⟩
                    case measure => simp [intOf]; omega
                  · obtain ⟨n1, n2⟩ := HB.out.subr HP.out (by omega)
                    have N1 : Hid (Bin a.natAbs b.natAbs x (y - x) t) := n1
                    have N2 : Hid (gg x (y - x) % 2 = 1) := n2
                    clear n1 n2
                    go_wp2
                    go_round
                    case rel => exact ⟨_, _, rfl, rfl, N1, N2⟩
                    case measure => simp [intOf]; omega

end Go.Proofs.Ytngdhhhdnkkagaa.Calls4
