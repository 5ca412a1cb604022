/-
  Package feistel's Order: each number's way round, once.
-/
import Derived.Test.YtngdhhhdnkkagaaCalls108
namespace Go.Proofs.Ytngdhhhdnkkagaa.Calls109
set_option linter.unusedVariables false
open Go.ChangeShapes Go.WideShapes Go.ChangeAt Go.RowKit Go.Deep Go.Proofs.Ytngdhhhdnkkagaa.Base Go.Proofs.Ytngdhhhdnkkagaa.Base2 Go.Proofs.Ytngdhhhdnkkagaa.Num16 Go.Proofs.Ytngdhhhdnkkagaa.Num17 Go.Proofs.Ytngdhhhdnkkagaa.Num18 Go.Proofs.Ytngdhhhdnkkagaa.Num34 Go.Proofs.Ytngdhhhdnkkagaa.Num51 Go.Proofs.Ytngdhhhdnkkagaa.Num52 Go.Proofs.Ytngdhhhdnkkagaa.Num53 Go.Proofs.Ytngdhhhdnkkagaa.Base4 Go.Proofs.Ytngdhhhdnkkagaa.Base5 Go.Proofs.Ytngdhhhdnkkagaa.Calls96 Go.Proofs.Ytngdhhhdnkkagaa.Calls103 Go.Proofs.Ytngdhhhdnkkagaa.Calls104 Go.Proofs.Ytngdhhhdnkkagaa.Calls105 Go.Proofs.Ytngdhhhdnkkagaa.Calls108
open Go.Proofs.Ytngdhhhdnkkagaa.Math (gg)
open Go.Proofs.Ytngdhhhdnkkagaa.Calls4 (refGcd_any)

/-- What is known ahead of a number. -/
def OrdR (f : Nat → Nat) (B : Nat) (W : World) (s p : Nat) (g : Nat → Bool) : Prop := SeenB W B g ∧ Cl f g ∧ OrdOf f (fun y => g y = true) p ∧ ∀ y, y < s → g y = true

def OrdV (f : Nat → Nat) (B : Nat) (W : World) (i o : Value) : Prop := ∃ (s p : Nat) (g : Nat → Bool), i = .int .i64 (s : Int) ∧ o = .int .i64 (p : Int) ∧ s ≤ 256 ∧ Hid (OrdR f B W s p g)

/-- On the way of s. -/
def WayV (f : Nat → Nat) (g : Nat → Bool) (B s k : Nat) (W : World) (u v : Value) : Prop := ∃ (j : Nat) (g' : Nat → Bool), u = .int .i64 (j : Int) ∧ v = .int .i64 ((it f s j : Nat) : Int) ∧ j ≤ k ∧ Hid (Wyd f g s j g') ∧ Hid (SeenB W B g')

set_option maxRecDepth 100000 in
set_option maxHeartbeats 4000000 in
theorem Order_yes (ao : Option Addr) (cap : Nat) (L : List (List Int)) (hR : Ros L) (hl : L.length ≤ 64) (o : Nat) (ho : OrdOf (sl L) (fun x => x < 256) o) (ho2 : o ≤ 2 ^ 58) (w : World) (hrow : RRow w ao L) :
    Calls Try.prog 13 #[.slice ao L.length cap] w fun e w' => e = .returned (.tuple #[.int .i64 (o : Int), .int .i64 0]) ∧ Below w.heap.size w w' := by
  obtain ⟨c, hc⟩ := FC.ex L 0
  obtain rfl := hc.ok.2 ⟨hl, hR, by omega, by omega⟩
  have cC := check0_any ao cap L 0 hc (by omega) w hrow
  have hT : Hid (Turn (sl L) 256) := ⟨fun y hy => sl_lt hR hy, fun y z hy hz e => sl_inj hR hy hz e⟩
  have HO : Hid (OrdOf (sl L) (fun x => x < 256) o) := ho
  have HO2 : Hid (o ≤ 2 ^ 58) := ho2
  have cS := fun (x : Nat) (hx : x < 256) (W : World) (hB : Below w.heap.size w W) => seal_any ao cap L hR hl x hx W (rb hrow hB)
  obtain ⟨i, hi, hz⟩ := infoA_ex
  have HZ : Hid (∀ W : World, SeenB (W.alloc (.cells (Array.replicate 256 (.bool false)) 42)) W.heap.size (fun _ => false)) := fun W => SeenB.new W
  obtain ⟨zs, hze⟩ : ∃ zs : Array Value, zs = Array.replicate 256 (.bool false) := ⟨_, rfl⟩
  rw [← hze] at hz HZ
  generalize L.length = N at *
  clear hc hrow hR ho ho2 hze
  have hit : Hid (∀ s j, s < 256 → it (sl L) s j < 256) := fun s j hs => it_lt hs hT.out.1 j
  have hsu : Hid (∀ s j, sl L (it (sl L) s j) = it (sl L) s (j + 1)) := fun s j => rfl
  generalize sl L = f at *
  go_enter Try.func13, Try.ntmps13
  go_wp2_with (first
    | (go_at_call 16; refine cC.mono ?_; rintro e w1 ⟨rfl, hB1⟩)
    | (with_reducible refine (wpList_allocZ _ rfl 42 rfl i (.agg zs) hi hz zs rfl ?_)))
  obtain ⟨B, hBe⟩ : ∃ B, B = w1.heap.size := ⟨_, rfl⟩
  have hwB : w.heap.size ≤ B := by rw [hBe]; exact hB1.size
  have hS0 := hid (HZ.out w1)
  have hB0 := hid (hB1.alloc hB1.size (.cells zs 42))
  rw [← hBe] at hS0 ⊢
  generalize w1.alloc (.cells zs 42) = W0 at *
  clear hB1 hBe HZ hz hi
  go_loopw [15, 6] (fun i p wr => OrdV f B wr i p ∧ Hid (Below w.heap.size w wr)) (fun i p wr => (256 - intOf i).toNat)
  case atStart => exact ⟨⟨0, 1, _, rfl, rfl, by omega, hS0.out, Cl.none f, OrdOf.nil (fun x hx => by cases hx), fun y hy => by omega⟩, hB0.out⟩
  case round =>
    obtain ⟨⟨s, p, g, rfl, rfl, hs, hV⟩, HB⟩ := hrel
    by_cases hgo : s < 256
    · have hgo' : (s : Int) < 256 := by omega
      have hD := hV.out.1.cell hgo
      cases hgs : g s with
      | true =>
        rw [hgs] at hD
        have hV2 : Hid (OrdR f B wr (s + 1) p g) := ⟨hV.out.1, hV.out.2.1, hV.out.2.2.1, fun y hy => by
          by_cases e : y = s
          · rw [e]; exact hgs
          · exact hV.out.2.2.2 y (by omega)⟩
        clear hgs
        go_wp2
        go_roundw
        case rel => exact ⟨⟨s + 1, p, g, by simp, rfl, by omega, hV2⟩, HB.out⟩
        case measure => simp [intOf]; omega
      | false =>
        rw [hgs] at hD
        obtain ⟨k, hRho, hk1, hk2⟩ := hT.out.rho hgo
        have HR := hid hRho
        have HG := hid hgs
        obtain ⟨W1, hW1⟩ : ∃ W1, W1 = wr := ⟨_, rfl⟩
        rw [← hW1] at hV HB hD ⊢
        clear hW1 hgs hRho
        go_wp2
        go_loopw [8, 9] (fun u v wr => WayV f g B s k wr u v ∧ Hid (Below w.heap.size w wr)) (fun u v wr => ((k : Int) - intOf u).toNat)
        case atStart => exact ⟨⟨0, g, rfl, rfl, by omega, Wyd.start f g s, hV.out.1⟩, HB.out⟩
        case round =>
          obtain ⟨⟨j, g', rfl, rfl, hj, hY, hS⟩, HB2⟩ := hrel
          have hx := hit.out s j hgo
          have hsn := hY.out.seen hT.out hV.out.2.1 hgo HG.out HR.out hj
          have hnx := hsu.out s j
          have hY2 : Hid (Wyd f g s (j + 1) (one g' (it f s j))) := hY.out.next
          obtain ⟨x, hxe⟩ : ∃ x, it f s j = x := ⟨_, rfl⟩
          rw [hxe] at hx hsn hnx hY2 ⊢
          have hE := hS.out.cell hx
          have hF := hS.out.frozen x
          by_cases hgo2 : j < k
          · have hgf : g' x = false := by
              cases hb : g' x
              · rfl
              · have := hsn.1 hb; omega
            rw [hgf] at hE
            have hS2 := hid (hS.out.set x)
            have hB2 := hid (HB2.out.setCell (p := ⟨B, x, none⟩) hwB (.bool true))
            have cX := cS x hx _ hB2.out
            rw [hnx] at cX
            obtain ⟨x2, hx2⟩ : ∃ x2, it f s (j + 1) = x2 := ⟨_, rfl⟩
            rw [hx2] at cX
            have hx2' := hid hx2
            clear hgf hsn hnx hxe hx2 cC
            go_wp2_with (go_at_call 17; refine cX.mono ?_; rintro e w3 ⟨rfl, hB3⟩)
            go_roundw
            case rel => exact ⟨⟨j + 1, _, by simp, by rw [hx2'.out], by omega, hY2, hS2.out.below hB3 hS2.out.lt⟩, below_trans hB2.out hB3⟩
            case measure => exact measK hgo2
          · have ejk : j = k := by omega
            subst ejk
            rw [hsn.2 rfl] at hE
            obtain ⟨d1, d2, d3, d4⟩ := hY.out.done hT.out hV.out.2.1 hgo HR.out hV.out.2.2.1
            have hlc := lcm_le d2 HO.out (fun x hx => d1.lt x hx) HO2.out
            have cB := fun W => both_any p j hV.out.2.2.1.1 hk1 hk2 hlc W
            have hV2 : Hid (OrdR f B wr (s + 1) (Nat.lcm p j) g') := ⟨hS.out, d1, d2, fun y hy => by
              by_cases e : y = s
              · rw [e]; exact d3
              · exact d4 y (hV.out.2.2.2 y (by omega))⟩
            generalize Nat.lcm p j = q at *
            clear d1 d2 d3 d4 hlc hsn hnx hxe cC cS hY2
            go_wp2_with (go_at_call 20; refine (cB _).mono ?_; rintro e w3 ⟨rfl, hB3⟩)
            go_roundw
            case rel => exact ⟨⟨s + 1, q, g', by simp, rfl, by omega, hV2.out.1.below hB3 hV2.out.1.lt, hV2.out.2⟩, below_trans HB2.out hB3⟩
            case measure => simp [intOf]; omega
    · have hgo' : ¬ (s : Int) < 256 := by omega
      have e : p = o := hV.out.2.2.1.uniq HO.out (fun x => ⟨fun h => hV.out.2.1.lt x h, fun h => hV.out.2.2.2 x (by omega)⟩)
      subst e
      go_wp2
      go_ret2
      exact ⟨rfl, HB.out⟩

set_option maxRecDepth 100000 in
theorem Order_bad (ao : Option Addr) (cap : Nat) (L : List (List Int)) (c : Int) (hc : FC L 0 c) (h0 : ¬ c = 0) (hl : L.length ≤ 9223372036854775807) (w : World) (hrow : RRow w ao L) :
    Calls Try.prog 13 #[.slice ao L.length cap] w fun e w' => e = .returned (.tuple #[.int .i64 0, .int .i64 c]) ∧ Below w.heap.size w w' := by
  have cC := check0_any ao cap L c hc hl w hrow
  generalize L.length = N at *
  clear hc hrow
  have h0' : (c != 0) = true := by simpa using h0
  go_enter Try.func13, Try.ntmps13
  go_wp2_with (go_at_call 16; refine cC.mono ?_; rintro e w1 ⟨rfl, hB1⟩)
  go_ret2
  exact ⟨rfl, hB1⟩

theorem order_ex {L : List (List Int)} (hR : Ros L) : ∃ o, OrdOf (sl L) (fun x => x < 256) o ∧ o ≤ 2 ^ 58 :=
  all_ex ⟨fun y hy => sl_lt hR hy, fun y z hy hz e => sl_inj hR hy hz e⟩

/-- On the way, in order. -/
def RefV (f : Nat → Nat) (o i : Value) : Prop := ∃ s q : Nat, i = .int .i64 (s : Int) ∧ o = .int .i64 (q : Int) ∧ s ≤ 256 ∧ Hid (OrdOf f (fun x => x < s) q)

/-- On the way of s. -/
def RefW (f : Nat → Nat) (s k : Nat) (u v : Value) : Prop := ∃ j y : Nat, u = .int .i64 (j : Int) ∧ v = .int .i64 (y : Int) ∧ 1 ≤ j ∧ j ≤ k ∧ Hid (it f s j = y)

set_option maxRecDepth 100000 in
set_option maxHeartbeats 4000000 in
theorem refOrder_any (ao : Option Addr) (cap : Nat) (L : List (List Int)) (hR : Ros L) (hl : L.length ≤ 64) (o : Nat) (ho : OrdOf (sl L) (fun x => x < 256) o) (ho2 : o ≤ 2 ^ 58) (w : World) (hrow : RRow w ao L) :
    Calls Try.prog 14 #[.slice ao L.length cap] w fun e w' => e = .returned (.int .i64 (o : Int)) ∧ Below w.heap.size w w' := by
  have hT : Hid (Turn (sl L) 256) := ⟨fun y hy => sl_lt hR hy, fun y z hy hz e => sl_inj hR hy hz e⟩
  have HO : Hid (OrdOf (sl L) (fun x => x < 256) o) := ho
  have HO2 : Hid (o ≤ 2 ^ 58) := ho2
  have cS := fun (x : Nat) (hx : x < 256) (W : World) (hB : Below w.heap.size w W) => refSeal_any ao cap L hR hl x hx W (rb hrow hB)
  generalize L.length = N at *
  clear hrow hR ho ho2
  have hit : Hid (∀ s j, s < 256 → it (sl L) s j < 256) := fun s j hs => it_lt hs hT.out.1 j
  have hsu : Hid (∀ s j, sl L (it (sl L) s j) = it (sl L) s (j + 1)) := fun s j => rfl
  generalize sl L = f at *
  go_enter Try.func14, Try.ntmps14
  go_wp2
  go_loopw [3, 4] (fun p i wr => RefV f p i ∧ Hid (Below w.heap.size w wr)) (fun p i wr => (256 - intOf i).toNat)
  case atStart => exact ⟨⟨0, 1, rfl, rfl, by omega, ord_zero f⟩, Below.refl _ _⟩
  case round =>
    obtain ⟨⟨s, p, rfl, rfl, hs, hV⟩, HB⟩ := hrel
    by_cases hgo : s < 256
    · have hgo' : (s : Int) < 256 := by omega
      obtain ⟨k, hRho, hk1, hk2⟩ := hT.out.rho hgo
      have HR := hid hRho
      have c1 := cS s hgo wr HB.out
      rw [show f s = it f s 1 from rfl] at c1
      have hx1 := hit.out s 1 hgo
      obtain ⟨x1, hxe⟩ : ∃ x1, it f s 1 = x1 := ⟨_, rfl⟩
      rw [hxe] at c1
      have HX1 := hid hxe
      clear hxe hRho hx1
      go_wp2_with (go_at_call 11; refine c1.mono ?_; rintro e w2 ⟨rfl, hB2⟩)
      go_loopw [5, 6] (fun u v wr => RefW f s k u v ∧ Hid (Below w.heap.size w wr)) (fun u v wr => ((k : Int) - intOf u).toNat)
      case atStart => exact ⟨⟨1, x1, rfl, rfl, by omega, hk1, HX1.out⟩, below_trans HB.out hB2⟩
      case round =>
        obtain ⟨⟨j, y, rfl, rfl, hj1, hj, hY⟩, HB2⟩ := hrel
        have hy := hit.out s j hgo
        rw [hY.out] at hy
        by_cases hgo2 : j < k
        · have hne : ¬ (y : Int) = (s : Int) := fun e => by
            have e2 : y = s := by omega
            have := (rho_back HR.out j).1 (by rw [hY.out, e2])
            have := Nat.le_of_dvd (by omega) this
            omega
          have cX := cS y hy _ HB2.out
          have hnx := hsu.out s j
          rw [hY.out] at hnx
          rw [hnx] at cX
          obtain ⟨x2, hx2⟩ : ∃ x2, it f s (j + 1) = x2 := ⟨_, rfl⟩
          rw [hx2] at cX
          have hx2' := hid hx2
          clear hnx hx2 c1
          go_wp2_with (go_at_call 11; refine cX.mono ?_; rintro e w3 ⟨rfl, hB3⟩)
          go_roundw
          case rel => exact ⟨⟨j + 1, x2, by simp, rfl, by omega, by omega, hx2'⟩, below_trans HB2.out hB3⟩
          case measure => exact measK hgo2
        · have ejk : j = k := by omega
          subst ejk
          have e2 : y = s := by rw [← hY.out]; exact (rho_back HR.out j).2 (Nat.dvd_refl j)
          subst e2
          have hV2 : Hid (OrdOf f (fun x => x < y + 1) (Nat.lcm p j)) := ord_upto hV.out HR.out
          have hlc := lcm_le hV2.out HO.out (fun x hx => by omega) HO2.out
          have h58 : (2 : Nat) ^ 58 = 288230376151711744 := by decide
          rw [h58] at hlc
          clear h58
          have hp1 := hV.out.1
          have hr : p % j < j := Nat.mod_lt _ (by omega)
          have cG := fun W => refGcd_any ((p % j : Nat) : Int) (j : Int) W (by omega) (by omega) (by omega) (by omega)
          rw [gg_rest hk1] at cG
          have hg : 1 ≤ Nat.gcd p j := Nat.gcd_pos_of_pos_right _ (by omega)
          have e := lcm_parts (o := p) (k := j)
          have hor : ((p % j : Nat) : Int) = (p : Int) % (j : Int) := by simp
          rw [hor] at cG
          have hk0 : ¬ (j : Int) = 0 := by omega
          generalize Nat.gcd p j = q at *
          generalize Nat.lcm p j = l at *
          have hg0 : ¬ (q : Int) = 0 := by omega
          have e2 : (p : Int) / (q : Int) * (j : Int) = (l : Int) := by rw [← e]; simp
          have hm1 : 0 ≤ (p : Int) / (q : Int) * (j : Int) := by omega
          have hm2 : (p : Int) / (q : Int) * (j : Int) ≤ 288230376151711744 := by omega
          have HE := hid e2
          have hm3 : 0 ≤ (p : Int) / (q : Int) := Int.ediv_nonneg (by omega) (by omega)
          have hm4 : (p : Int) / (q : Int) ≤ 288230376151711744 := by
            have h1 : (p : Int) / (q : Int) * 1 ≤ (p : Int) / (q : Int) * (j : Int) := Int.mul_le_mul_of_nonneg_left (by omega) hm3
            omega
          clear e e2 hor c1 cS
          go_wp2_with (go_at_call 21; refine (cG _).mono ?_; rintro e w3 ⟨rfl, hw⟩; subst w3)
          go_roundw
          case rel => exact ⟨⟨y + 1, l, by simp, by rw [HE.out], by omega, hV2⟩, HB2.out⟩
          case measure => simp [intOf]; omega
    · have hgo' : ¬ (s : Int) < 256 := by omega
      obtain rfl : s = 256 := by omega
      have e : p = o := hV.out.uniq HO.out (fun x => Iff.rfl)
      subst e
      go_wp2
      go_ret
      exact ⟨rfl, HB.out⟩

end Go.Proofs.Ytngdhhhdnkkagaa.Calls109
