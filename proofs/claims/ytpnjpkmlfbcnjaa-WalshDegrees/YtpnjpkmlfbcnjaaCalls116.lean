/-
  The document's Immune: by all values of all sets.
-/
import Derived.Test.YtpnjpkmlfbcnjaaCalls114
namespace Go.Proofs.Ytpnjpkmlfbcnjaa.Calls116
set_option linter.unusedVariables false
open Go.ChangeShapes Go.WideShapes Go.ChangeAt Go.RowKit Go.Deep Go.Proofs.Ytpnjpkmlfbcnjaa.Base Go.Proofs.Ytpnjpkmlfbcnjaa.Base2 Go.Proofs.Ytpnjpkmlfbcnjaa.Num34 Go.Proofs.Ytpnjpkmlfbcnjaa.Base4 Go.Proofs.Ytpnjpkmlfbcnjaa.Base6 Go.Proofs.Ytpnjpkmlfbcnjaa.Num41 Go.Proofs.Ytpnjpkmlfbcnjaa.Num42 Go.Proofs.Ytpnjpkmlfbcnjaa.Num57 Go.Proofs.Ytpnjpkmlfbcnjaa.Num58 Go.Proofs.Ytpnjpkmlfbcnjaa.Calls110 Go.Proofs.Ytpnjpkmlfbcnjaa.Calls114

theorem up_bd {s : Int} {k : Nat} (h0 : 0 ≤ s) (h1 : s ≤ 32) (hk : k ≤ 5) : 0 ≤ s * 2 ^ k ∧ s * 2 ^ k ≤ 1024 := by
  rcases (show k = 0 ∨ k = 1 ∨ k = 2 ∨ k = 3 ∨ k = 4 ∨ k = 5 by omega) with rfl | rfl | rfl | rfl | rfl | rfl <;> omega

set_option maxRecDepth 100000 in
set_option maxHeartbeats 2000000 in
theorem refImmune_any (n N f k : Nat) (hf : f < 4294967296) (hn : n ≤ 5) (hN : N = 2 ^ n) (hk : k ≤ n) (b : Bool) (hb : b = true ↔ ImS n f k N) (w : World) :
    Calls Try.prog 17 #[.int .i64 (n : Int), .int .u32 (f : Int), .int .i64 (k : Int)] w fun e w' => e = .returned (.bool b) ∧ w' = w := by
  have hNN := pow_n hn hN
  have hP : (2 : Int) ^ n = (N : Int) := by rw [hN]; simp
  have HI := hid (fun S m (h : ImV n f k S m) => h.next)
  have HD : Hid (∀ S v, (v ≤ S → v &&& S = v → on 5 S = k → sm f S v N * 2 ^ k = al f N) ↔ (v ≤ S → v &&& S = v → on 5 S = k → sm f S v (2 ^ n) * 2 ^ k = al f (2 ^ n))) := fun S v => by rw [hN]
  have HS := hid (show ∀ S, ImS n f k S → ImV n f k S (S + 1) → ImS n f k (S + 1) from fun S h h2 y hy => by
    by_cases e : y = S
    · subst e; exact h2
    · exact h y (by omega))
  have HB := hid hb
  have hbd := hid (fun S v m => sm_bd f S v m)
  have cB := fun x (hx : x < N) w => bit_any f x hf (by omega) w
  have cOn := fun x (hx : x < N) w => refOnes_any x (by omega) w
  clear hN hb
  go_enter Try.func17, Try.ntmps17
  go_wp2
  go_loopw [7, 8] (fun s i w' => ∃ x : Nat, s = .int .i64 (al f x) ∧ i = .int .i64 (x : Int) ∧ x ≤ N ∧ 0 ≤ al f x ∧ al f x ≤ x ∧ Hid (w' = w)) (fun s i w' => ((N : Int) - intOf i).toNat)
  case atStart => exact ⟨0, rfl, rfl, by omega, by show (0 : Int) ≤ 0; omega, by show (0 : Int) ≤ 0; omega, rfl⟩
  case round =>
    obtain ⟨x, rfl, rfl, hx, hw1, hw2, hW⟩ := hrel
    by_cases hgx : x < N
    · have hgx' : (x : Int) < (N : Int) := by omega
      have c1 := fun w => cB x hgx w
      have hbb := bv_two f x
      have hbe : ((bt f x : Nat) : Int) = bv f x := rfl
      rw [hbe] at c1
      have e : Hid (al f (x + 1) = al f x + bv f x) := rfl
      generalize al f x = a at *
      generalize bv f x = c at *
      have hb2 : 0 ≤ c ∧ c ≤ 1 := by omega
      clear hbe hbb cB cOn
      go_wp2_with (go_at_call 20; refine (c1 _).mono ?_; rintro e w' ⟨rfl, hw⟩; subst w')
      go_roundw
      case rel => exact ⟨x + 1, by rw [e.out], by simp, by omega, by rw [e.out]; omega, by rw [e.out]; omega, hW⟩
      case measure => exact measK hgx
    · have hgx' : ¬ (x : Int) < (N : Int) := by omega
      obtain rfl : x = N := by omega
      have hwr := hW.out
      subst hwr
      obtain ⟨A, hA⟩ : ∃ A, A = al f x := ⟨_, rfl⟩
      rw [← hA] at hw1 hw2 HD ⊢
      clear hA hW
      go_wp2
      go_loopw [9] (fun i w' => ∃ S : Nat, i = .int .i64 (S : Int) ∧ S ≤ x ∧ Hid (ImS n f k S) ∧ Hid (w' = wr)) (fun i w' => ((x : Int) - intOf i).toNat)
      case atStart => exact ⟨0, rfl, by omega, fun S hS => by omega, rfl⟩
      case round =>
        obtain ⟨S, rfl, hS, hIS, hW⟩ := hrel
        by_cases hgS : S < x
        · have hgS' : (S : Int) < (x : Int) := by omega
          have hwr := hW.out
          subst hwr
          have cO := fun w => cOn S hgS w
          have ho := on_le 5 S
          have hand := fun y (hy : y < x) => and_32 y (by omega) S (by omega)
          have HIS := hid (HS.out S hIS.out)
          have HIV := hid (fun m => HI.out S m)
          have HDS := hid (HD.out S)
          have hfail : Hid (¬ ImV n f k S (S + 1) → b = false) := fun h => by
            cases b
            · rfl
            · exact absurd (HB.out.1 rfl S hgS) h
          clear hW hIS
          go_wp2
          go_loopw [10] (fun i w' => ∃ v : Nat, i = .int .i64 (v : Int) ∧ v ≤ S + 1 ∧ Hid (ImV n f k S v) ∧ Hid (w' = wr)) (fun i w' => ((S : Int) + 1 - intOf i).toNat)
          case atStart => exact ⟨0, rfl, by omega, fun v hv => by omega, rfl⟩
          case round =>
            obtain ⟨v, rfl, hv, hIV, hW⟩ := hrel
            by_cases hgv : v ≤ S
            · have hgv' : (v : Int) ≤ (S : Int) := by omega
              have hwr := hW.out
              subst hwr
              by_cases hok : on 5 S = k
              · rw [hok] at cO
                obtain ⟨ha, hal⟩ := hand v (by omega)
                by_cases hz : v &&& S = v
                · rw [hz] at ha
                  clear hW
                  go_wp2_with (go_at_call 19; refine (cO _).mono ?_; rintro e w' ⟨rfl, hw⟩; subst w')
                  go_loopw [11, 12] (fun s i w' => ∃ y : Nat, s = .int .i64 (sm f S v y) ∧ i = .int .i64 (y : Int) ∧ y ≤ x ∧ Hid (w' = wr)) (fun s i w' => ((x : Int) - intOf i).toNat)
                  case atStart => exact ⟨0, rfl, rfl, by omega, rfl⟩
                  case round =>
                    obtain ⟨y, rfl, rfl, hy, hW⟩ := hrel
                    have hsb := hbd.out S v y
                    by_cases hgy : y < x
                    · have hgy' : (y : Int) < (x : Int) := by omega
                      have c1 := fun w => cB y hgy w
                      have hbb := bv_two f y
                      have hbe : ((bt f y : Nat) : Int) = bv f y := rfl
                      rw [hbe] at c1
                      have hst := hid (sm_step f S v y)
                      obtain ⟨ha2, hal2⟩ := hand y hgy
                      clear hbe cB hand
                      by_cases hz2 : y &&& S = v
                      · have e : Hid (sm f S v (y + 1) = sm f S v y + bv f y) := by have := hst.out; rw [if_pos hz2] at this; exact this
                        rw [hz2] at ha2
                        generalize sm f S v y = a at *
                        generalize bv f y = c at *
                        have hb2 : 0 ≤ c ∧ c ≤ 1 := by omega
                        clear hbb hst hz2
                        go_wp2_with (go_at_call 20; refine (c1 _).mono ?_; rintro e w' ⟨rfl, hw⟩; subst w')
                        go_roundw
                        case rel => exact ⟨y + 1, by rw [e.out], by simp, by omega, hW⟩
                        case measure => exact measK hgy
                      · have e : Hid (sm f S v (y + 1) = sm f S v y) := by have := hst.out; rw [if_neg hz2] at this; exact this
                        have hz3 : ¬ (((y &&& S : Nat) : Int) = (v : Int)) := by omega
                        have hz4 : ((((y &&& S : Nat) : Int)) == (v : Int)) = false := by simp; omega
                        generalize sm f S v y = a at *
                        generalize y &&& S = q at *
                        clear hbb hst
                        go_wp2
                        go_roundw
                        case rel => exact ⟨y + 1, by rw [e.out], by simp, by omega, hW⟩
                        case measure => exact measK hgy
                    · have hgy' : ¬ (y : Int) < (x : Int) := by omega
                      obtain rfl : y = x := by omega
                      have hub := up_bd (k := k) hsb.1 (by omega) (by omega)
                      have hiff := hid (HDS.out v)
                      by_cases hq : sm f S v y * 2 ^ k = A
                      · have hne : Hid (ImV n f k S (v + 1)) := hIV.out.next (hiff.out.1 (fun _ _ _ => hq))
                        generalize sm f S v y = a at *
                        clear hub
                        go_wp2
                        go_roundw
                        case rel => exact ⟨v + 1, by simp, by omega, hne, hW⟩
                        case measure => simp [intOf]; omega
                      · have hq2 : (sm f S v y * 2 ^ k != A) = true := by simpa using hq
                        have e : Hid (b = false) := hfail.out (fun h => hq (hiff.out.2 (h v (by omega)) hgv hz hok))
                        generalize sm f S v y = a at *
                        go_wp2
                        go_ret
                        exact ⟨by rw [e.out]; rfl, hW.out⟩
                · have hne : Hid (ImV n f k S (v + 1)) := hIV.out.next (fun _ h => absurd h hz)
                  have hz' : ¬ (((v &&& S : Nat) : Int) = (v : Int)) := by omega
                  have hz2 : ((((v &&& S : Nat) : Int)) != (v : Int)) = true := by simp; omega
                  generalize v &&& S = y at *
                  go_wp2_with (go_at_call 19; refine (cO _).mono ?_; rintro e w' ⟨rfl, hw⟩; subst w')
                  go_roundw
                  case rel => exact ⟨v + 1, by simp, by omega, hne, trivial⟩
                  case measure => simp [intOf]; omega
              · have hne : Hid (ImV n f k S (S + 1)) := fun _ _ _ _ h => absurd h hok
                have hok' : ¬ ((on 5 S : Nat) : Int) = (k : Int) := by omega
                have hok2 : (((on 5 S : Nat) : Int) == (k : Int)) = false := by simp; omega
                have hIS2 := hid (HIS.out hne.out)
                generalize on 5 S = o at *
                go_wp2_with (go_at_call 19; refine (cO _).mono ?_; rintro e w' ⟨rfl, hw⟩; subst w')
                go_roundw
                case rel => exact ⟨S + 1, by simp, by omega, hIS2, trivial⟩
                case measure => exact measK hgS
            · have hgv' : ¬ (v : Int) ≤ (S : Int) := by omega
              obtain rfl : v = S + 1 := by omega
              have hIS2 := hid (HIS.out hIV.out)
              go_wp2
              go_roundw
              case rel => exact ⟨S + 1, by simp, by omega, hIS2, hW⟩
              case measure => exact measK hgS
        · have hgS' : ¬ (S : Int) < (x : Int) := by omega
          obtain rfl : S = x := by omega
          have e : Hid (b = true) := HB.out.2 hIS.out
          go_wp2
          go_ret
          exact ⟨by rw [e.out]; rfl, hW.out⟩

end Go.Proofs.Ytpnjpkmlfbcnjaa.Calls116
