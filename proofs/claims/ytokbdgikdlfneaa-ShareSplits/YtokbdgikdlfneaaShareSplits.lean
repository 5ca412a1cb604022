/-
  For any secret and any numbers the program tells shares, of what may be split, and the document's error of what may not: with no condition.
-/
import Derived.Test.YtokbdgikdlfneaaRows
import Derived.Test.YtokbdgikdlfneaaCalls90
import Derived.WalkKit
import Derived.ProofKit
import Derived.OpenShut
import Derived.Carry
namespace Go.Proofs.Ytokbdgikdlfneaa.shareSplits
open Go.ChangeShapes Go.WideShapes Go.ChangeAt Go.RowKit Go.Deep Go.Proofs.Ytokbdgikdlfneaa.Base Go.Proofs.Ytokbdgikdlfneaa.Base2 Go.Proofs.Ytokbdgikdlfneaa.Num Go.Proofs.Ytokbdgikdlfneaa.Num7 Go.Proofs.Ytokbdgikdlfneaa.Num13 Go.Proofs.Ytokbdgikdlfneaa.Num16 Go.Proofs.Ytokbdgikdlfneaa.Num17 Go.Proofs.Ytokbdgikdlfneaa.Num34 Go.Proofs.Ytokbdgikdlfneaa.Num35 Go.Proofs.Ytokbdgikdlfneaa.Num39 Go.Proofs.Ytokbdgikdlfneaa.Base4 Go.Proofs.Ytokbdgikdlfneaa.Calls56 Go.Proofs.Ytokbdgikdlfneaa.Calls57 Go.Proofs.Ytokbdgikdlfneaa.Calls69 Go.Proofs.Ytokbdgikdlfneaa.Calls87 Go.Proofs.Ytokbdgikdlfneaa.Calls88 Go.Proofs.Ytokbdgikdlfneaa.Calls89 Go.Proofs.Ytokbdgikdlfneaa.Calls90
set_option linter.unusedVariables false

theorem own : ownKnob Try.prog.godebug = none := by kernel_rfl

theorem laidOut : laidOutB Try.prog = true := by kernel_rfl

theorem cells2 : Try.prog.cellsOf 2 = 1 := by kernel_rfl

set_option maxRecDepth 100000 in
set_option maxHeartbeats 2000000 in
theorem walk (p s : Int) (mo : Option Addr) (cm : Nat) (m : List Int) (km : m.length ≤ cm) (mm : m.length ≤ 9223372036854775807) (n : Int) (wn : (Lit.int .i64 n).wf = true) (w : World) (hrow : IRow w mo m) :
    Calls Try.prog 3 #[.int .i64 p, .int .i64 s, .slice mo m.length cm, .int .i64 n] w fun e w' => e = .returned (.bool true) ∧ Below w.heap.size w w' := by
  obtain ⟨c, hc⟩ := spc_ex p s n m
  have cS := Split_any p s n mo cm m mm c hc w hrow
  have cRef : Hid (c = 0 → ∀ w', Below w.heap.size w w' → Calls Try.prog 12 #[.int .i64 p, .int .i64 s, .slice mo m.length cm, .int .i64 n] w' fun e w'' => RetP (shl p.toNat s m n.toNat) e w'' ∧ Below w'.heap.size w' w'') := fun h0 w' hB => by
    subst h0
    obtain ⟨P, rfl, hP, hP2, hl, hg⟩ := hc.ok
    obtain ⟨N, rfl⟩ : ∃ N : Nat, n = (N : Int) := ⟨n.toNat, by have := hg.2.2.1; omega⟩
    rw [Int.toNat_natCast, Int.toNat_natCast]
    exact refSplit_any P hP.1 hP2 s N mo cm m hl hg w' (ib hrow hB)
  have HNb : Hid (n.toNat ≤ 9223372036854775807) := by
    show _ ≤ _
    simp [Lit.wf] at wn
    have m0 : IntKind.i64.max = 9223372036854775807 := by decide
    omega
  have HR := hid hrow
  obtain ⟨nm, hn⟩ : ∃ nm, nm = m.length := ⟨_, rfl⟩
  have HN : Hid (nm = m.length) := hn
  have HD0 := hid (fun z0 (h : Z0 p s n nm z0) z (hz : St z0 p m nm z) => St.done hc (by rw [← hn]; exact h) (by rw [← hn]; exact hz))
  obtain ⟨pr, hpr⟩ := prc_ex p
  have cPr := fun w' => refPrimeCheck_any p pr hpr w'
  unfold RetP at cRef
  simp only [shl_length, ← hn] at cS cRef mm ⊢
  clear hrow hn km wn hc
  by_cases hp0 : pr = 0
  · subst hp0
    by_cases hl : 12 < nm
    · obtain ⟨z0, hz0⟩ : ∃ z0 : Int, z0 = 1 := ⟨_, rfl⟩
      have HD := hid (HD0.out z0 (.inr ⟨hpr, .inl ⟨hl, hz0⟩⟩))
      clear HD0 hpr
      have HZ : Hid (z0 = 1) := hz0
      clear hz0
      have hl2 : (12 : Int) < (nm : Int) := by omega
      go_enter Try.func3, Try.ntmps3
      go_wp2_with (first
        | (go_at_call 9; refine cS.mono ?_; rintro e w1 ⟨⟨bo, k0, cb, rfl, h1, h2, h3⟩, hB⟩; have HX := hid h1; have HY := hid h2; have RM := hid (ib HR.out hB); clear h1 h2)
        | (go_at_call 10; refine (cPr _).mono ?_; rintro e w' ⟨rfl, hw⟩; subst w'))
      clear cS cPr
      go_loop [11, 53] (fun vx vi => ∃ (k : Nat) (z : Int), vx = .int .i64 z ∧ vi = .int .i64 (k : Int) ∧ k ≤ nm ∧ Hid (St z0 p m k z)) (fun vx vi => ((nm : Int) - intOf vi).toNat)
      case atStart => exact ⟨0, _, rfl, rfl, by omega, St.begin HZ.out p m⟩
      case round =>
        obtain ⟨k, z, rfl, rfl, hk, HS⟩ := hrel
        by_cases hgo : k < nm
        · have hgo' : (k : Int) < (nm : Int) := by omega
          have hkl : Hid (k < m.length) := by have := HN.out; show k < m.length; omega
          rcases mo with _ | ad
          · exact (irow_none RM.out hkl.out).elim
          · have d0 := RM.out.2 ad rfl k hkl.out
            have HG := hid (fun (h0 : z = 0) (hy : 0 ≤ co m k ∧ co m k < p) => (h0 ▸ HS.out : St z0 p m k 0).good hy)
            have HBd := hid (fun (h0 : z = 0) (hy : ¬ (0 ≤ co m k ∧ co m k < p)) => (h0 ▸ HS.out : St z0 p m k 0).bad hy)
            generalize co m k = y at *
            by_cases hz : z = 0
            · subst hz
              by_cases o1 : y < 0
              · have H2 := hid (HBd.out rfl (by omega))
                go_wp2
                go_round
                case rel => exact ⟨k + 1, 2, rfl, by simp, by omega, H2⟩
                case measure => exact measK hgo
              · have o1' : decide (y < 0) = false := by simpa using o1
                by_cases o2 : p ≤ y
                · have H2 := hid (HBd.out rfl (by omega))
                  go_wp2
                  go_round
                  case rel => exact ⟨k + 1, 2, rfl, by simp, by omega, H2⟩
                  case measure => exact measK hgo
                · have o2' : decide (p ≤ y) = false := by simpa using o2
                  have H2 := hid (HG.out rfl ⟨by omega, by omega⟩)
                  go_wp2
                  go_round
                  case rel => exact ⟨k + 1, 0, rfl, by simp, by omega, H2⟩
                  case measure => exact measK hgo
            · have hz' : (z == 0) = false := by simpa using hz
              have H2 := hid (HS.out.keep hz)
              go_wp2
              go_round
              case rel => exact ⟨k + 1, z, rfl, by simp, by omega, H2⟩
              case measure => exact measK hgo
        · have hgo' : ¬ (k : Int) < (nm : Int) := by omega
          obtain rfl : k = nm := by omega
          obtain rfl : z = c := HD.out z HS.out
          by_cases h0 : z = 0
          · obtain ⟨ek, pr⟩ := HY.out h0
            have cR := cRef.out h0 w1 hB
            have HP := hid pr
            subst h0
            rw [ek]
            clear ek pr
            go_wp2_with (first
              | (go_at_call 12; refine cR.mono ?_; rintro e w2 ⟨⟨po, pc, rfl, hpc, hpr⟩, hB2⟩; have cP := Points_same bo po cb pc _ (by rw [shl_length]; exact HNb.out) w2 (pb HP.out hB2) hpr; rw [shl_length] at cP; clear hpr)
              | (go_at_call 11; refine cP.mono ?_; rintro e w3 ⟨rfl, hB3⟩))
            go_ret
            exact ⟨rfl, below_trans (below_trans hB hB2) hB3⟩
          · obtain ⟨ek, eb⟩ := HX.out h0
            subst ek eb
            have h1 : (z != 0) = true := by simpa using h0
            have h2 : (z == 0) = false := by simpa using h0
            go_wp2
            go_ret
            exact ⟨rfl, hB⟩
    · have hl' : decide ((12 : Int) < (nm : Int)) = false := by simp; omega
      by_cases s1 : s < 0
      · obtain ⟨z0, hz0⟩ : ∃ z0 : Int, z0 = 2 := ⟨_, rfl⟩
        have HD := hid (HD0.out z0 (.inr ⟨hpr, .inr ⟨by omega, .inl ⟨by omega, hz0⟩⟩⟩))
        clear HD0 hpr
        have HZ : Hid (z0 = 2) := hz0
        clear hz0
        go_enter Try.func3, Try.ntmps3
        go_wp2_with (first
          | (go_at_call 9; refine cS.mono ?_; rintro e w1 ⟨⟨bo, k0, cb, rfl, h1, h2, h3⟩, hB⟩; have HX := hid h1; have HY := hid h2; have RM := hid (ib HR.out hB); clear h1 h2)
          | (go_at_call 10; refine (cPr _).mono ?_; rintro e w' ⟨rfl, hw⟩; subst w'))
        clear cS cPr
        go_loop [11, 53] (fun vx vi => ∃ (k : Nat) (z : Int), vx = .int .i64 z ∧ vi = .int .i64 (k : Int) ∧ k ≤ nm ∧ Hid (St z0 p m k z)) (fun vx vi => ((nm : Int) - intOf vi).toNat)
        case atStart => exact ⟨0, _, rfl, rfl, by omega, St.begin HZ.out p m⟩
        case round =>
          obtain ⟨k, z, rfl, rfl, hk, HS⟩ := hrel
          by_cases hgo : k < nm
          · have hgo' : (k : Int) < (nm : Int) := by omega
            have hkl : Hid (k < m.length) := by have := HN.out; show k < m.length; omega
            rcases mo with _ | ad
            · exact (irow_none RM.out hkl.out).elim
            · have d0 := RM.out.2 ad rfl k hkl.out
              have HG := hid (fun (h0 : z = 0) (hy : 0 ≤ co m k ∧ co m k < p) => (h0 ▸ HS.out : St z0 p m k 0).good hy)
              have HBd := hid (fun (h0 : z = 0) (hy : ¬ (0 ≤ co m k ∧ co m k < p)) => (h0 ▸ HS.out : St z0 p m k 0).bad hy)
              generalize co m k = y at *
              by_cases hz : z = 0
              · subst hz
                by_cases o1 : y < 0
                · have H2 := hid (HBd.out rfl (by omega))
                  go_wp2
                  go_round
                  case rel => exact ⟨k + 1, 2, rfl, by simp, by omega, H2⟩
                  case measure => exact measK hgo
                · have o1' : decide (y < 0) = false := by simpa using o1
                  by_cases o2 : p ≤ y
                  · have H2 := hid (HBd.out rfl (by omega))
                    go_wp2
                    go_round
                    case rel => exact ⟨k + 1, 2, rfl, by simp, by omega, H2⟩
                    case measure => exact measK hgo
                  · have o2' : decide (p ≤ y) = false := by simpa using o2
                    have H2 := hid (HG.out rfl ⟨by omega, by omega⟩)
                    go_wp2
                    go_round
                    case rel => exact ⟨k + 1, 0, rfl, by simp, by omega, H2⟩
                    case measure => exact measK hgo
              · have hz' : (z == 0) = false := by simpa using hz
                have H2 := hid (HS.out.keep hz)
                go_wp2
                go_round
                case rel => exact ⟨k + 1, z, rfl, by simp, by omega, H2⟩
                case measure => exact measK hgo
          · have hgo' : ¬ (k : Int) < (nm : Int) := by omega
            obtain rfl : k = nm := by omega
            obtain rfl : z = c := HD.out z HS.out
            by_cases h0 : z = 0
            · obtain ⟨ek, pr⟩ := HY.out h0
              have cR := cRef.out h0 w1 hB
              have HP := hid pr
              subst h0
              rw [ek]
              clear ek pr
              go_wp2_with (first
                | (go_at_call 12; refine cR.mono ?_; rintro e w2 ⟨⟨po, pc, rfl, hpc, hpr⟩, hB2⟩; have cP := Points_same bo po cb pc _ (by rw [shl_length]; exact HNb.out) w2 (pb HP.out hB2) hpr; rw [shl_length] at cP; clear hpr)
                | (go_at_call 11; refine cP.mono ?_; rintro e w3 ⟨rfl, hB3⟩))
              go_ret
              exact ⟨rfl, below_trans (below_trans hB hB2) hB3⟩
            · obtain ⟨ek, eb⟩ := HX.out h0
              subst ek eb
              have h1 : (z != 0) = true := by simpa using h0
              have h2 : (z == 0) = false := by simpa using h0
              go_wp2
              go_ret
              exact ⟨rfl, hB⟩
      · have s1' : decide (s < 0) = false := by simpa using s1
        by_cases s2 : p ≤ s
        · obtain ⟨z0, hz0⟩ : ∃ z0 : Int, z0 = 2 := ⟨_, rfl⟩
          have HD := hid (HD0.out z0 (.inr ⟨hpr, .inr ⟨by omega, .inl ⟨by omega, hz0⟩⟩⟩))
          clear HD0 hpr
          have HZ : Hid (z0 = 2) := hz0
          clear hz0
          go_enter Try.func3, Try.ntmps3
          go_wp2_with (first
            | (go_at_call 9; refine cS.mono ?_; rintro e w1 ⟨⟨bo, k0, cb, rfl, h1, h2, h3⟩, hB⟩; have HX := hid h1; have HY := hid h2; have RM := hid (ib HR.out hB); clear h1 h2)
            | (go_at_call 10; refine (cPr _).mono ?_; rintro e w' ⟨rfl, hw⟩; subst w'))
          clear cS cPr
          go_loop [11, 53] (fun vx vi => ∃ (k : Nat) (z : Int), vx = .int .i64 z ∧ vi = .int .i64 (k : Int) ∧ k ≤ nm ∧ Hid (St z0 p m k z)) (fun vx vi => ((nm : Int) - intOf vi).toNat)
          case atStart => exact ⟨0, _, rfl, rfl, by omega, St.begin HZ.out p m⟩
          case round =>
            obtain ⟨k, z, rfl, rfl, hk, HS⟩ := hrel
            by_cases hgo : k < nm
            · have hgo' : (k : Int) < (nm : Int) := by omega
              have hkl : Hid (k < m.length) := by have := HN.out; show k < m.length; omega
              rcases mo with _ | ad
              · exact (irow_none RM.out hkl.out).elim
              · have d0 := RM.out.2 ad rfl k hkl.out
                have HG := hid (fun (h0 : z = 0) (hy : 0 ≤ co m k ∧ co m k < p) => (h0 ▸ HS.out : St z0 p m k 0).good hy)
                have HBd := hid (fun (h0 : z = 0) (hy : ¬ (0 ≤ co m k ∧ co m k < p)) => (h0 ▸ HS.out : St z0 p m k 0).bad hy)
                generalize co m k = y at *
                by_cases hz : z = 0
                · subst hz
                  by_cases o1 : y < 0
                  · have H2 := hid (HBd.out rfl (by omega))
                    go_wp2
                    go_round
                    case rel => exact ⟨k + 1, 2, rfl, by simp, by omega, H2⟩
                    case measure => exact measK hgo
                  · have o1' : decide (y < 0) = false := by simpa using o1
                    by_cases o2 : p ≤ y
                    · have H2 := hid (HBd.out rfl (by omega))
                      go_wp2
                      go_round
                      case rel => exact ⟨k + 1, 2, rfl, by simp, by omega, H2⟩
                      case measure => exact measK hgo
                    · have o2' : decide (p ≤ y) = false := by simpa using o2
                      have H2 := hid (HG.out rfl ⟨by omega, by omega⟩)
                      go_wp2
                      go_round
                      case rel => exact ⟨k + 1, 0, rfl, by simp, by omega, H2⟩
                      case measure => exact measK hgo
                · have hz' : (z == 0) = false := by simpa using hz
                  have H2 := hid (HS.out.keep hz)
                  go_wp2
                  go_round
                  case rel => exact ⟨k + 1, z, rfl, by simp, by omega, H2⟩
                  case measure => exact measK hgo
            · have hgo' : ¬ (k : Int) < (nm : Int) := by omega
              obtain rfl : k = nm := by omega
              obtain rfl : z = c := HD.out z HS.out
              by_cases h0 : z = 0
              · obtain ⟨ek, pr⟩ := HY.out h0
                have cR := cRef.out h0 w1 hB
                have HP := hid pr
                subst h0
                rw [ek]
                clear ek pr
                go_wp2_with (first
                  | (go_at_call 12; refine cR.mono ?_; rintro e w2 ⟨⟨po, pc, rfl, hpc, hpr⟩, hB2⟩; have cP := Points_same bo po cb pc _ (by rw [shl_length]; exact HNb.out) w2 (pb HP.out hB2) hpr; rw [shl_length] at cP; clear hpr)
                  | (go_at_call 11; refine cP.mono ?_; rintro e w3 ⟨rfl, hB3⟩))
                go_ret
                exact ⟨rfl, below_trans (below_trans hB hB2) hB3⟩
              · obtain ⟨ek, eb⟩ := HX.out h0
                subst ek eb
                have h1 : (z != 0) = true := by simpa using h0
                have h2 : (z == 0) = false := by simpa using h0
                go_wp2
                go_ret
                exact ⟨rfl, hB⟩
        · have s2' : decide (p ≤ s) = false := by simpa using s2
          by_cases s3 : n < 0
          · obtain ⟨z0, hz0⟩ : ∃ z0 : Int, z0 = 2 := ⟨_, rfl⟩
            have HD := hid (HD0.out z0 (.inr ⟨hpr, .inr ⟨by omega, .inl ⟨by omega, hz0⟩⟩⟩))
            clear HD0 hpr
            have HZ : Hid (z0 = 2) := hz0
            clear hz0
            go_enter Try.func3, Try.ntmps3
            go_wp2_with (first
              | (go_at_call 9; refine cS.mono ?_; rintro e w1 ⟨⟨bo, k0, cb, rfl, h1, h2, h3⟩, hB⟩; have HX := hid h1; have HY := hid h2; have RM := hid (ib HR.out hB); clear h1 h2)
              | (go_at_call 10; refine (cPr _).mono ?_; rintro e w' ⟨rfl, hw⟩; subst w'))
            clear cS cPr
            go_loop [11, 53] (fun vx vi => ∃ (k : Nat) (z : Int), vx = .int .i64 z ∧ vi = .int .i64 (k : Int) ∧ k ≤ nm ∧ Hid (St z0 p m k z)) (fun vx vi => ((nm : Int) - intOf vi).toNat)
            case atStart => exact ⟨0, _, rfl, rfl, by omega, St.begin HZ.out p m⟩
            case round =>
              obtain ⟨k, z, rfl, rfl, hk, HS⟩ := hrel
              by_cases hgo : k < nm
              · have hgo' : (k : Int) < (nm : Int) := by omega
                have hkl : Hid (k < m.length) := by have := HN.out; show k < m.length; omega
                rcases mo with _ | ad
                · exact (irow_none RM.out hkl.out).elim
                · have d0 := RM.out.2 ad rfl k hkl.out
                  have HG := hid (fun (h0 : z = 0) (hy : 0 ≤ co m k ∧ co m k < p) => (h0 ▸ HS.out : St z0 p m k 0).good hy)
                  have HBd := hid (fun (h0 : z = 0) (hy : ¬ (0 ≤ co m k ∧ co m k < p)) => (h0 ▸ HS.out : St z0 p m k 0).bad hy)
                  generalize co m k = y at *
                  by_cases hz : z = 0
                  · subst hz
                    by_cases o1 : y < 0
                    · have H2 := hid (HBd.out rfl (by omega))
                      go_wp2
                      go_round
                      case rel => exact ⟨k + 1, 2, rfl, by simp, by omega, H2⟩
                      case measure => exact measK hgo
                    · have o1' : decide (y < 0) = false := by simpa using o1
                      by_cases o2 : p ≤ y
                      · have H2 := hid (HBd.out rfl (by omega))
                        go_wp2
                        go_round
                        case rel => exact ⟨k + 1, 2, rfl, by simp, by omega, H2⟩
                        case measure => exact measK hgo
                      · have o2' : decide (p ≤ y) = false := by simpa using o2
                        have H2 := hid (HG.out rfl ⟨by omega, by omega⟩)
                        go_wp2
                        go_round
                        case rel => exact ⟨k + 1, 0, rfl, by simp, by omega, H2⟩
                        case measure => exact measK hgo
                  · have hz' : (z == 0) = false := by simpa using hz
                    have H2 := hid (HS.out.keep hz)
                    go_wp2
                    go_round
                    case rel => exact ⟨k + 1, z, rfl, by simp, by omega, H2⟩
                    case measure => exact measK hgo
              · have hgo' : ¬ (k : Int) < (nm : Int) := by omega
                obtain rfl : k = nm := by omega
                obtain rfl : z = c := HD.out z HS.out
                by_cases h0 : z = 0
                · obtain ⟨ek, pr⟩ := HY.out h0
                  have cR := cRef.out h0 w1 hB
                  have HP := hid pr
                  subst h0
                  rw [ek]
                  clear ek pr
                  go_wp2_with (first
                    | (go_at_call 12; refine cR.mono ?_; rintro e w2 ⟨⟨po, pc, rfl, hpc, hpr⟩, hB2⟩; have cP := Points_same bo po cb pc _ (by rw [shl_length]; exact HNb.out) w2 (pb HP.out hB2) hpr; rw [shl_length] at cP; clear hpr)
                    | (go_at_call 11; refine cP.mono ?_; rintro e w3 ⟨rfl, hB3⟩))
                  go_ret
                  exact ⟨rfl, below_trans (below_trans hB hB2) hB3⟩
                · obtain ⟨ek, eb⟩ := HX.out h0
                  subst ek eb
                  have h1 : (z != 0) = true := by simpa using h0
                  have h2 : (z == 0) = false := by simpa using h0
                  go_wp2
                  go_ret
                  exact ⟨rfl, hB⟩
          · have s3' : decide (n < 0) = false := by simpa using s3
            by_cases s4 : p ≤ n
            · obtain ⟨z0, hz0⟩ : ∃ z0 : Int, z0 = 2 := ⟨_, rfl⟩
              have HD := hid (HD0.out z0 (.inr ⟨hpr, .inr ⟨by omega, .inl ⟨by omega, hz0⟩⟩⟩))
              clear HD0 hpr
              have HZ : Hid (z0 = 2) := hz0
              clear hz0
              go_enter Try.func3, Try.ntmps3
              go_wp2_with (first
                | (go_at_call 9; refine cS.mono ?_; rintro e w1 ⟨⟨bo, k0, cb, rfl, h1, h2, h3⟩, hB⟩; have HX := hid h1; have HY := hid h2; have RM := hid (ib HR.out hB); clear h1 h2)
                | (go_at_call 10; refine (cPr _).mono ?_; rintro e w' ⟨rfl, hw⟩; subst w'))
              clear cS cPr
              go_loop [11, 53] (fun vx vi => ∃ (k : Nat) (z : Int), vx = .int .i64 z ∧ vi = .int .i64 (k : Int) ∧ k ≤ nm ∧ Hid (St z0 p m k z)) (fun vx vi => ((nm : Int) - intOf vi).toNat)
              case atStart => exact ⟨0, _, rfl, rfl, by omega, St.begin HZ.out p m⟩
              case round =>
                obtain ⟨k, z, rfl, rfl, hk, HS⟩ := hrel
                by_cases hgo : k < nm
                · have hgo' : (k : Int) < (nm : Int) := by omega
                  have hkl : Hid (k < m.length) := by have := HN.out; show k < m.length; omega
                  rcases mo with _ | ad
                  · exact (irow_none RM.out hkl.out).elim
                  · have d0 := RM.out.2 ad rfl k hkl.out
                    have HG := hid (fun (h0 : z = 0) (hy : 0 ≤ co m k ∧ co m k < p) => (h0 ▸ HS.out : St z0 p m k 0).good hy)
                    have HBd := hid (fun (h0 : z = 0) (hy : ¬ (0 ≤ co m k ∧ co m k < p)) => (h0 ▸ HS.out : St z0 p m k 0).bad hy)
                    generalize co m k = y at *
                    by_cases hz : z = 0
                    · subst hz
                      by_cases o1 : y < 0
                      · have H2 := hid (HBd.out rfl (by omega))
                        go_wp2
                        go_round
                        case rel => exact ⟨k + 1, 2, rfl, by simp, by omega, H2⟩
                        case measure => exact measK hgo
                      · have o1' : decide (y < 0) = false := by simpa using o1
                        by_cases o2 : p ≤ y
                        · have H2 := hid (HBd.out rfl (by omega))
                          go_wp2
                          go_round
                          case rel => exact ⟨k + 1, 2, rfl, by simp, by omega, H2⟩
                          case measure => exact measK hgo
                        · have o2' : decide (p ≤ y) = false := by simpa using o2
                          have H2 := hid (HG.out rfl ⟨by omega, by omega⟩)
                          go_wp2
                          go_round
                          case rel => exact ⟨k + 1, 0, rfl, by simp, by omega, H2⟩
                          case measure => exact measK hgo
                    · have hz' : (z == 0) = false := by simpa using hz
                      have H2 := hid (HS.out.keep hz)
                      go_wp2
                      go_round
                      case rel => exact ⟨k + 1, z, rfl, by simp, by omega, H2⟩
                      case measure => exact measK hgo
                · have hgo' : ¬ (k : Int) < (nm : Int) := by omega
                  obtain rfl : k = nm := by omega
                  obtain rfl : z = c := HD.out z HS.out
                  by_cases h0 : z = 0
                  · obtain ⟨ek, pr⟩ := HY.out h0
                    have cR := cRef.out h0 w1 hB
                    have HP := hid pr
                    subst h0
                    rw [ek]
                    clear ek pr
                    go_wp2_with (first
                      | (go_at_call 12; refine cR.mono ?_; rintro e w2 ⟨⟨po, pc, rfl, hpc, hpr⟩, hB2⟩; have cP := Points_same bo po cb pc _ (by rw [shl_length]; exact HNb.out) w2 (pb HP.out hB2) hpr; rw [shl_length] at cP; clear hpr)
                      | (go_at_call 11; refine cP.mono ?_; rintro e w3 ⟨rfl, hB3⟩))
                    go_ret
                    exact ⟨rfl, below_trans (below_trans hB hB2) hB3⟩
                  · obtain ⟨ek, eb⟩ := HX.out h0
                    subst ek eb
                    have h1 : (z != 0) = true := by simpa using h0
                    have h2 : (z == 0) = false := by simpa using h0
                    go_wp2
                    go_ret
                    exact ⟨rfl, hB⟩
            · have s4' : decide (p ≤ n) = false := by simpa using s4
              obtain ⟨z0, hz0⟩ : ∃ z0 : Int, z0 = 0 := ⟨_, rfl⟩
              have HD := hid (HD0.out z0 (.inr ⟨hpr, .inr ⟨by omega, .inr ⟨⟨⟨by omega, by omega⟩, by omega, by omega⟩, hz0⟩⟩⟩))
              clear HD0 hpr
              have HZ : Hid (z0 = 0) := hz0
              clear hz0
              go_enter Try.func3, Try.ntmps3
              go_wp2_with (first
                | (go_at_call 9; refine cS.mono ?_; rintro e w1 ⟨⟨bo, k0, cb, rfl, h1, h2, h3⟩, hB⟩; have HX := hid h1; have HY := hid h2; have RM := hid (ib HR.out hB); clear h1 h2)
                | (go_at_call 10; refine (cPr _).mono ?_; rintro e w' ⟨rfl, hw⟩; subst w'))
              clear cS cPr
              go_loop [11, 53] (fun vx vi => ∃ (k : Nat) (z : Int), vx = .int .i64 z ∧ vi = .int .i64 (k : Int) ∧ k ≤ nm ∧ Hid (St z0 p m k z)) (fun vx vi => ((nm : Int) - intOf vi).toNat)
              case atStart => exact ⟨0, _, rfl, rfl, by omega, St.begin HZ.out p m⟩
              case round =>
                obtain ⟨k, z, rfl, rfl, hk, HS⟩ := hrel
                by_cases hgo : k < nm
                · have hgo' : (k : Int) < (nm : Int) := by omega
                  have hkl : Hid (k < m.length) := by have := HN.out; show k < m.length; omega
                  rcases mo with _ | ad
                  · exact (irow_none RM.out hkl.out).elim
                  · have d0 := RM.out.2 ad rfl k hkl.out
                    have HG := hid (fun (h0 : z = 0) (hy : 0 ≤ co m k ∧ co m k < p) => (h0 ▸ HS.out : St z0 p m k 0).good hy)
                    have HBd := hid (fun (h0 : z = 0) (hy : ¬ (0 ≤ co m k ∧ co m k < p)) => (h0 ▸ HS.out : St z0 p m k 0).bad hy)
                    generalize co m k = y at *
                    by_cases hz : z = 0
                    · subst hz
                      by_cases o1 : y < 0
                      · have H2 := hid (HBd.out rfl (by omega))
                        go_wp2
                        go_round
                        case rel => exact ⟨k + 1, 2, rfl, by simp, by omega, H2⟩
                        case measure => exact measK hgo
                      · have o1' : decide (y < 0) = false := by simpa using o1
                        by_cases o2 : p ≤ y
                        · have H2 := hid (HBd.out rfl (by omega))
                          go_wp2
                          go_round
                          case rel => exact ⟨k + 1, 2, rfl, by simp, by omega, H2⟩
                          case measure => exact measK hgo
                        · have o2' : decide (p ≤ y) = false := by simpa using o2
                          have H2 := hid (HG.out rfl ⟨by omega, by omega⟩)
                          go_wp2
                          go_round
                          case rel => exact ⟨k + 1, 0, rfl, by simp, by omega, H2⟩
                          case measure => exact measK hgo
                    · have hz' : (z == 0) = false := by simpa using hz
                      have H2 := hid (HS.out.keep hz)
                      go_wp2
                      go_round
                      case rel => exact ⟨k + 1, z, rfl, by simp, by omega, H2⟩
                      case measure => exact measK hgo
                · have hgo' : ¬ (k : Int) < (nm : Int) := by omega
                  obtain rfl : k = nm := by omega
                  obtain rfl : z = c := HD.out z HS.out
                  by_cases h0 : z = 0
                  · obtain ⟨ek, pr⟩ := HY.out h0
                    have cR := cRef.out h0 w1 hB
                    have HP := hid pr
                    subst h0
                    rw [ek]
                    clear ek pr
                    go_wp2_with (first
                      | (go_at_call 12; refine cR.mono ?_; rintro e w2 ⟨⟨po, pc, rfl, hpc, hpr⟩, hB2⟩; have cP := Points_same bo po cb pc _ (by rw [shl_length]; exact HNb.out) w2 (pb HP.out hB2) hpr; rw [shl_length] at cP; clear hpr)
                      | (go_at_call 11; refine cP.mono ?_; rintro e w3 ⟨rfl, hB3⟩))
                    go_ret
                    exact ⟨rfl, below_trans (below_trans hB hB2) hB3⟩
                  · obtain ⟨ek, eb⟩ := HX.out h0
                    subst ek eb
                    have h1 : (z != 0) = true := by simpa using h0
                    have h2 : (z == 0) = false := by simpa using h0
                    go_wp2
                    go_ret
                    exact ⟨rfl, hB⟩
  · obtain ⟨z0, hz0⟩ : ∃ z0 : Int, z0 = pr := ⟨_, rfl⟩
    have HD := hid (HD0.out z0 (.inl ⟨by rw [hz0]; exact hpr, by rw [hz0]; exact hp0⟩))
    have q1 : (pr == 0) = false := by simpa using hp0
    have q2 : (pr != 0) = true := by simpa using hp0
    clear HD0 hpr
    have HZ : Hid (z0 = pr) := hz0
    clear hz0
    go_enter Try.func3, Try.ntmps3
    go_wp2_with (first
      | (go_at_call 9; refine cS.mono ?_; rintro e w1 ⟨⟨bo, k0, cb, rfl, h1, h2, h3⟩, hB⟩; have HX := hid h1; have HY := hid h2; have RM := hid (ib HR.out hB); clear h1 h2)
      | (go_at_call 10; refine (cPr _).mono ?_; rintro e w' ⟨rfl, hw⟩; subst w'))
    clear cS cPr
    go_loop [11, 53] (fun vx vi => ∃ (k : Nat) (z : Int), vx = .int .i64 z ∧ vi = .int .i64 (k : Int) ∧ k ≤ nm ∧ Hid (St z0 p m k z)) (fun vx vi => ((nm : Int) - intOf vi).toNat)
    case atStart => exact ⟨0, _, rfl, rfl, by omega, St.begin HZ.out p m⟩
    case round =>
      obtain ⟨k, z, rfl, rfl, hk, HS⟩ := hrel
      by_cases hgo : k < nm
      · have hgo' : (k : Int) < (nm : Int) := by omega
        have hkl : Hid (k < m.length) := by have := HN.out; show k < m.length; omega
        rcases mo with _ | ad
        · exact (irow_none RM.out hkl.out).elim
        · have d0 := RM.out.2 ad rfl k hkl.out
          have HG := hid (fun (h0 : z = 0) (hy : 0 ≤ co m k ∧ co m k < p) => (h0 ▸ HS.out : St z0 p m k 0).good hy)
          have HBd := hid (fun (h0 : z = 0) (hy : ¬ (0 ≤ co m k ∧ co m k < p)) => (h0 ▸ HS.out : St z0 p m k 0).bad hy)
          generalize co m k = y at *
          by_cases hz : z = 0
          · subst hz
            by_cases o1 : y < 0
            · have H2 := hid (HBd.out rfl (by omega))
              go_wp2
              go_round
              case rel => exact ⟨k + 1, 2, rfl, by simp, by omega, H2⟩
              case measure => exact measK hgo
            · have o1' : decide (y < 0) = false := by simpa using o1
              by_cases o2 : p ≤ y
              · have H2 := hid (HBd.out rfl (by omega))
                go_wp2
                go_round
                case rel => exact ⟨k + 1, 2, rfl, by simp, by omega, H2⟩
                case measure => exact measK hgo
              · have o2' : decide (p ≤ y) = false := by simpa using o2
                have H2 := hid (HG.out rfl ⟨by omega, by omega⟩)
                go_wp2
                go_round
                case rel => exact ⟨k + 1, 0, rfl, by simp, by omega, H2⟩
                case measure => exact measK hgo
          · have hz' : (z == 0) = false := by simpa using hz
            have H2 := hid (HS.out.keep hz)
            go_wp2
            go_round
            case rel => exact ⟨k + 1, z, rfl, by simp, by omega, H2⟩
            case measure => exact measK hgo
      · have hgo' : ¬ (k : Int) < (nm : Int) := by omega
        obtain rfl : k = nm := by omega
        obtain rfl : z = c := HD.out z HS.out
        by_cases h0 : z = 0
        · obtain ⟨ek, pr⟩ := HY.out h0
          have cR := cRef.out h0 w1 hB
          have HP := hid pr
          subst h0
          rw [ek]
          clear ek pr
          go_wp2_with (first
            | (go_at_call 12; refine cR.mono ?_; rintro e w2 ⟨⟨po, pc, rfl, hpc, hpr⟩, hB2⟩; have cP := Points_same bo po cb pc _ (by rw [shl_length]; exact HNb.out) w2 (pb HP.out hB2) hpr; rw [shl_length] at cP; clear hpr)
            | (go_at_call 11; refine cP.mono ?_; rintro e w3 ⟨rfl, hB3⟩))
          go_ret
          exact ⟨rfl, below_trans (below_trans hB hB2) hB3⟩
        · obtain ⟨ek, eb⟩ := HX.out h0
          subst ek eb
          have h1 : (z != 0) = true := by simpa using h0
          have h2 : (z == 0) = false := by simpa using h0
          go_wp2
          go_ret
          exact ⟨rfl, hB⟩

set_option maxRecDepth 100000 in
theorem lifted (os : Os) (started : os.Started) (H : Type) (enc : TypeId × Value → H) :
    ReturnsInHanded {} Try.checked os 3 .any (Rows.shareSplitsSpec.pre6 enc Try.prog Try.f3 Rows.shareSplitsRow.domain false) (Rows.shareSplitsSpec.post enc Try.prog Try.f3 false true false false) := by
  refine returnsInHanded_of_change (C := Try.checked) own started (by kernel_rfl) Try.func3
    (ChangeSpec.witness6 (enc := enc) (C := Try.checked) false ⟨#[], #[.int .i64 0, .int .i64 0, .slice none 0 0, .int .i64 0], []⟩ 8 (by kernel_rfl) (by kernel_rfl) (by kernel_rfl) (by kernel_rfl)) ?_
  intro W base args ds gs before hval0 hW hcnd _
  have hval : ∀ (j : Nat) t v, Try.f3.params[j]? = some t → args[j]? = some v → Value.okWide Try.prog W .any base t v := hval0
  have hW' := hW
  obtain ⟨p, q, hA0, hV, rfl, _, _⟩ := hW
  have hA : DataW.TrodAll enc Try.prog W 0 (fun _ => true) true Try.f3.params.toList args.toList ds p := hA0
  rw [Try.params3] at hA hval
  obtain ⟨v0, v1, v2, v3, d0, d1, d2, d3, p0, p1, p2, p3, rfl, rfl, rfl, h0, h1, h2, h3⟩ := trodAll_four hA
  obtain ⟨rfl, rfl⟩ := trodVars_none hV
  obtain ⟨a0, rfl, rfl, rfl, w0⟩ := open_int Try.underlying2 (hval 0 2 v0 rfl rfl) h0
  obtain ⟨a1, rfl, rfl, rfl, w1⟩ := open_int Try.underlying2 (hval 1 2 v1 rfl rfl) h1
  have hsl2 := okWide_slice Try.underlying22 (hval 2 22 v2 rfl rfl)
  obtain ⟨a3, rfl, rfl, rfl, w3⟩ := open_int Try.underlying3 (hval 3 3 v3 rfl rfl) h3
  clear hA0 hval0
  simp only [List.append_nil, List.nil_append] at hW'
  have hlt2 : ∀ x ∈ p2, x.block < W.heap.size := fun x hx => by simpa using hW'.lt x (by simp [hx])
  have harg2 : ∀ (W' : World), Below W.heap.size W W' → DataW.Trod enc Try.prog W' 0 (fun b => decide (b < W.heap.size)) true 22 v2 d2 p2 :=
    fun W' hn => Below.trod laidOut (by kernel_rfl) (of_decide_eq_true (by kernel_rfl)) h2 hn hlt2
  obtain ⟨o2, c2, l2, rfl, r2, k2, m2⟩ := longs_view Try.underlying22 cells2 Try.underlying2 h2 hsl2
  refine (walk a0 a1 o2 c2 l2 k2 m2 a3 w3 W r2).mono fun e W' ⟨he, hg⟩ => ?_
  subst he
  refine ⟨_, rfl, _, _, _, [], ([] : List MemPlace) ++ (([] : List MemPlace) ++ (p2 ++ (([] : List MemPlace)))), [], hW', ?_, ?_, rfl, hg.frame _, fun h => by cases h⟩
  · exact trodAll_mk1 (shut_bool Try.underlying4 true)
  · exact trodAll_mk4 (shut_int Try.underlying2 w0) (shut_int Try.underlying2 w1) (harg2 _ hg) (shut_int Try.underlying3 w3)

theorem over : Rows.shareSplitsRow.holds Try.pinned (OpenSpec.ofChange Rows.shareSplitsSpec) :=
  OpenClaim.holds_of_wide 3 Try.f3 rfl rfl rfl rfl rfl rfl rfl ⟨rfl, rfl, rfl, rfl, rfl⟩ rfl rfl rfl rfl rfl (by kernel_rfl) Try.func3 (by kernel_rfl)
    (of_decide_eq_true (by kernel_rfl)) (by unfold Func.isWrapper; first | (rw [if_pos (by decide +kernel)]; kernel_rfl) | (rw [if_neg (by decide +kernel)]; exact ⟨rfl, rfl⟩))
    (fun os started H enc _ => lifted os started H enc)

/-- ████ THE STATEMENT ████ -/
theorem proved : Rows.ShareSplitsSaid :=
  over

end Go.Proofs.Ytokbdgikdlfneaa.shareSplits
