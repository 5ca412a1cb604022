/-
  For any shares the program tells what all know together, and what is wrong.
-/
import Derived.Test.YtpnmepobdnclkaaRows
import Derived.Test.YtpnmepobdnclkaaCalls190
import Derived.WalkKit
import Derived.ProofKit
import Derived.OpenShut
import Derived.Carry
namespace Go.Proofs.Ytpnmepobdnclkaa.partsOpens
open Go.ChangeShapes Go.WideShapes Go.ChangeAt Go.RowKit Go.Deep Go.Proofs.Ytpnmepobdnclkaa.Base Go.Proofs.Ytpnmepobdnclkaa.Base2 Go.Proofs.Ytpnmepobdnclkaa.Base4 Go.Proofs.Ytpnmepobdnclkaa.Base10 Go.Proofs.Ytpnmepobdnclkaa.Num Go.Proofs.Ytpnmepobdnclkaa.Num13 Go.Proofs.Ytpnmepobdnclkaa.Num16 Go.Proofs.Ytpnmepobdnclkaa.Num17 Go.Proofs.Ytpnmepobdnclkaa.Num34 Go.Proofs.Ytpnmepobdnclkaa.Num35 Go.Proofs.Ytpnmepobdnclkaa.Num39 Go.Proofs.Ytpnmepobdnclkaa.Num61 Go.Proofs.Ytpnmepobdnclkaa.Num69 Go.Proofs.Ytpnmepobdnclkaa.Calls56 Go.Proofs.Ytpnmepobdnclkaa.Calls176 Go.Proofs.Ytpnmepobdnclkaa.Calls177 Go.Proofs.Ytpnmepobdnclkaa.Num70 Go.Proofs.Ytpnmepobdnclkaa.Calls69 Go.Proofs.Ytpnmepobdnclkaa.Calls87 Go.Proofs.Ytpnmepobdnclkaa.Calls182 Go.Proofs.Ytpnmepobdnclkaa.Calls184 Go.Proofs.Ytpnmepobdnclkaa.Calls190
set_option linter.unusedVariables false

theorem own : ownKnob Try.prog.godebug = none := by kernel_rfl

theorem laidOut : laidOutB Try.prog = true := by kernel_rfl

theorem cells2 : Try.prog.cellsOf 2 = 1 := by kernel_rfl

open Go.Proofs.Ytpnmepobdnclkaa.Calls87 (ib infoPt_ex)
open Go.Proofs.Ytpnmepobdnclkaa.Calls88 (flatP_snoc pair_cells below_snoc)
open Go.Proofs.Ytpnmepobdnclkaa.Calls90 (InM St prc_uniq)

set_option maxRecDepth 100000 in
set_option maxHeartbeats 2000000 in
theorem walk (p t : Int) (wt : (Lit.int .i64 t).wf = true) (lo : Option Addr) (cl : Nat) (l : List Int) (kl : l.length ≤ cl) (ml : l.length ≤ 9223372036854775807) (w : World) (hrow : IRow w lo l) :
    Calls Try.prog 3 #[.int .i64 p, .int .i64 t, .slice lo l.length cl] w fun e w' => e = .returned (.bool true) ∧ Below w.heap.size w w' := by
  obtain ⟨i0, hi, hz0, hz1, hz2⟩ := infoPt_ex
  obtain ⟨c, hc⟩ := opc_ex p t l
  have cO := Open_any p t lo cl l ml c hc w hrow
  have cRef : Hid (c = 0 → ∀ v, JoinIs p.toNat XP (co l) l.length v → l.length ≤ 9 ∧ ∀ ao cap W, PRow W ao (mp l.length XP (co l)) → Calls Try.prog 11 #[.int .i64 p, .slice ao l.length cap] W fun e w' => e = .returned (.int .i64 v) ∧ Below W.heap.size W w') := by
    intro h0 v hv
    subst h0
    obtain ⟨P, rfl, hP, hP2⟩ := hc.ok.1.ok
    rw [Int.toNat_natCast] at hv
    obtain ⟨_, ht, hI, hll⟩ := hc.ok
    exact ⟨by omega, fun ao cap W hr => refJoin_mp P hP hP2 l.length (by omega) (by omega) (co l) hI v hv ao cap W hr⟩
  have HR := hid (fun W (hB : Below w.heap.size w W) => ib hrow hB)
  obtain ⟨pr, hpr⟩ := prc_ex p
  have cPr := fun w' => refPrimeCheck_any p pr hpr w'
  have HD0 := hid (fun z0 (h : O0 p t z0) z (hz : St z0 p l l.length z) => open_code hc h hz)
  obtain ⟨n, hn⟩ : ∃ n, n = l.length := ⟨_, rfl⟩
  have HN : Hid (n = l.length) := hn
  rw [← hn] at HD0 cRef cO ml ⊢
  clear hrow hn kl wt hc
  by_cases hp0 : pr = 0
  · subst hp0
    obtain ⟨tc, htc⟩ := tc_ex p t
    have cTc := fun w' => refPartiesCheck_any p t tc htc w'
    have HO : Hid (O0 p t tc) := .inr ⟨hpr, htc⟩
    clear hpr htc
    have HD := hid (HD0.out tc HO.out)
    clear HD0 HO
    go_enter Try.func3, Try.ntmps3
    go_wp2_with (first
      | (go_at_call 8; refine cO.mono ?_; rintro e w1 ⟨⟨v, rfl, h1, h2⟩, hB⟩; have HX := hid h1; have HY := hid h2; have HB := hid hB; have RM := hid (HR.out _ hB); clear h1 h2 hB)
      | (go_at_call 9; refine (cPr _).mono ?_; rintro e w' ⟨rfl, hw⟩; subst w')
      | (go_at_call 10; refine (cTc _).mono ?_; rintro e w' ⟨rfl, hw⟩; subst w'))
    clear cO cPr
    go_loop [9, 31] (fun vx vi => ∃ (k : Nat) (z : Int), vx = .int .i64 z ∧ vi = .int .i64 (k : Int) ∧ k ≤ n ∧ Hid (St tc p l k z)) (fun vx vi => ((n : Int) - intOf vi).toNat)
    case atStart => exact ⟨0, _, rfl, rfl, by omega, St.start tc p l⟩
    case round =>
      obtain ⟨k, z, rfl, rfl, hk, HS⟩ := hrel
      by_cases hgo : k < n
      · have hgo' : (k : Int) < (n : Int) := by omega
        have hkl : Hid (k < l.length) := by have := HN.out; show k < l.length; omega
        rcases lo with _ | ad
        · exact (irow_none RM.out hkl.out).elim
        · have d0 := RM.out.2 ad rfl k hkl.out
          have HG := hid (fun (h0 : z = 0) (hy : 0 ≤ co l k ∧ co l k < p) => (h0 ▸ HS.out : St tc p l k 0).good hy)
          have HBd := hid (fun (h0 : z = 0) (hy : ¬ (0 ≤ co l k ∧ co l k < p)) => (h0 ▸ HS.out : St tc p l k 0).bad hy)
          generalize co l k = y at *
          by_cases hz : z = 0
          · subst hz
            by_cases o1 : y < 0
            · have H2 := hid (HBd.out rfl (by omega))
              go_wp2
              go_round
              case rel => exact ⟨k + 1, 2, rfl, by simp, by omega, H2⟩
              case measure => exact measK hgo
            · have o1' : decide (y < 0) = false := by simpa using o1
              by_cases o2 : p ≤ y
              · have H2 := hid (HBd.out rfl (by omega))
                go_wp2
                go_round
                case rel => exact ⟨k + 1, 2, rfl, by simp, by omega, H2⟩
                case measure => exact measK hgo
              · have o2' : decide (p ≤ y) = false := by simpa using o2
                have H2 := hid (HG.out rfl ⟨by omega, by omega⟩)
                go_wp2
                go_round
                case rel => exact ⟨k + 1, 0, rfl, by simp, by omega, H2⟩
                case measure => exact measK hgo
          · have hz' : (z == 0) = false := by simpa using hz
            have H2 := hid (HS.out.keep hz)
            go_wp2
            go_round
            case rel => exact ⟨k + 1, z, rfl, by simp, by omega, H2⟩
            case measure => exact measK hgo
      · have hgo' : ¬ (k : Int) < (n : Int) := by omega
        obtain rfl : k = n := by omega
        obtain ⟨e1, e2⟩ := HD.out z HS.out
        by_cases hz : z = 0
        · subst hz
          obtain ⟨ht, e3⟩ := e2 rfl
          clear e1 e2
          have hw1 : IntKind.i64.wrap (2 * t + 1) = 2 * t + 1 := by rw [IntKind.wrap_i64]; omega
          have hw2 : IntKind.i64.wrap (2 * t) = 2 * t := by rw [IntKind.wrap_i64]; omega
          rcases e3 with ⟨e4, e5⟩ | ⟨e4, e5⟩
          · subst e5
            obtain rfl : v = 0 := HX.out (by decide)
            have hne : ((k : Int) != 2 * t + 1) = true := by simpa using e4
            clear e4
            go_wp2
            go_ret
            exact ⟨rfl, HB.out⟩
          · subst e5
            have hne : ((k : Int) != 2 * t + 1) = false := by rw [e4]; simp
            obtain ⟨hk9, cJ⟩ := cRef.out rfl v (HY.out rfl)
            have CJ := hid cJ
            clear e4 cJ HX HY HS HD
            go_wp2
            go_loopw [12, 68] (fun v x wr => ∃ j : Nat, x = .int .i64 (j : Int) ∧ j ≤ k ∧ Hid (wr.ownsRow w.heap.size 30 2 v j (flatP (mp j XP (co l)))) ∧ Hid (Below w.heap.size w wr)) (fun v x wr => ((k : Int) - intOf x).toNat)
            case atStart => exact ⟨0, rfl, by omega, World.ownsRow_nil _ _ _ _, HB⟩
            case round =>
              obtain ⟨j, rfl, hj, HO, hB⟩ := hrel
              have hsz := hB.out.size
              by_cases hgj : j < k
              · have hgj' : (j : Int) < (k : Int) := by omega
                have hjl : Hid (j < l.length) := by have := HN.out; show j < l.length; omega
                rcases lo with _ | ad
                · exact (irow_none (HR.out _ hB.out) hjl.out).elim
                · have d0 := (HR.out _ hB.out).2 ad rfl j hjl.out
                  have hsn : Hid (flatP (mp (j + 1) XP (co l)) = flatP (mp j XP (co l)) ++ [.int .i64 ((j : Int) + 1), .int .i64 (co l j)]) := by show _ = _; rw [mp_succ, flatP_snoc]; rfl
                  generalize co l j = y at *
                  go_wp2_with (at_builtin; refine wpList_append_own _ rfl _ _ 28 rfl w.heap.size 30 i0 (.agg #[.int .i64 0, .int .i64 0]) 2 16 Try.underlying28 hi hz0 hz1 hz2 rfl (by decide) _ _ _ rfl (HO.out.alloc _) ⟨wr.heap.size, 0, none⟩ 1 1 [.int .i64 ((j : Int) + 1), .int .i64 y] rfl rfl pair_cells (by simp [Value.oneCell']) (by unfold maxLen; omega) (by omega) (by simp; omega) ?_; intro v' w3 hown' hgrow _; have HO3 := hid hown'; have HB3 := hid (below_snoc hB.out (Nat.le_refl _) HO.out hgrow); clear hown' hgrow)
                  go_roundw
                  case rel => exact ⟨j + 1, by simp, by omega, by show World.ownsRow _ _ _ _ _ _ _; rw [hsn.out]; exact HO3.out, HB3⟩
                  case measure => exact measK hgj
              · have hgj' : ¬ (j : Int) < (k : Int) := by omega
                obtain rfl : j = k := by omega
                obtain ⟨po, pc, rfl, hpc, hpr⟩ := prow_owns HO.out
                have HP := hid hpr
                rw [mp_length] at hpc ⊢
                clear hpr
                go_wp2_with (go_at_call 11; refine (CJ.out _ _ _ HP.out).mono ?_; rintro e w4 ⟨rfl, hB4⟩)
                go_ret
                exact ⟨by simp, below_trans hB.out hB4⟩
        · obtain rfl : c = z := e1 hz
          obtain rfl : v = 0 := HX.out hz
          have h1 : (c != 0) = true := by simpa using hz
          have h2 : (c == 0) = false := by simpa using hz
          have h3 : (c == c) = true := by simp
          clear e1 e2 HD HS
          go_wp2
          go_ret
          exact ⟨rfl, HB.out⟩
  · have h1' : (pr == 0) = false := by simpa using hp0
    have HO : Hid (O0 p t pr) := .inl ⟨hpr, hp0⟩
    clear hpr
    have HD := hid (HD0.out pr HO.out)
    clear HD0 HO
    go_enter Try.func3, Try.ntmps3
    go_wp2_with (first
      | (go_at_call 8; refine cO.mono ?_; rintro e w1 ⟨⟨v, rfl, h1, h2⟩, hB⟩; have HX := hid h1; have HY := hid h2; have HB := hid hB; have RM := hid (HR.out _ hB); clear h1 h2 hB)
      | (go_at_call 9; refine (cPr _).mono ?_; rintro e w' ⟨rfl, hw⟩; subst w'))
    clear cO cPr
    go_loop [9, 31] (fun vx vi => ∃ (k : Nat) (z : Int), vx = .int .i64 z ∧ vi = .int .i64 (k : Int) ∧ k ≤ n ∧ Hid (St pr p l k z)) (fun vx vi => ((n : Int) - intOf vi).toNat)
    case atStart => exact ⟨0, _, rfl, rfl, by omega, St.start pr p l⟩
    case round =>
      obtain ⟨k, z, rfl, rfl, hk, HS⟩ := hrel
      by_cases hgo : k < n
      · have hgo' : (k : Int) < (n : Int) := by omega
        have hkl : Hid (k < l.length) := by have := HN.out; show k < l.length; omega
        rcases lo with _ | ad
        · exact (irow_none RM.out hkl.out).elim
        · have d0 := RM.out.2 ad rfl k hkl.out
          have HG := hid (fun (h0 : z = 0) (hy : 0 ≤ co l k ∧ co l k < p) => (h0 ▸ HS.out : St pr p l k 0).good hy)
          have HBd := hid (fun (h0 : z = 0) (hy : ¬ (0 ≤ co l k ∧ co l k < p)) => (h0 ▸ HS.out : St pr p l k 0).bad hy)
          generalize co l k = y at *
          by_cases hz : z = 0
          · subst hz
            by_cases o1 : y < 0
            · have H2 := hid (HBd.out rfl (by omega))
              go_wp2
              go_round
              case rel => exact ⟨k + 1, 2, rfl, by simp, by omega, H2⟩
              case measure => exact measK hgo
            · have o1' : decide (y < 0) = false := by simpa using o1
              by_cases o2 : p ≤ y
              · have H2 := hid (HBd.out rfl (by omega))
                go_wp2
                go_round
                case rel => exact ⟨k + 1, 2, rfl, by simp, by omega, H2⟩
                case measure => exact measK hgo
              · have o2' : decide (p ≤ y) = false := by simpa using o2
                have H2 := hid (HG.out rfl ⟨by omega, by omega⟩)
                go_wp2
                go_round
                case rel => exact ⟨k + 1, 0, rfl, by simp, by omega, H2⟩
                case measure => exact measK hgo
          · have hz' : (z == 0) = false := by simpa using hz
            have H2 := hid (HS.out.keep hz)
            go_wp2
            go_round
            case rel => exact ⟨k + 1, z, rfl, by simp, by omega, H2⟩
            case measure => exact measK hgo
      · have hgo' : ¬ (k : Int) < (n : Int) := by omega
        obtain rfl : k = n := by omega
        obtain ⟨e1, e2⟩ := HD.out z HS.out
        by_cases hz : z = 0
        · subst hz
          obtain ⟨ht, e3⟩ := e2 rfl
          clear e1 e2
          have hw1 : IntKind.i64.wrap (2 * t + 1) = 2 * t + 1 := by rw [IntKind.wrap_i64]; omega
          have hw2 : IntKind.i64.wrap (2 * t) = 2 * t := by rw [IntKind.wrap_i64]; omega
          rcases e3 with ⟨e4, e5⟩ | ⟨e4, e5⟩
          · subst e5
            obtain rfl : v = 0 := HX.out (by decide)
            have hne : ((k : Int) != 2 * t + 1) = true := by simpa using e4
            clear e4
            go_wp2
            go_ret
            exact ⟨rfl, HB.out⟩
          · subst e5
            have hne : ((k : Int) != 2 * t + 1) = false := by rw [e4]; simp
            obtain ⟨hk9, cJ⟩ := cRef.out rfl v (HY.out rfl)
            have CJ := hid cJ
            clear e4 cJ HX HY HS HD
            go_wp2
            go_loopw [12, 68] (fun v x wr => ∃ j : Nat, x = .int .i64 (j : Int) ∧ j ≤ k ∧ Hid (wr.ownsRow w.heap.size 30 2 v j (flatP (mp j XP (co l)))) ∧ Hid (Below w.heap.size w wr)) (fun v x wr => ((k : Int) - intOf x).toNat)
            case atStart => exact ⟨0, rfl, by omega, World.ownsRow_nil _ _ _ _, HB⟩
            case round =>
              obtain ⟨j, rfl, hj, HO, hB⟩ := hrel
              have hsz := hB.out.size
              by_cases hgj : j < k
              · have hgj' : (j : Int) < (k : Int) := by omega
                have hjl : Hid (j < l.length) := by have := HN.out; show j < l.length; omega
                rcases lo with _ | ad
                · exact (irow_none (HR.out _ hB.out) hjl.out).elim
                · have d0 := (HR.out _ hB.out).2 ad rfl j hjl.out
                  have hsn : Hid (flatP (mp (j + 1) XP (co l)) = flatP (mp j XP (co l)) ++ [.int .i64 ((j : Int) + 1), .int .i64 (co l j)]) := by show _ = _; rw [mp_succ, flatP_snoc]; rfl
                  generalize co l j = y at *
                  go_wp2_with (at_builtin; refine wpList_append_own _ rfl _ _ 28 rfl w.heap.size 30 i0 (.agg #[.int .i64 0, .int .i64 0]) 2 16 Try.underlying28 hi hz0 hz1 hz2 rfl (by decide) _ _ _ rfl (HO.out.alloc _) ⟨wr.heap.size, 0, none⟩ 1 1 [.int .i64 ((j : Int) + 1), .int .i64 y] rfl rfl pair_cells (by simp [Value.oneCell']) (by unfold maxLen; omega) (by omega) (by simp; omega) ?_; intro v' w3 hown' hgrow _; have HO3 := hid hown'; have HB3 := hid (below_snoc hB.out (Nat.le_refl _) HO.out hgrow); clear hown' hgrow)
                  go_roundw
                  case rel => exact ⟨j + 1, by simp, by omega, by show World.ownsRow _ _ _ _ _ _ _; rw [hsn.out]; exact HO3.out, HB3⟩
                  case measure => exact measK hgj
              · have hgj' : ¬ (j : Int) < (k : Int) := by omega
                obtain rfl : j = k := by omega
                obtain ⟨po, pc, rfl, hpc, hpr⟩ := prow_owns HO.out
                have HP := hid hpr
                rw [mp_length] at hpc ⊢
                clear hpr
                go_wp2_with (go_at_call 11; refine (CJ.out _ _ _ HP.out).mono ?_; rintro e w4 ⟨rfl, hB4⟩)
                go_ret
                exact ⟨by simp, below_trans hB.out hB4⟩
        · obtain rfl : c = z := e1 hz
          obtain rfl : v = 0 := HX.out hz
          have h1 : (c != 0) = true := by simpa using hz
          have h2 : (c == 0) = false := by simpa using hz
          have h3 : (c == c) = true := by simp
          clear e1 e2 HD HS
          go_wp2
          go_ret
          exact ⟨rfl, HB.out⟩

set_option maxRecDepth 100000 in
theorem lifted (os : Os) (started : os.Started) (H : Type) (enc : TypeId × Value → H) :
    ReturnsInHanded {} Try.checked os 3 .any (Rows.partsOpensSpec.pre6 enc Try.prog Try.f3 Rows.partsOpensRow.domain false) (Rows.partsOpensSpec.post enc Try.prog Try.f3 false true false false) := by
  refine returnsInHanded_of_change (C := Try.checked) own started (by kernel_rfl) Try.func3
    (ChangeSpec.witness6 (enc := enc) (C := Try.checked) false ⟨#[], #[.int .i64 0, .int .i64 0, .slice none 0 0], []⟩ 8 (by kernel_rfl) (by kernel_rfl) (by kernel_rfl) (by kernel_rfl)) ?_
  intro W base args ds gs before hval0 hW hcnd _
  have hval : ∀ (j : Nat) t v, Try.f3.params[j]? = some t → args[j]? = some v → Value.okWide Try.prog W .any base t v := hval0
  have hW' := hW
  obtain ⟨p, q, hA0, hV, rfl, _, _⟩ := hW
  have hA : DataW.TrodAll enc Try.prog W 0 (fun _ => true) true Try.f3.params.toList args.toList ds p := hA0
  rw [Try.params3] at hA hval
  obtain ⟨v0, v1, v2, d0, d1, d2, p0, p1, p2, rfl, rfl, rfl, h0, h1, h2⟩ := trodAll_three hA
  obtain ⟨rfl, rfl⟩ := trodVars_none hV
  obtain ⟨a0, rfl, rfl, rfl, w0⟩ := open_int Try.underlying2 (hval 0 2 v0 rfl rfl) h0
  obtain ⟨a1, rfl, rfl, rfl, w1⟩ := open_int Try.underlying3 (hval 1 3 v1 rfl rfl) h1
  have hsl2 := okWide_slice Try.underlying22 (hval 2 22 v2 rfl rfl)
  clear hA0 hval0
  simp only [List.append_nil, List.nil_append] at hW'
  have hlt2 : ∀ x ∈ p2, x.block < W.heap.size := fun x hx => by simpa using hW'.lt x (by simp [hx])
  have harg2 : ∀ (W' : World), Below W.heap.size W W' → DataW.Trod enc Try.prog W' 0 (fun b => decide (b < W.heap.size)) true 22 v2 d2 p2 :=
    fun W' hn => Below.trod laidOut (by kernel_rfl) (of_decide_eq_true (by kernel_rfl)) h2 hn hlt2
  obtain ⟨o2, c2, l2, rfl, r2, k2, m2⟩ := longs_view Try.underlying22 cells2 Try.underlying2 h2 hsl2
  refine (walk a0 a1 w1 o2 c2 l2 k2 m2 W r2).mono fun e W' ⟨he, hg⟩ => ?_
  subst he
  refine ⟨_, rfl, _, _, _, [], ([] : List MemPlace) ++ (([] : List MemPlace) ++ (p2)), [], hW', ?_, ?_, rfl, hg.frame _, fun h => by cases h⟩
  · exact trodAll_mk1 (shut_bool Try.underlying4 true)
  · exact trodAll_mk3 (shut_int Try.underlying2 w0) (shut_int Try.underlying3 w1) (harg2 _ hg)

theorem over : Rows.partsOpensRow.holds Try.pinned (OpenSpec.ofChange Rows.partsOpensSpec) :=
  OpenClaim.holds_of_wide 3 Try.f3 rfl rfl rfl rfl rfl rfl rfl ⟨rfl, rfl, rfl, rfl, rfl⟩ rfl rfl rfl rfl rfl (by kernel_rfl) Try.func3 (by kernel_rfl)
    (of_decide_eq_true (by kernel_rfl)) (by unfold Func.isWrapper; first | (rw [if_pos (by decide +kernel)]; kernel_rfl) | (rw [if_neg (by decide +kernel)]; exact ⟨rfl, rfl⟩))
    (fun os started H enc _ => lifted os started H enc)

/-- ████ THE STATEMENT ████ -/
theorem proved : Rows.PartsOpensSaid :=
  over

end Go.Proofs.Ytpnmepobdnclkaa.partsOpens
