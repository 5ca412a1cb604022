/-
  For any gates, any inputs and whatever is drawn: what more parties than t have of each gate is enough for its value.
-/
import Derived.Test.YtpnmepobdnclkaaRows
import Derived.Test.YtpnmepobdnclkaaCalls191
import Derived.WalkKit
import Derived.ProofKit
import Derived.OpenShut
import Derived.Carry
namespace Go.Proofs.Ytpnmepobdnclkaa.partsEnough
open Go.ChangeShapes Go.WideShapes Go.ChangeAt Go.RowKit Go.Deep Go.Proofs.Ytpnmepobdnclkaa.Base Go.Proofs.Ytpnmepobdnclkaa.Base2 Go.Proofs.Ytpnmepobdnclkaa.Base4 Go.Proofs.Ytpnmepobdnclkaa.Base10 Go.Proofs.Ytpnmepobdnclkaa.Num Go.Proofs.Ytpnmepobdnclkaa.Num13 Go.Proofs.Ytpnmepobdnclkaa.Num16 Go.Proofs.Ytpnmepobdnclkaa.Num17 Go.Proofs.Ytpnmepobdnclkaa.Num34 Go.Proofs.Ytpnmepobdnclkaa.Num35 Go.Proofs.Ytpnmepobdnclkaa.Num39 Go.Proofs.Ytpnmepobdnclkaa.Num61 Go.Proofs.Ytpnmepobdnclkaa.Num69 Go.Proofs.Ytpnmepobdnclkaa.Calls56 Go.Proofs.Ytpnmepobdnclkaa.Calls176 Go.Proofs.Ytpnmepobdnclkaa.Calls177 Go.Proofs.Ytpnmepobdnclkaa.Base5 Go.Proofs.Ytpnmepobdnclkaa.Num70 Go.Proofs.Ytpnmepobdnclkaa.Calls69 Go.Proofs.Ytpnmepobdnclkaa.Calls182 Go.Proofs.Ytpnmepobdnclkaa.Calls183 Go.Proofs.Ytpnmepobdnclkaa.Calls184 Go.Proofs.Ytpnmepobdnclkaa.Calls189 Go.Proofs.Ytpnmepobdnclkaa.Calls190 Go.Proofs.Ytpnmepobdnclkaa.Calls191
set_option linter.unusedVariables false

theorem own : ownKnob Try.prog.godebug = none := by kernel_rfl

theorem laidOut : laidOutB Try.prog = true := by kernel_rfl

theorem cells2 : Try.prog.cellsOf 2 = 1 := by kernel_rfl

theorem cells_D : Try.prog.cellsOf 54 = 4 := by kernel_rfl

theorem cells3 : Try.prog.cellsOf 3 = 1 := by kernel_rfl

open Go.Proofs.Ytpnmepobdnclkaa.Calls87 (ib)
open Go.Proofs.Ytpnmepobdnclkaa.Calls62 (RetE)
open Go.Proofs.Ytpnmepobdnclkaa.Calls90 (InM)
open Go.Proofs.Ytpnmepobdnclkaa.Calls179 (ratb)
open Go.Proofs.Ytpnmepobdnclkaa.Calls87 (infoPt_ex prow_owns RetP)
open Go.Proofs.Ytpnmepobdnclkaa.Calls88 (flatP_snoc pair_cells below_snoc)
open Go.Proofs.Ytpnmepobdnclkaa.Calls94 (fewL few_any)

set_option maxRecDepth 100000 in
set_option maxHeartbeats 1000000 in
theorem walk (p t : Int) (wt : (Lit.int .i64 t).wf = true) (go : Option Addr) (cg n : Nat) (F : Nat → Nat → Int) (bg : ∀ i, i < n → ∀ j, j < 4 → (Lit.int .i64 (F i j)).wf = true) (kg : n ≤ cg) (mg : n ≤ 9223372036854775807) (lo : Option Addr) (cl : Nat) (l : List Int) (kl : l.length ≤ cl) (ml : l.length ≤ 9223372036854775807) (ro : Option Addr) (cr : Nat) (R : List Int) (kr : R.length ≤ cr) (mr : R.length ≤ 9223372036854775807) (u : Int) (wu : (Lit.int .u32 u).wf = true) (w : World) (hg : GRow w go 4 n F) (hrow : IRow w lo l) (hrnd : IRow w ro R) :
    Calls Try.prog 7 #[.int .i64 p, .int .i64 t, .slice go n cg, .slice lo l.length cl, .slice ro R.length cr, .int .u32 u] w fun e w' => e = .returned (.bool true) ∧ Below w.heap.size w w' := by
  obtain ⟨i0, hi, hz0, hz1, hz2⟩ := infoPt_ex
  obtain ⟨M, hM, rfl⟩ : ∃ M : Nat, M < 4294967296 ∧ u = (M : Int) := by
    simp [Lit.wf] at wu
    have m0 : IntKind.u32.min = 0 := by decide
    have m1 : IntKind.u32.max = 4294967295 := by decide
    exact ⟨u.toNat, by omega, by omega⟩
  obtain ⟨c, hc⟩ := gc_ex p n F l
  have cG := hid (fun w1 (hB : Below w.heap.size w w1) => refGatesCheck_any p go lo n cg cl F l c hc w1 (ib hrow hB) (gb hg hB))
  by_cases h0 : c = 0
  · subst h0
    obtain ⟨hp, hn, hl, hI, hG⟩ := hc.ok
    obtain ⟨P, rfl, hP, hP2⟩ := hp.ok
    have hP1 := hP.1
    have cC := Clear_yes P hP1 hP2 go lo n cg cl F l hc w hrow hg
    obtain ⟨d, hd⟩ := plc_ex (P : Int) t n F l R
    by_cases h1 : d = 0
    · subst h1
      obtain ⟨P', T, r, e1, rfl, _, _, hT, hTP, _, hr, hone⟩ := play_of hd
      obtain rfl : P = P' := by omega
      have cP := hid (fun w1 (hB : Below w.heap.size w w1) => Play_yes P hP hP2 T go lo ro n cg cl cr F l R mr kr hd r hr w1 (ib hrow hB) (ib hrnd hB) (gb hg hB))
      have hlen := clr_length P l F n
      have hlen2 := rows_length P T l R r F n
      have hrl := hid (fun i (hi : i < n) => (hone i hi).2.1)
      have cF := hid (fun (i : Nat) (ao : Option Addr) (cap : Nat) (W : World) (hr : PRow W ao (mp (2 * T + 1) XP (co (rwl (rows P T l R r F n) i)))) => few_any ao cap (mp (2 * T + 1) XP (co (rwl (rows P T l R r F n) i))) (by rw [mp_length]; omega) M hM W hr)
      have cJ := hid (fun (i : Nat) (hi : i < n) (s : List (Int × Int)) (hs : s = fewL M (mp (2 * T + 1) XP (co (rwl (rows P T l R r F n) i))) (min (2 * T + 1) 32)) (hm : T < s.length) ao cap W hrow => one_few hP hP2 hTP hT (hone i hi) M hs hm ao cap W hrow)
      unfold RetP at cF
      simp only [mp_length] at cF
      obtain ⟨Q, hQ⟩ : ∃ Q, Q = 2 * T + 1 := ⟨_, rfl⟩
      have hne : ((Q : Int) != 2 * (T : Int) + 1) = false := by have : (Q : Int) = 2 * (T : Int) + 1 := by omega
                                                                rw [this]; simp
      have hQ9 : Q ≤ 9 := by omega
      rw [← hQ] at cF cJ hrl
      unfold RetE at cC
      unfold RetTE at cP
      simp only [hlen] at cC
      simp only [hlen2] at cP
      have HLn := hid hlen
      have HLm := hid hlen2
      generalize clr P l F n = A at *
      generalize rows P T l R r F n = B at *
      generalize l.length = nl at *
      generalize R.length = nr at *
      have hnn : ((n : Int) != (n : Int)) = false := by simp
      clear hc hI hG hrow hrnd hg bg hlen hlen2 hd hr hone cG hQ
      go_enter Try.func7, Try.ntmps7
      go_wp2_with (first
        | (go_at_call 12; refine cC.mono ?_; rintro e w1 ⟨⟨b1, k1, rfl, _, hr1⟩, hB1⟩; have HB1 := hid hB1; have HR1 := hid hr1; clear hB1 hr1)
        | (go_at_call 16; refine (cP.out w1 HB1.out).mono ?_; rintro e w2 ⟨⟨b2, k2, rfl, _, hr2⟩, hB2⟩; have HB2 := hid (below_trans HB1.out hB2); have HR2 := hid hr2; have HR3 := hid (ib HR1.out hB2); clear hB2 hr2))
      clear HR1 HB1 cC cP
      go_loopw [17] (fun i wr => ∃ k : Nat, i = .int .i64 (k : Int) ∧ k ≤ n ∧ Hid (Below w2.heap.size w2 wr)) (fun i wr => ((n : Int) - intOf i).toNat)
      case atStart => exact ⟨0, rfl, by omega, Below.refl _ _⟩
      case round =>
        obtain ⟨k, rfl, hk, hB⟩ := hrel
        by_cases hgo : k < n
        · have hgo' : (k : Int) < (n : Int) := by omega
          have hkA : Hid (k < A.length) := by have := HLn.out; show k < A.length; omega
          have hkB : Hid (k < B.length) := by have := HLm.out; show k < B.length; omega
          rcases b1 with _ | a1
          · exact (irow_none HR3.out hkA.out).elim
          rcases b2 with _ | a2
          · exact (rrow_none HR2.out hkB.out).elim
          obtain ⟨xo, xc, c1, r1, _, _⟩ := ratb (HR2.out.2 a2 rfl k hkB.out) hB.out
          have el : (rw' B k).length = Q := hrl.out k hgo
          have cFk := hid (cF.out k)
          have cJk := hid (cJ.out k hgo)
          have HV := hid (fun W (hBW : Below w2.heap.size w2 W) => (ib HR3.out hBW).2 a1 rfl k hkA.out)
          have HC := hid (fun W (hBW : Below wr.heap.size wr W) => (hBW.cell (p := a2.add k) (cell_lt c1)).trans c1)
          have HX := hid (fun W (hBW : Below wr.heap.size wr W) => ib r1 hBW)
          have eY : rwl B k = rw' B k := rfl
          rw [eY] at cFk cJk
          have hYl : Hid (Q = (rw' B k).length) := el.symm
          rw [el] at c1 HC
          generalize rw' B k = Y at *
          clear r1 el
          go_wp2
          obtain ⟨W0, hW0⟩ : ∃ W0, W0 = wr := ⟨_, rfl⟩
          subst hW0
          go_loopw [18, 19] (fun v i wr => ∃ j : Nat, i = .int .i64 (j : Int) ∧ j ≤ Q ∧ Hid (wr.ownsRow W0.heap.size 30 2 v j (flatP (mp j XP (co Y)))) ∧ Hid (Below W0.heap.size W0 wr)) (fun v i wr => ((Q : Int) - intOf i).toNat)
          case atStart => exact ⟨0, rfl, by omega, World.ownsRow_nil _ _ _ _, Below.refl _ _⟩
          case round =>
            obtain ⟨j, rfl, hj, hO, hBs⟩ := hrel
            have hss := hBs.out.size
            have e1 := HC.out wr hBs.out
            by_cases hgj : j < Q
            · have hgj' : (j : Int) < (Q : Int) := by omega
              have hjY : Hid (j < Y.length) := by have := hYl.out; show j < Y.length; omega
              rcases xo with _ | ax
              · exact (irow_none (HX.out wr hBs.out) hjY.out).elim
              · have e2 := (HX.out wr hBs.out).2 ax rfl j hjY.out
                have hsn : Hid (flatP (mp (j + 1) XP (co Y)) = flatP (mp j XP (co Y)) ++ [.int .i64 ((j : Int) + 1), .int .i64 (co Y j)]) := by show _ = _; rw [mp_succ, flatP_snoc]; rfl
                generalize co Y j = y at *
                go_wp2_with (at_builtin; refine wpList_append_own _ rfl _ _ 28 rfl W0.heap.size 30 i0 (.agg #[.int .i64 0, .int .i64 0]) 2 16 Try.underlying28 hi hz0 hz1 hz2 rfl (by decide) _ _ _ rfl (hO.out.alloc _) ⟨wr.heap.size, 0, none⟩ 1 1 [.int .i64 ((j : Int) + 1), .int .i64 y] rfl rfl pair_cells (by simp [Value.oneCell']) (by unfold maxLen; omega) (by omega) (by simp; omega) ?_; intro v' w3 hown' hgrow _; have HO3 := hid hown'; have HB3 := hid (below_snoc hBs.out (Nat.le_refl _) hO.out hgrow); clear hown' hgrow)
                go_roundw
                case rel => exact ⟨j + 1, by simp, by omega, by show World.ownsRow _ _ _ _ _ _ _; rw [hsn.out]; exact HO3.out, HB3⟩
                case measure => exact measK hgj
            · have hgj' : ¬ (j : Int) < (Q : Int) := by omega
              obtain rfl : j = Q := by omega
              obtain ⟨po, pc, rfl, hpc, hpr⟩ := prow_owns hO.out
              rw [mp_length] at hpc ⊢
              have cK := hid (cFk.out po pc wr hpr)
              clear hpr
              obtain ⟨S, hS⟩ : ∃ S, S = fewL M (mp j XP (co Y)) (min j 32) := ⟨_, rfl⟩
              have cJS := hid (cJk.out S hS)
              rw [← hS] at cK
              clear hS cJk cFk
              obtain ⟨q, hq⟩ : ∃ q, q = S.length := ⟨_, rfl⟩
              rw [← hq] at cK cJS
              clear hq
              by_cases g1 : T < q
              · have g1' : (T : Int) < (q : Int) := by omega
                have cJT := hid (cJS.out g1)
                generalize co A k = v at *
                have hvv : (v != v) = false := by simp
                go_wp2_with (go_at_call 19; refine cK.out.mono ?_; rintro e w3 ⟨⟨o3, c3, rfl, _, hr3⟩, hB3⟩; have HB3 := hid (below_trans hBs.out hB3); have HP3 := hid hr3; have d0 := HV.out w3 (below_trans hB.out HB3.out); clear hB3 hr3)
                go_region_held3 (fun w' => w'.cell? (a1.add k) = some (.int .i64 v)) (first | exact d0 | exact d1)
                  (first
                    | (go_at_call 11; refine (cJT.out _ _ _ (by exact HP3.out)).mono ?_; rintro e w4 ⟨rfl, hB4⟩; have HB4 : Hid (Below W0.heap.size W0 w4) := (by first | exact below_trans HB3.out.drew hB4 | exact below_trans (below_drewN HB3.out _) hB4 | exact below_trans HB3.out hB4); have d1 := HV.out w4 (below_trans hB.out HB4.out); clear hB4))
                all_goals
                  go_wp2
                  go_roundw
                  case rel => exact ⟨k + 1, by simp, by omega, below_trans hB.out HB4.out⟩
                  case measure => exact measK hgo
              · have g1' : decide ((T : Int) < (q : Int)) = false := by simp; omega
                go_wp2_with (go_at_call 19; refine cK.out.mono ?_; rintro e w3 ⟨⟨o3, c3, rfl, _, hr3⟩, hB3⟩; have HB3 := hid (below_trans hBs.out hB3); clear hB3 hr3)
                go_quiet (fail)
                go_wp2
                go_roundw
                case rel => exact ⟨k + 1, by simp, by omega, below_drewN (below_trans hB.out HB3.out) _⟩
                case measure => exact measK hgo
        · have hgo' : ¬ (k : Int) < (n : Int) := by omega
          go_wp2
          go_ret
          exact ⟨rfl, below_trans HB2.out hB.out⟩
    · have cP := hid (fun w1 (hB : Below w.heap.size w w1) => Play_bad (P : Int) t go lo ro n cg cl cr F l R mr d hd h1 w1 (ib hrow hB) (ib hrnd hB) (gb hg hB))
      unfold RetE at cC
      have h2 : (d != 0) = true := by simpa using h1
      have h3 : (d == 0) = false := by simpa using h1
      generalize (clr P l F n).length = nA at *
      generalize l.length = nl at *
      generalize R.length = nr at *
      clear hc hI hG hrow hrnd hg bg hd
      go_enter Try.func7, Try.ntmps7
      go_wp2_with (first
        | (go_at_call 12; refine cC.mono ?_; rintro e w1 ⟨⟨b1, k1, rfl, _, hr1⟩, hB1⟩; have HB1 := hid hB1; clear hB1 hr1)
        | (go_at_call 16; refine (cP.out w1 HB1.out).mono ?_; rintro e w2 ⟨rfl, hB2⟩; have HB2 := hid (below_trans HB1.out hB2); clear hB2))
      go_ret
      exact ⟨rfl, HB2.out⟩
  · have cC := Clear_bad p go lo n cg cl F l c hc h0 w hrow hg
    have cP := hid (fun w1 (hB : Below w.heap.size w w1) => Play_bad p t go lo ro n cg cl cr F l R mr c (.inl ⟨hc, h0⟩) h0 w1 (ib hrow hB) (ib hrnd hB) (gb hg hB))
    have h1 : (c != 0) = true := by simpa using h0
    have h2 : (c == 0) = false := by simpa using h0
    generalize l.length = nl at *
    generalize R.length = nr at *
    clear hc hrow hrnd hg bg cG
    go_enter Try.func7, Try.ntmps7
    go_wp2_with (first
      | (go_at_call 12; refine cC.mono ?_; rintro e w1 ⟨rfl, hB1⟩; have HB1 := hid hB1; clear hB1)
      | (go_at_call 16; refine (cP.out w1 HB1.out).mono ?_; rintro e w2 ⟨rfl, hB2⟩; have HB2 := hid (below_trans HB1.out hB2); clear hB2))
    go_ret
    exact ⟨rfl, HB2.out⟩

theorem trodAll_six {H : Type} {enc : TypeId × Value → H} {P : Program} {w : World} {base : Nat} {spare : Nat → Bool} {held : Bool} {t0 t1 t2 t3 t4 t5 : TypeId} {args : Array Value} {ds : List (DataW H)} {ps : List MemPlace} (h : DataW.TrodAll enc P w base spare held [t0, t1, t2, t3, t4, t5] args.toList ds ps) :
    ∃ v0 v1 v2 v3 v4 v5 d0 d1 d2 d3 d4 d5 p0 p1 p2 p3 p4 p5, args = #[v0, v1, v2, v3, v4, v5] ∧ ds = [d0, d1, d2, d3, d4, d5] ∧ ps = p0 ++ p1 ++ p2 ++ p3 ++ p4 ++ p5 ∧ DataW.Trod enc P w base spare held t0 v0 d0 p0 ∧ DataW.Trod enc P w base spare held t1 v1 d1 p1 ∧ DataW.Trod enc P w base spare held t2 v2 d2 p2 ∧ DataW.Trod enc P w base spare held t3 v3 d3 p3 ∧ DataW.Trod enc P w base spare held t4 v4 d4 p4 ∧ DataW.Trod enc P w base spare held t5 v5 d5 p5 := by
  obtain ⟨v0, vs0, d0, ds0, p0, q0, hargs, rfl, rfl, hd0, hrest0⟩ := trodAll_cons h
  obtain ⟨v1, vs1, d1, ds1, p1, q1, rfl, rfl, rfl, hd1, hrest1⟩ := trodAll_cons hrest0
  obtain ⟨v2, vs2, d2, ds2, p2, q2, rfl, rfl, rfl, hd2, hrest2⟩ := trodAll_cons hrest1
  obtain ⟨v3, vs3, d3, ds3, p3, q3, rfl, rfl, rfl, hd3, hrest3⟩ := trodAll_cons hrest2
  obtain ⟨v4, vs4, d4, ds4, p4, q4, rfl, rfl, rfl, hd4, hrest4⟩ := trodAll_cons hrest3
  obtain ⟨v5, vs5, d5, ds5, p5, q5, rfl, rfl, rfl, hd5, hrest5⟩ := trodAll_cons hrest4
  obtain ⟨rfl, rfl, rfl⟩ := trodAll_nil hrest5
  exact ⟨v0, v1, v2, v3, v4, v5, d0, d1, d2, d3, d4, d5, p0, p1, p2, p3, p4, p5, by cases args; simp_all, rfl, by simp, hd0, hd1, hd2, hd3, hd4, hd5⟩

theorem trodAll_mk5 {H : Type} {enc : TypeId × Value → H} {P : Program} {w : World} {base : Nat} {spare : Nat → Bool} {held : Bool} {t0 t1 t2 t3 t4 : TypeId} {v0 v1 v2 v3 v4 : Value} {d0 d1 d2 d3 d4 : DataW H} {p0 p1 p2 p3 p4 : List MemPlace} (h0 : DataW.Trod enc P w base spare held t0 v0 d0 p0) (h1 : DataW.Trod enc P w base spare held t1 v1 d1 p1) (h2 : DataW.Trod enc P w base spare held t2 v2 d2 p2) (h3 : DataW.Trod enc P w base spare held t3 v3 d3 p3) (h4 : DataW.Trod enc P w base spare held t4 v4 d4 p4) : DataW.TrodAll enc P w base spare held [t0, t1, t2, t3, t4] [v0, v1, v2, v3, v4] [d0, d1, d2, d3, d4] (p0 ++ (p1 ++ (p2 ++ (p3 ++ (p4))))) := ⟨p0, p1 ++ (p2 ++ (p3 ++ (p4))), h0, trodAll_mk4 h1 h2 h3 h4, rfl⟩

theorem trodAll_mk6 {H : Type} {enc : TypeId × Value → H} {P : Program} {w : World} {base : Nat} {spare : Nat → Bool} {held : Bool} {t0 t1 t2 t3 t4 t5 : TypeId} {v0 v1 v2 v3 v4 v5 : Value} {d0 d1 d2 d3 d4 d5 : DataW H} {p0 p1 p2 p3 p4 p5 : List MemPlace} (h0 : DataW.Trod enc P w base spare held t0 v0 d0 p0) (h1 : DataW.Trod enc P w base spare held t1 v1 d1 p1) (h2 : DataW.Trod enc P w base spare held t2 v2 d2 p2) (h3 : DataW.Trod enc P w base spare held t3 v3 d3 p3) (h4 : DataW.Trod enc P w base spare held t4 v4 d4 p4) (h5 : DataW.Trod enc P w base spare held t5 v5 d5 p5) : DataW.TrodAll enc P w base spare held [t0, t1, t2, t3, t4, t5] [v0, v1, v2, v3, v4, v5] [d0, d1, d2, d3, d4, d5] (p0 ++ (p1 ++ (p2 ++ (p3 ++ (p4 ++ (p5)))))) := ⟨p0, p1 ++ (p2 ++ (p3 ++ (p4 ++ (p5)))), h0, trodAll_mk5 h1 h2 h3 h4 h5, rfl⟩

set_option maxRecDepth 100000 in
theorem lifted (os : Os) (started : os.Started) (H : Type) (enc : TypeId × Value → H) :
    ReturnsInHanded {} Try.checked os 7 .any (Rows.partsEnoughSpec.pre6 enc Try.prog Try.f7 Rows.partsEnoughRow.domain false) (Rows.partsEnoughSpec.post enc Try.prog Try.f7 false true false false) := by
  refine returnsInHanded_of_change (C := Try.checked) own started (by kernel_rfl) Try.func7
    (ChangeSpec.witness6 (enc := enc) (C := Try.checked) false ⟨#[], #[.int .i64 0, .int .i64 0, .slice none 0 0, .slice none 0 0, .slice none 0 0, .int .u32 0], []⟩ 8 (by kernel_rfl) (by kernel_rfl) (by kernel_rfl) (by kernel_rfl)) ?_
  intro W base args ds gs before hval0 hW hcnd _
  have hval : ∀ (j : Nat) t v, Try.f7.params[j]? = some t → args[j]? = some v → Value.okWide Try.prog W .any base t v := hval0
  have hW' := hW
  obtain ⟨p, q, hA0, hV, rfl, _, _⟩ := hW
  have hA : DataW.TrodAll enc Try.prog W 0 (fun _ => true) true Try.f7.params.toList args.toList ds p := hA0
  rw [Try.params7] at hA hval
  obtain ⟨v0, v1, v2, v3, v4, v5, d0, d1, d2, d3, d4, d5, p0, p1, p2, p3, p4, p5, rfl, rfl, rfl, h0, h1, h2, h3, h4, h5⟩ := trodAll_six hA
  obtain ⟨rfl, rfl⟩ := trodVars_none hV
  obtain ⟨a0, rfl, rfl, rfl, w0⟩ := open_int Try.underlying2 (hval 0 2 v0 rfl rfl) h0
  obtain ⟨a1, rfl, rfl, rfl, w1⟩ := open_int Try.underlying3 (hval 1 3 v1 rfl rfl) h1
  have hsl2 := okWide_slice Try.underlying33 (hval 2 33 v2 rfl rfl)
  have hsl3 := okWide_slice Try.underlying22 (hval 3 22 v3 rfl rfl)
  have hsl4 := okWide_slice Try.underlying22 (hval 4 22 v4 rfl rfl)
  obtain ⟨a5, rfl, rfl, rfl, w5⟩ := open_int Try.underlying46 (hval 5 46 v5 rfl rfl) h5
  clear hA0 hval0
  simp only [List.append_nil, List.nil_append] at hW'
  have hlt2 : ∀ x ∈ p2, x.block < W.heap.size := fun x hx => by simpa using hW'.lt x (by simp [hx])
  have harg2 : ∀ (W' : World), Below W.heap.size W W' → DataW.Trod enc Try.prog W' 0 (fun b => decide (b < W.heap.size)) true 33 v2 d2 p2 :=
    fun W' hn => Below.trod laidOut (by kernel_rfl) (of_decide_eq_true (by kernel_rfl)) h2 hn hlt2
  obtain ⟨o2, c2, l2, F2, rfl, r2, b2, k2, m2⟩ := grid_view Try.underlying33 Try.underlying54 (numFs4 rfl rfl rfl rfl ⟨cells3, Try.underlying3⟩ ⟨cells3, Try.underlying3⟩ ⟨cells3, Try.underlying3⟩ ⟨cells2, Try.underlying2⟩) rfl cells_D h2 hsl2
  have hlt3 : ∀ x ∈ p3, x.block < W.heap.size := fun x hx => by simpa using hW'.lt x (by simp [hx])
  have harg3 : ∀ (W' : World), Below W.heap.size W W' → DataW.Trod enc Try.prog W' 0 (fun b => decide (b < W.heap.size)) true 22 v3 d3 p3 :=
    fun W' hn => Below.trod laidOut (by kernel_rfl) (of_decide_eq_true (by kernel_rfl)) h3 hn hlt3
  obtain ⟨o3, c3, l3, rfl, r3, k3, m3⟩ := longs_view Try.underlying22 cells2 Try.underlying2 h3 hsl3
  have hlt4 : ∀ x ∈ p4, x.block < W.heap.size := fun x hx => by simpa using hW'.lt x (by simp [hx])
  have harg4 : ∀ (W' : World), Below W.heap.size W W' → DataW.Trod enc Try.prog W' 0 (fun b => decide (b < W.heap.size)) true 22 v4 d4 p4 :=
    fun W' hn => Below.trod laidOut (by kernel_rfl) (of_decide_eq_true (by kernel_rfl)) h4 hn hlt4
  obtain ⟨o4, c4, l4, rfl, r4, k4, m4⟩ := longs_view Try.underlying22 cells2 Try.underlying2 h4 hsl4
  refine (walk a0 a1 w1 o2 c2 l2 F2 b2 k2 m2 o3 c3 l3 k3 m3 o4 c4 l4 k4 m4 a5 w5 W r2 r3 r4).mono fun e W' ⟨he, hg⟩ => ?_
  subst he
  refine ⟨_, rfl, _, _, _, [], ([] : List MemPlace) ++ (([] : List MemPlace) ++ (p2 ++ (p3 ++ (p4 ++ (([] : List MemPlace)))))), [], hW', ?_, ?_, rfl, hg.frame _, fun h => by cases h⟩
  · exact trodAll_mk1 (shut_bool Try.underlying4 true)
  · exact trodAll_mk6 (shut_int Try.underlying2 w0) (shut_int Try.underlying3 w1) (harg2 _ hg) (harg3 _ hg) (harg4 _ hg) (shut_int Try.underlying46 w5)

theorem over : Rows.partsEnoughRow.holds Try.pinned (OpenSpec.ofChange Rows.partsEnoughSpec) :=
  OpenClaim.holds_of_wide 7 Try.f7 rfl rfl rfl rfl rfl rfl rfl ⟨rfl, rfl, rfl, rfl, rfl⟩ rfl rfl rfl rfl rfl (by kernel_rfl) Try.func7 (by kernel_rfl)
    (of_decide_eq_true (by kernel_rfl)) (by unfold Func.isWrapper; first | (rw [if_pos (by decide +kernel)]; kernel_rfl) | (rw [if_neg (by decide +kernel)]; exact ⟨rfl, rfl⟩))
    (fun os started H enc _ => lifted os started H enc)

/-- ████ THE STATEMENT ████ -/
theorem proved : Rows.PartsEnoughSaid :=
  over

end Go.Proofs.Ytpnmepobdnclkaa.partsEnough
