/-
  For any gates, any inputs and any random numbers the program tells all shares of all values, and what is wrong.
-/
import Derived.Test.YtpnmepobdnclkaaRows
import Derived.Test.YtpnmepobdnclkaaCalls191
import Derived.Test.YtpnmepobdnclkaaCalls192
import Derived.WalkKit
import Derived.ProofKit
import Derived.OpenShut
import Derived.Carry
namespace Go.Proofs.Ytpnmepobdnclkaa.partsPlays
open Go.ChangeShapes Go.WideShapes Go.ChangeAt Go.RowKit Go.Deep Go.Proofs.Ytpnmepobdnclkaa.Base Go.Proofs.Ytpnmepobdnclkaa.Base2 Go.Proofs.Ytpnmepobdnclkaa.Base4 Go.Proofs.Ytpnmepobdnclkaa.Base10 Go.Proofs.Ytpnmepobdnclkaa.Num Go.Proofs.Ytpnmepobdnclkaa.Num13 Go.Proofs.Ytpnmepobdnclkaa.Num16 Go.Proofs.Ytpnmepobdnclkaa.Num17 Go.Proofs.Ytpnmepobdnclkaa.Num34 Go.Proofs.Ytpnmepobdnclkaa.Num35 Go.Proofs.Ytpnmepobdnclkaa.Num39 Go.Proofs.Ytpnmepobdnclkaa.Num61 Go.Proofs.Ytpnmepobdnclkaa.Num69 Go.Proofs.Ytpnmepobdnclkaa.Calls56 Go.Proofs.Ytpnmepobdnclkaa.Calls176 Go.Proofs.Ytpnmepobdnclkaa.Calls177 Go.Proofs.Ytpnmepobdnclkaa.Base5 Go.Proofs.Ytpnmepobdnclkaa.Num70 Go.Proofs.Ytpnmepobdnclkaa.Calls182 Go.Proofs.Ytpnmepobdnclkaa.Calls183 Go.Proofs.Ytpnmepobdnclkaa.Calls184 Go.Proofs.Ytpnmepobdnclkaa.Calls189 Go.Proofs.Ytpnmepobdnclkaa.Calls190 Go.Proofs.Ytpnmepobdnclkaa.Calls191 Go.Proofs.Ytpnmepobdnclkaa.Calls192
set_option linter.unusedVariables false

theorem own : ownKnob Try.prog.godebug = none := by kernel_rfl

theorem laidOut : laidOutB Try.prog = true := by kernel_rfl

theorem cells2 : Try.prog.cellsOf 2 = 1 := by kernel_rfl

theorem cells_D : Try.prog.cellsOf 54 = 4 := by kernel_rfl

theorem cells3 : Try.prog.cellsOf 3 = 1 := by kernel_rfl

open Go.Proofs.Ytpnmepobdnclkaa.Calls87 (ib)
open Go.Proofs.Ytpnmepobdnclkaa.Calls90 (InM)
open Go.Proofs.Ytpnmepobdnclkaa.Calls176 (inm_next)
open Go.Proofs.Ytpnmepobdnclkaa.Calls179 (Table_same)

/-- The code behind the first k numbers. -/
def LS (z0 p : Int) (R : List Int) (k : Nat) (z : Int) : Prop := (InM p R k ∧ z = z0) ∨ (¬ InM p R k ∧ z = 2)

theorem LS.good {z0 p z : Int} {R : List Int} {k : Nat} (h : LS z0 p R k z) (hy : 0 ≤ co R k ∧ co R k < p) : LS z0 p R (k + 1) z := by
  rcases h with ⟨h1, h2⟩ | ⟨h1, h2⟩
  · exact .inl ⟨inm_next h1 hy, h2⟩
  · exact .inr ⟨fun h => h1 (fun j hj => h j (by omega)), h2⟩

theorem LS.bad {z0 p z : Int} {R : List Int} {k : Nat} (hy : ¬ (0 ≤ co R k ∧ co R k < p)) : LS z0 p R (k + 1) 2 := .inr ⟨fun h => hy (h k (by omega)), rfl⟩

theorem LS.done {p t z0 z d : Int} {n : Nat} {F : Nat → Nat → Int} {l R : List Int} (hg : GC p n F l 0) (hd : PlC p t n F l R d) (ht : TC p t z0) (h : LS z0 p R R.length z) : z = d := by
  rcases hd with ⟨h2, h1⟩ | ⟨_, h1⟩
  · obtain ⟨hp, hn, hl, hI, hG⟩ := hg.ok
    rcases h2 with ⟨a1, a2⟩ | ⟨a1, ⟨a2, a3⟩ | ⟨a2, ⟨a3, a4⟩ | ⟨a3, a4⟩⟩⟩
    · exact absurd (Go.Proofs.Ytpnmepobdnclkaa.Calls90.prc_uniq a1 hp) a2
    · omega
    · exact absurd hI a3
    · rw [a4] at h1
      exact absurd (gks_zero.2 hG) h1
  · rcases h1 with ⟨⟨a1, a2⟩, rfl⟩ | ⟨a1, rfl⟩
    · rcases h with ⟨_, rfl⟩ | ⟨b1, _⟩
      · rcases ht with ⟨b1, _⟩ | ⟨_, rfl⟩
        · exact absurd a1 b1
        · rfl
      · exact absurd a2 b1
    · rcases h with ⟨b1, rfl⟩ | ⟨_, rfl⟩
      · rcases ht with ⟨_, rfl⟩ | ⟨b2, _⟩
        · rfl
        · exact absurd ⟨b2, b1⟩ a1
      · rfl

set_option maxRecDepth 100000 in
set_option maxHeartbeats 1000000 in
theorem walk (p t : Int) (wt : (Lit.int .i64 t).wf = true) (go : Option Addr) (cg n : Nat) (F : Nat → Nat → Int) (bg : ∀ i, i < n → ∀ j, j < 4 → (Lit.int .i64 (F i j)).wf = true) (kg : n ≤ cg) (mg : n ≤ 9223372036854775807) (lo : Option Addr) (cl : Nat) (l : List Int) (kl : l.length ≤ cl) (ml : l.length ≤ 9223372036854775807) (ro : Option Addr) (cr : Nat) (R : List Int) (kr : R.length ≤ cr) (mr : R.length ≤ 9223372036854775807) (w : World) (hg : GRow w go 4 n F) (hrow : IRow w lo l) (hrnd : IRow w ro R) :
    Calls Try.prog 5 #[.int .i64 p, .int .i64 t, .slice go n cg, .slice lo l.length cl, .slice ro R.length cr] w fun e w' => e = .returned (.bool true) ∧ Below w.heap.size w w' := by
  obtain ⟨c, hc⟩ := gc_ex p n F l
  have cG := hid (fun w1 (hB : Below w.heap.size w w1) => refGatesCheck_any p go lo n cg cl F l c hc w1 (ib hrow hB) (gb hg hB))
  by_cases h0 : c = 0
  · subst h0
    obtain ⟨tc, htc⟩ := tc_ex p t
    have cTc := fun w' => refPartiesCheck_any p t tc htc w'
    obtain ⟨d, hd⟩ := plc_ex p t n F l R
    have HD := hid (fun z (hz : LS tc p R R.length z) => LS.done hc hd htc hz)
    have HRr := hid (fun W (hB : Below w.heap.size w W) => ib hrnd hB)
    by_cases h1 : d = 0
    · subst h1
      obtain ⟨P, T, r, rfl, rfl, hP, hP2, hT, hTP, hn60, hr, hone⟩ := play_of hd
      have cP := Play_yes P hP hP2 T go lo ro n cg cl cr F l R mr kr hd r hr w hrow hrnd hg
      have cR := hid (fun w1 (hB : Below w.heap.size w w1) => refParts_any P hP hP2 T go lo ro n cg cl cr F l R mr hd r hr w1 (ib hrow hB) (ib hrnd hB) (gb hg hB))
      have hlen := rows_length P T l R r F n
      have cL := hid (fun (ao bo : Option Addr) (ca cb : Nat) (W : World) (ra : RRow W ao (rows P T l R r F n)) (rb : RRow W bo (rows P T l R r F n)) => Table_same ao bo ca cb (rows P T l R r F n) (by omega) W ra rb)
      unfold RetTE at cP
      unfold RetT at cR
      simp only [hlen] at cP cR cL
      generalize rows P T l R r F n = L at *
      generalize l.length = nl at *
      obtain ⟨nr, hnr⟩ : ∃ nr, nr = R.length := ⟨_, rfl⟩
      have HNR := hid hnr
      rw [← hnr] at HD cP cR mr ⊢
      clear hc hrow hrnd hg bg hlen hd hr hone htc hnr
      go_enter Try.func5, Try.ntmps5
      go_wp2_with (first
        | (go_at_call 16; refine cP.mono ?_; rintro e w1 ⟨⟨b1, k1, rfl, _, hr1⟩, hB1⟩; have HB1 := hid hB1; have HR1 := hid hr1; clear hB1 hr1)
        | (go_at_call 13; refine (cG.out w1 HB1.out).mono ?_; rintro e w2 ⟨rfl, hB2⟩; have HB2 := hid (below_trans HB1.out hB2); have HR2 := hid (rrow_below HR1.out hB2 (Nat.le_refl _)); clear hB2)
        | (go_at_call 10; refine (cTc _).mono ?_; rintro e w' ⟨rfl, hw⟩; subst w'))
      clear HR1 HB1 cP cTc cG
      go_loop [13, 36] (fun vx vi => ∃ (k : Nat) (z : Int), vx = .int .i64 z ∧ vi = .int .i64 (k : Int) ∧ k ≤ nr ∧ Hid (LS tc (P : Int) R k z)) (fun vx vi => ((nr : Int) - intOf vi).toNat)
      case atStart => exact ⟨0, _, rfl, rfl, by omega, .inl ⟨fun j hj => absurd hj (by omega), rfl⟩⟩
      case round =>
        obtain ⟨k, z, rfl, rfl, hk, HS⟩ := hrel
        by_cases hgo : k < nr
        · have hgo' : (k : Int) < (nr : Int) := by omega
          have hkl : Hid (k < R.length) := by have := HNR.out; show k < R.length; omega
          rcases ro with _ | ad
          · exact (irow_none (HRr.out _ HB2.out) hkl.out).elim
          · have d0 := (HRr.out _ HB2.out).2 ad rfl k hkl.out
            have HG := hid (fun (hy : 0 ≤ co R k ∧ co R k < (P : Int)) => HS.out.good hy)
            have HBd := hid (fun (hy : ¬ (0 ≤ co R k ∧ co R k < (P : Int))) => LS.bad (z0 := tc) (z := z) hy)
            generalize co R k = y at *
            by_cases o1 : y < 0
            · have H2 := hid (HBd.out (by omega))
              go_wp2
              go_round
              case rel => exact ⟨k + 1, 2, rfl, by simp, by omega, H2⟩
              case measure => exact measK hgo
            · have o1' : decide (y < 0) = false := by simpa using o1
              by_cases o2 : (P : Int) ≤ y
              · have H2 := hid (HBd.out (by omega))
                go_wp2
                go_round
                case rel => exact ⟨k + 1, 2, rfl, by simp, by omega, H2⟩
                case measure => exact measK hgo
              · have o2' : decide ((P : Int) ≤ y) = false := by simpa using o2
                have H2 := hid (HG.out ⟨by omega, by omega⟩)
                go_wp2
                go_round
                case rel => exact ⟨k + 1, z, rfl, by simp, by omega, H2⟩
                case measure => exact measK hgo
        · have hgo' : ¬ (k : Int) < (nr : Int) := by omega
          obtain rfl : nr = k := by omega
          obtain rfl : z = 0 := HD.out z HS.out
          go_wp2_with (first
            | (go_at_call 18; refine (cR.out w2 HB2.out).mono ?_; rintro e w3 ⟨⟨b2, k2, rfl, _, hr2⟩, hB3⟩; have HB3 := hid (below_trans HB2.out hB3); have HR3 := hid (rrow_below HR2.out hB3 (Nat.le_refl _)); have HR4 := hid hr2; clear hB3 hr2)
            | (go_at_call 17; refine (cL.out _ _ _ _ w3 HR3.out HR4.out).mono ?_; rintro e w4 ⟨rfl, hB4⟩; have HB4 := hid (below_trans HB3.out hB4); clear hB4))
          go_ret
          exact ⟨rfl, HB4.out⟩
    · have cP := Play_bad p t go lo ro n cg cl cr F l R mr d hd h1 w hrow hrnd hg
      have h2 : (d != 0) = true := by simpa using h1
      have h3 : (d == 0) = false := by simpa using h1
      have h4 : (d == d) = true := by simp
      generalize l.length = nl at *
      obtain ⟨nr, hnr⟩ : ∃ nr, nr = R.length := ⟨_, rfl⟩
      have HNR := hid hnr
      rw [← hnr] at HD cP mr ⊢
      clear hc hrow hrnd hg bg hd htc hnr
      go_enter Try.func5, Try.ntmps5
      go_wp2_with (first
        | (go_at_call 16; refine cP.mono ?_; rintro e w1 ⟨rfl, hB1⟩; have HB1 := hid hB1; clear hB1)
        | (go_at_call 13; refine (cG.out w1 HB1.out).mono ?_; rintro e w2 ⟨rfl, hB2⟩; have HB2 := hid (below_trans HB1.out hB2); clear hB2)
        | (go_at_call 10; refine (cTc _).mono ?_; rintro e w' ⟨rfl, hw⟩; subst w'))
      clear HB1 cP cTc cG
      go_loop [13, 36] (fun vx vi => ∃ (k : Nat) (z : Int), vx = .int .i64 z ∧ vi = .int .i64 (k : Int) ∧ k ≤ nr ∧ Hid (LS tc p R k z)) (fun vx vi => ((nr : Int) - intOf vi).toNat)
      case atStart => exact ⟨0, _, rfl, rfl, by omega, .inl ⟨fun j hj => absurd hj (by omega), rfl⟩⟩
      case round =>
        obtain ⟨k, z, rfl, rfl, hk, HS⟩ := hrel
        by_cases hgo : k < nr
        · have hgo' : (k : Int) < (nr : Int) := by omega
          have hkl : Hid (k < R.length) := by have := HNR.out; show k < R.length; omega
          rcases ro with _ | ad
          · exact (irow_none (HRr.out _ HB2.out) hkl.out).elim
          · have d0 := (HRr.out _ HB2.out).2 ad rfl k hkl.out
            have HG := hid (fun (hy : 0 ≤ co R k ∧ co R k < p) => HS.out.good hy)
            have HBd := hid (fun (hy : ¬ (0 ≤ co R k ∧ co R k < p)) => LS.bad (z0 := tc) (z := z) hy)
            generalize co R k = y at *
            by_cases o1 : y < 0
            · have H2 := hid (HBd.out (by omega))
              go_wp2
              go_round
              case rel => exact ⟨k + 1, 2, rfl, by simp, by omega, H2⟩
              case measure => exact measK hgo
            · have o1' : decide (y < 0) = false := by simpa using o1
              by_cases o2 : p ≤ y
              · have H2 := hid (HBd.out (by omega))
                go_wp2
                go_round
                case rel => exact ⟨k + 1, 2, rfl, by simp, by omega, H2⟩
                case measure => exact measK hgo
              · have o2' : decide (p ≤ y) = false := by simpa using o2
                have H2 := hid (HG.out ⟨by omega, by omega⟩)
                go_wp2
                go_round
                case rel => exact ⟨k + 1, z, rfl, by simp, by omega, H2⟩
                case measure => exact measK hgo
        · have hgo' : ¬ (k : Int) < (nr : Int) := by omega
          obtain rfl : nr = k := by omega
          obtain rfl : z = d := HD.out z HS.out
          go_wp2
          go_ret
          exact ⟨rfl, HB2.out⟩
  · have cP := Play_bad p t go lo ro n cg cl cr F l R mr c (.inl ⟨hc, h0⟩) h0 w hrow hrnd hg
    have h1 : (c != 0) = true := by simpa using h0
    have h2 : (c == 0) = false := by simpa using h0
    have h4 : (c == c) = true := by simp
    generalize l.length = nl at *
    generalize R.length = nr at *
    clear hc hrow hrnd hg bg
    go_enter Try.func5, Try.ntmps5
    go_wp2_with (first
      | (go_at_call 16; refine cP.mono ?_; rintro e w1 ⟨rfl, hB1⟩; have HB1 := hid hB1; clear hB1)
      | (go_at_call 13; refine (cG.out w1 HB1.out).mono ?_; rintro e w2 ⟨rfl, hB2⟩; have HB2 := hid (below_trans HB1.out hB2); clear hB2))
    go_ret
    exact ⟨rfl, HB2.out⟩

theorem trodAll_five {H : Type} {enc : TypeId × Value → H} {P : Program} {w : World} {base : Nat} {spare : Nat → Bool} {held : Bool} {t0 t1 t2 t3 t4 : TypeId} {args : Array Value} {ds : List (DataW H)} {ps : List MemPlace} (h : DataW.TrodAll enc P w base spare held [t0, t1, t2, t3, t4] args.toList ds ps) :
    ∃ v0 v1 v2 v3 v4 d0 d1 d2 d3 d4 p0 p1 p2 p3 p4, args = #[v0, v1, v2, v3, v4] ∧ ds = [d0, d1, d2, d3, d4] ∧ ps = p0 ++ p1 ++ p2 ++ p3 ++ p4 ∧ DataW.Trod enc P w base spare held t0 v0 d0 p0 ∧ DataW.Trod enc P w base spare held t1 v1 d1 p1 ∧ DataW.Trod enc P w base spare held t2 v2 d2 p2 ∧ DataW.Trod enc P w base spare held t3 v3 d3 p3 ∧ DataW.Trod enc P w base spare held t4 v4 d4 p4 := by
  obtain ⟨v0, vs0, d0, ds0, p0, q0, hargs, rfl, rfl, hd0, hrest0⟩ := trodAll_cons h
  obtain ⟨v1, vs1, d1, ds1, p1, q1, rfl, rfl, rfl, hd1, hrest1⟩ := trodAll_cons hrest0
  obtain ⟨v2, vs2, d2, ds2, p2, q2, rfl, rfl, rfl, hd2, hrest2⟩ := trodAll_cons hrest1
  obtain ⟨v3, vs3, d3, ds3, p3, q3, rfl, rfl, rfl, hd3, hrest3⟩ := trodAll_cons hrest2
  obtain ⟨v4, vs4, d4, ds4, p4, q4, rfl, rfl, rfl, hd4, hrest4⟩ := trodAll_cons hrest3
  obtain ⟨rfl, rfl, rfl⟩ := trodAll_nil hrest4
  exact ⟨v0, v1, v2, v3, v4, d0, d1, d2, d3, d4, p0, p1, p2, p3, p4, by cases args; simp_all, rfl, by simp, hd0, hd1, hd2, hd3, hd4⟩

theorem trodAll_mk5 {H : Type} {enc : TypeId × Value → H} {P : Program} {w : World} {base : Nat} {spare : Nat → Bool} {held : Bool} {t0 t1 t2 t3 t4 : TypeId} {v0 v1 v2 v3 v4 : Value} {d0 d1 d2 d3 d4 : DataW H} {p0 p1 p2 p3 p4 : List MemPlace} (h0 : DataW.Trod enc P w base spare held t0 v0 d0 p0) (h1 : DataW.Trod enc P w base spare held t1 v1 d1 p1) (h2 : DataW.Trod enc P w base spare held t2 v2 d2 p2) (h3 : DataW.Trod enc P w base spare held t3 v3 d3 p3) (h4 : DataW.Trod enc P w base spare held t4 v4 d4 p4) : DataW.TrodAll enc P w base spare held [t0, t1, t2, t3, t4] [v0, v1, v2, v3, v4] [d0, d1, d2, d3, d4] (p0 ++ (p1 ++ (p2 ++ (p3 ++ (p4))))) := ⟨p0, p1 ++ (p2 ++ (p3 ++ (p4))), h0, trodAll_mk4 h1 h2 h3 h4, rfl⟩

set_option maxRecDepth 100000 in
theorem lifted (os : Os) (started : os.Started) (H : Type) (enc : TypeId × Value → H) :
    ReturnsInHanded {} Try.checked os 5 .any (Rows.partsPlaysSpec.pre6 enc Try.prog Try.f5 Rows.partsPlaysRow.domain false) (Rows.partsPlaysSpec.post enc Try.prog Try.f5 false true false false) := by
  refine returnsInHanded_of_change (C := Try.checked) own started (by kernel_rfl) Try.func5
    (ChangeSpec.witness6 (enc := enc) (C := Try.checked) false ⟨#[], #[.int .i64 0, .int .i64 0, .slice none 0 0, .slice none 0 0, .slice none 0 0], []⟩ 8 (by kernel_rfl) (by kernel_rfl) (by kernel_rfl) (by kernel_rfl)) ?_
  intro W base args ds gs before hval0 hW hcnd _
  have hval : ∀ (j : Nat) t v, Try.f5.params[j]? = some t → args[j]? = some v → Value.okWide Try.prog W .any base t v := hval0
  have hW' := hW
  obtain ⟨p, q, hA0, hV, rfl, _, _⟩ := hW
  have hA : DataW.TrodAll enc Try.prog W 0 (fun _ => true) true Try.f5.params.toList args.toList ds p := hA0
  rw [Try.params5] at hA hval
  obtain ⟨v0, v1, v2, v3, v4, d0, d1, d2, d3, d4, p0, p1, p2, p3, p4, rfl, rfl, rfl, h0, h1, h2, h3, h4⟩ := trodAll_five hA
  obtain ⟨rfl, rfl⟩ := trodVars_none hV
  obtain ⟨a0, rfl, rfl, rfl, w0⟩ := open_int Try.underlying2 (hval 0 2 v0 rfl rfl) h0
  obtain ⟨a1, rfl, rfl, rfl, w1⟩ := open_int Try.underlying3 (hval 1 3 v1 rfl rfl) h1
  have hsl2 := okWide_slice Try.underlying33 (hval 2 33 v2 rfl rfl)
  have hsl3 := okWide_slice Try.underlying22 (hval 3 22 v3 rfl rfl)
  have hsl4 := okWide_slice Try.underlying22 (hval 4 22 v4 rfl rfl)
  clear hA0 hval0
  simp only [List.append_nil, List.nil_append] at hW'
  have hlt2 : ∀ x ∈ p2, x.block < W.heap.size := fun x hx => by simpa using hW'.lt x (by simp [hx])
  have harg2 : ∀ (W' : World), Below W.heap.size W W' → DataW.Trod enc Try.prog W' 0 (fun b => decide (b < W.heap.size)) true 33 v2 d2 p2 :=
    fun W' hn => Below.trod laidOut (by kernel_rfl) (of_decide_eq_true (by kernel_rfl)) h2 hn hlt2
  obtain ⟨o2, c2, l2, F2, rfl, r2, b2, k2, m2⟩ := grid_view Try.underlying33 Try.underlying54 (numFs4 rfl rfl rfl rfl ⟨cells3, Try.underlying3⟩ ⟨cells3, Try.underlying3⟩ ⟨cells3, Try.underlying3⟩ ⟨cells2, Try.underlying2⟩) rfl cells_D h2 hsl2
  have hlt3 : ∀ x ∈ p3, x.block < W.heap.size := fun x hx => by simpa using hW'.lt x (by simp [hx])
  have harg3 : ∀ (W' : World), Below W.heap.size W W' → DataW.Trod enc Try.prog W' 0 (fun b => decide (b < W.heap.size)) true 22 v3 d3 p3 :=
    fun W' hn => Below.trod laidOut (by kernel_rfl) (of_decide_eq_true (by kernel_rfl)) h3 hn hlt3
  obtain ⟨o3, c3, l3, rfl, r3, k3, m3⟩ := longs_view Try.underlying22 cells2 Try.underlying2 h3 hsl3
  have hlt4 : ∀ x ∈ p4, x.block < W.heap.size := fun x hx => by simpa using hW'.lt x (by simp [hx])
  have harg4 : ∀ (W' : World), Below W.heap.size W W' → DataW.Trod enc Try.prog W' 0 (fun b => decide (b < W.heap.size)) true 22 v4 d4 p4 :=
    fun W' hn => Below.trod laidOut (by kernel_rfl) (of_decide_eq_true (by kernel_rfl)) h4 hn hlt4
  obtain ⟨o4, c4, l4, rfl, r4, k4, m4⟩ := longs_view Try.underlying22 cells2 Try.underlying2 h4 hsl4
  refine (walk a0 a1 w1 o2 c2 l2 F2 b2 k2 m2 o3 c3 l3 k3 m3 o4 c4 l4 k4 m4 W r2 r3 r4).mono fun e W' ⟨he, hg⟩ => ?_
  subst he
  refine ⟨_, rfl, _, _, _, [], ([] : List MemPlace) ++ (([] : List MemPlace) ++ (p2 ++ (p3 ++ (p4)))), [], hW', ?_, ?_, rfl, hg.frame _, fun h => by cases h⟩
  · exact trodAll_mk1 (shut_bool Try.underlying4 true)
  · exact trodAll_mk5 (shut_int Try.underlying2 w0) (shut_int Try.underlying3 w1) (harg2 _ hg) (harg3 _ hg) (harg4 _ hg)

theorem over : Rows.partsPlaysRow.holds Try.pinned (OpenSpec.ofChange Rows.partsPlaysSpec) :=
  OpenClaim.holds_of_wide 5 Try.f5 rfl rfl rfl rfl rfl rfl rfl ⟨rfl, rfl, rfl, rfl, rfl⟩ rfl rfl rfl rfl rfl (by kernel_rfl) Try.func5 (by kernel_rfl)
    (of_decide_eq_true (by kernel_rfl)) (by unfold Func.isWrapper; first | (rw [if_pos (by decide +kernel)]; kernel_rfl) | (rw [if_neg (by decide +kernel)]; exact ⟨rfl, rfl⟩))
    (fun os started H enc _ => lifted os started H enc)

/-- ████ THE STATEMENT ████ -/
theorem proved : Rows.PartsPlaysSaid :=
  over

end Go.Proofs.Ytpnmepobdnclkaa.partsPlays
