/-
  For any gates, any inputs and whatever is drawn: what all parties have of each gate opens to its value.
-/
import Derived.Test.YtpnmepobdnclkaaRows
import Derived.Test.YtpnmepobdnclkaaCalls191
import Derived.WalkKit
import Derived.ProofKit
import Derived.OpenShut
import Derived.Carry
namespace Go.Proofs.Ytpnmepobdnclkaa.partsRight
open Go.ChangeShapes Go.WideShapes Go.ChangeAt Go.RowKit Go.Deep Go.Proofs.Ytpnmepobdnclkaa.Base Go.Proofs.Ytpnmepobdnclkaa.Base2 Go.Proofs.Ytpnmepobdnclkaa.Base4 Go.Proofs.Ytpnmepobdnclkaa.Base10 Go.Proofs.Ytpnmepobdnclkaa.Num Go.Proofs.Ytpnmepobdnclkaa.Num13 Go.Proofs.Ytpnmepobdnclkaa.Num16 Go.Proofs.Ytpnmepobdnclkaa.Num17 Go.Proofs.Ytpnmepobdnclkaa.Num34 Go.Proofs.Ytpnmepobdnclkaa.Num35 Go.Proofs.Ytpnmepobdnclkaa.Num39 Go.Proofs.Ytpnmepobdnclkaa.Num61 Go.Proofs.Ytpnmepobdnclkaa.Num69 Go.Proofs.Ytpnmepobdnclkaa.Calls56 Go.Proofs.Ytpnmepobdnclkaa.Calls176 Go.Proofs.Ytpnmepobdnclkaa.Calls177 Go.Proofs.Ytpnmepobdnclkaa.Base5 Go.Proofs.Ytpnmepobdnclkaa.Num70 Go.Proofs.Ytpnmepobdnclkaa.Calls69 Go.Proofs.Ytpnmepobdnclkaa.Calls182 Go.Proofs.Ytpnmepobdnclkaa.Calls183 Go.Proofs.Ytpnmepobdnclkaa.Calls184 Go.Proofs.Ytpnmepobdnclkaa.Calls189 Go.Proofs.Ytpnmepobdnclkaa.Calls190 Go.Proofs.Ytpnmepobdnclkaa.Calls191
set_option linter.unusedVariables false

theorem own : ownKnob Try.prog.godebug = none := by kernel_rfl

theorem laidOut : laidOutB Try.prog = true := by kernel_rfl

theorem cells2 : Try.prog.cellsOf 2 = 1 := by kernel_rfl

theorem cells_D : Try.prog.cellsOf 54 = 4 := by kernel_rfl

theorem cells3 : Try.prog.cellsOf 3 = 1 := by kernel_rfl

open Go.Proofs.Ytpnmepobdnclkaa.Calls87 (ib)
open Go.Proofs.Ytpnmepobdnclkaa.Calls62 (RetE)
open Go.Proofs.Ytpnmepobdnclkaa.Calls90 (InM)
open Go.Proofs.Ytpnmepobdnclkaa.Calls179 (ratb)

set_option maxRecDepth 100000 in
set_option maxHeartbeats 1000000 in
theorem walk (p t : Int) (wt : (Lit.int .i64 t).wf = true) (go : Option Addr) (cg n : Nat) (F : Nat → Nat → Int) (bg : ∀ i, i < n → ∀ j, j < 4 → (Lit.int .i64 (F i j)).wf = true) (kg : n ≤ cg) (mg : n ≤ 9223372036854775807) (lo : Option Addr) (cl : Nat) (l : List Int) (kl : l.length ≤ cl) (ml : l.length ≤ 9223372036854775807) (ro : Option Addr) (cr : Nat) (R : List Int) (kr : R.length ≤ cr) (mr : R.length ≤ 9223372036854775807) (w : World) (hg : GRow w go 4 n F) (hrow : IRow w lo l) (hrnd : IRow w ro R) :
    Calls Try.prog 6 #[.int .i64 p, .int .i64 t, .slice go n cg, .slice lo l.length cl, .slice ro R.length cr] w fun e w' => e = .returned (.bool true) ∧ Below w.heap.size w w' := by
  obtain ⟨c, hc⟩ := gc_ex p n F l
  have cG := hid (fun w1 (hB : Below w.heap.size w w1) => refGatesCheck_any p go lo n cg cl F l c hc w1 (ib hrow hB) (gb hg hB))
  by_cases h0 : c = 0
  · subst h0
    obtain ⟨hp, hn, hl, hI, hG⟩ := hc.ok
    obtain ⟨P, rfl, hP, hP2⟩ := hp.ok
    have hP1 := hP.1
    have cC := Clear_yes P hP1 hP2 go lo n cg cl F l hc w hrow hg
    obtain ⟨d, hd⟩ := plc_ex (P : Int) t n F l R
    by_cases h1 : d = 0
    · subst h1
      obtain ⟨P', T, r, e1, rfl, _, _, hT, hTP, _, hr, hone⟩ := play_of hd
      obtain rfl : P = P' := by omega
      have cP := hid (fun w1 (hB : Below w.heap.size w w1) => Play_yes P hP hP2 T go lo ro n cg cl cr F l R mr kr hd r hr w1 (ib hrow hB) (ib hrnd hB) (gb hg hB))
      have hlen := clr_length P l F n
      have hlen2 := rows_length P T l R r F n
      have hrl := hid (fun i (hi : i < n) => (hone i hi).2.1)
      have cO := hid (fun i (hi : i < n) (bo : Option Addr) (cb : Nat) (W : World) (hr : IRow W bo (rwl (rows P T l R r F n) i)) => (Open_yes P hP hP2 (T : Int) bo cb (rwl (rows P T l R r F n) i) (one_opc hP hP2 hT hTP (hone i hi)) W hr).mono (R' := fun e w' => e = .returned (.tuple #[.int .i64 (co (clr P l F n) i), .int .i64 0]) ∧ Below W.heap.size W w') (fun e w' h => by
        obtain ⟨⟨v, hv, rfl⟩, hB⟩ := h
        rw [one_open hP hTP (hone i hi) hv.out]
        exact ⟨rfl, hB⟩))
      unfold RetE at cC
      unfold RetTE at cP
      simp only [hlen] at cC
      simp only [hlen2] at cP
      have HLn := hid hlen
      have HLm := hid hlen2
      generalize clr P l F n = A at *
      generalize rows P T l R r F n = B at *
      generalize l.length = nl at *
      generalize R.length = nr at *
      have hnn : ((n : Int) != (n : Int)) = false := by simp
      clear hc hI hG hrow hrnd hg bg hlen hlen2 hd hr hone cG
      go_enter Try.func6, Try.ntmps6
      go_wp2_with (first
        | (go_at_call 12; refine cC.mono ?_; rintro e w1 ⟨⟨b1, k1, rfl, _, hr1⟩, hB1⟩; have HB1 := hid hB1; have HR1 := hid hr1; clear hB1 hr1)
        | (go_at_call 16; refine (cP.out w1 HB1.out).mono ?_; rintro e w2 ⟨⟨b2, k2, rfl, _, hr2⟩, hB2⟩; have HB2 := hid (below_trans HB1.out hB2); have HR2 := hid hr2; have HR3 := hid (ib HR1.out hB2); clear hB2 hr2))
      clear HR1 HB1 cC cP
      go_loopw [15] (fun i wr => ∃ k : Nat, i = .int .i64 (k : Int) ∧ k ≤ n ∧ Hid (Below w2.heap.size w2 wr)) (fun i wr => ((n : Int) - intOf i).toNat)
      case atStart => exact ⟨0, rfl, by omega, Below.refl _ _⟩
      case round =>
        obtain ⟨k, rfl, hk, hB⟩ := hrel
        by_cases hgo : k < n
        · have hgo' : (k : Int) < (n : Int) := by omega
          have hkA : Hid (k < A.length) := by have := HLn.out; show k < A.length; omega
          have hkB : Hid (k < B.length) := by have := HLm.out; show k < B.length; omega
          rcases b1 with _ | a1
          · exact (irow_none HR3.out hkA.out).elim
          rcases b2 with _ | a2
          · exact (rrow_none HR2.out hkB.out).elim
          obtain ⟨xo, xc, c1, r1, _, _⟩ := ratb (HR2.out.2 a2 rfl k hkB.out) hB.out
          have el : (rw' B k).length = 2 * T + 1 := hrl.out k hgo
          have cK := hid (cO.out k hgo xo xc wr r1)
          have HV := hid (fun W (hBW : Below w2.heap.size w2 W) => (ib HR3.out hBW).2 a1 rfl k hkA.out)
          have er : (rwl B k).length = (rw' B k).length := rfl
          rw [er] at cK
          generalize (rw' B k).length = q at *
          generalize co A k = v at *
          have hvv : (v != v) = false := by simp
          clear r1 el er
          go_wp2_with (go_at_call 8; refine cK.out.mono ?_; rintro e w3 ⟨rfl, hB3⟩; have HB3 := hid (below_trans hB.out hB3); have d0 := HV.out w3 HB3.out; clear hB3)
          go_roundw
          case rel => exact ⟨k + 1, by simp, by omega, HB3⟩
          case measure => exact measK hgo
        · have hgo' : ¬ (k : Int) < (n : Int) := by omega
          go_wp2
          go_ret
          exact ⟨rfl, below_trans HB2.out hB.out⟩
    · have cP := hid (fun w1 (hB : Below w.heap.size w w1) => Play_bad (P : Int) t go lo ro n cg cl cr F l R mr d hd h1 w1 (ib hrow hB) (ib hrnd hB) (gb hg hB))
      unfold RetE at cC
      have h2 : (d != 0) = true := by simpa using h1
      have h3 : (d == 0) = false := by simpa using h1
      generalize (clr P l F n).length = nA at *
      generalize l.length = nl at *
      generalize R.length = nr at *
      clear hc hI hG hrow hrnd hg bg hd
      go_enter Try.func6, Try.ntmps6
      go_wp2_with (first
        | (go_at_call 12; refine cC.mono ?_; rintro e w1 ⟨⟨b1, k1, rfl, _, hr1⟩, hB1⟩; have HB1 := hid hB1; clear hB1 hr1)
        | (go_at_call 16; refine (cP.out w1 HB1.out).mono ?_; rintro e w2 ⟨rfl, hB2⟩; have HB2 := hid (below_trans HB1.out hB2); clear hB2)
        | (go_at_call 13; refine (cG.out w2 HB2.out).mono ?_; rintro e w3 ⟨rfl, hB3⟩; have HB3 := hid (below_trans HB2.out hB3); clear hB3))
      go_ret
      exact ⟨rfl, HB3.out⟩
  · have cC := Clear_bad p go lo n cg cl F l c hc h0 w hrow hg
    have cP := hid (fun w1 (hB : Below w.heap.size w w1) => Play_bad p t go lo ro n cg cl cr F l R mr c (.inl ⟨hc, h0⟩) h0 w1 (ib hrow hB) (ib hrnd hB) (gb hg hB))
    have h1 : (c != 0) = true := by simpa using h0
    have h2 : (c == 0) = false := by simpa using h0
    generalize l.length = nl at *
    generalize R.length = nr at *
    clear hc hrow hrnd hg bg cG
    go_enter Try.func6, Try.ntmps6
    go_wp2_with (first
      | (go_at_call 12; refine cC.mono ?_; rintro e w1 ⟨rfl, hB1⟩; have HB1 := hid hB1; clear hB1)
      | (go_at_call 16; refine (cP.out w1 HB1.out).mono ?_; rintro e w2 ⟨rfl, hB2⟩; have HB2 := hid (below_trans HB1.out hB2); clear hB2))
    go_ret
    exact ⟨rfl, HB2.out⟩

theorem trodAll_five {H : Type} {enc : TypeId × Value → H} {P : Program} {w : World} {base : Nat} {spare : Nat → Bool} {held : Bool} {t0 t1 t2 t3 t4 : TypeId} {args : Array Value} {ds : List (DataW H)} {ps : List MemPlace} (h : DataW.TrodAll enc P w base spare held [t0, t1, t2, t3, t4] args.toList ds ps) :
    ∃ v0 v1 v2 v3 v4 d0 d1 d2 d3 d4 p0 p1 p2 p3 p4, args = #[v0, v1, v2, v3, v4] ∧ ds = [d0, d1, d2, d3, d4] ∧ ps = p0 ++ p1 ++ p2 ++ p3 ++ p4 ∧ DataW.Trod enc P w base spare held t0 v0 d0 p0 ∧ DataW.Trod enc P w base spare held t1 v1 d1 p1 ∧ DataW.Trod enc P w base spare held t2 v2 d2 p2 ∧ DataW.Trod enc P w base spare held t3 v3 d3 p3 ∧ DataW.Trod enc P w base spare held t4 v4 d4 p4 := by
  obtain ⟨v0, vs0, d0, ds0, p0, q0, hargs, rfl, rfl, hd0, hrest0⟩ := trodAll_cons h
  obtain ⟨v1, vs1, d1, ds1, p1, q1, rfl, rfl, rfl, hd1, hrest1⟩ := trodAll_cons hrest0
  obtain ⟨v2, vs2, d2, ds2, p2, q2, rfl, rfl, rfl, hd2, hrest2⟩ := trodAll_cons hrest1
  obtain ⟨v3, vs3, d3, ds3, p3, q3, rfl, rfl, rfl, hd3, hrest3⟩ := trodAll_cons hrest2
  obtain ⟨v4, vs4, d4, ds4, p4, q4, rfl, rfl, rfl, hd4, hrest4⟩ := trodAll_cons hrest3
  obtain ⟨rfl, rfl, rfl⟩ := trodAll_nil hrest4
  exact ⟨v0, v1, v2, v3, v4, d0, d1, d2, d3, d4, p0, p1, p2, p3, p4, by cases args; simp_all, rfl, by simp, hd0, hd1, hd2, hd3, hd4⟩

theorem trodAll_mk5 {H : Type} {enc : TypeId × Value → H} {P : Program} {w : World} {base : Nat} {spare : Nat → Bool} {held : Bool} {t0 t1 t2 t3 t4 : TypeId} {v0 v1 v2 v3 v4 : Value} {d0 d1 d2 d3 d4 : DataW H} {p0 p1 p2 p3 p4 : List MemPlace} (h0 : DataW.Trod enc P w base spare held t0 v0 d0 p0) (h1 : DataW.Trod enc P w base spare held t1 v1 d1 p1) (h2 : DataW.Trod enc P w base spare held t2 v2 d2 p2) (h3 : DataW.Trod enc P w base spare held t3 v3 d3 p3) (h4 : DataW.Trod enc P w base spare held t4 v4 d4 p4) : DataW.TrodAll enc P w base spare held [t0, t1, t2, t3, t4] [v0, v1, v2, v3, v4] [d0, d1, d2, d3, d4] (p0 ++ (p1 ++ (p2 ++ (p3 ++ (p4))))) := ⟨p0, p1 ++ (p2 ++ (p3 ++ (p4))), h0, trodAll_mk4 h1 h2 h3 h4, rfl⟩

set_option maxRecDepth 100000 in
theorem lifted (os : Os) (started : os.Started) (H : Type) (enc : TypeId × Value → H) :
    ReturnsInHanded {} Try.checked os 6 .any (Rows.partsRightSpec.pre6 enc Try.prog Try.f6 Rows.partsRightRow.domain false) (Rows.partsRightSpec.post enc Try.prog Try.f6 false true false false) := by
  refine returnsInHanded_of_change (C := Try.checked) own started (by kernel_rfl) Try.func6
    (ChangeSpec.witness6 (enc := enc) (C := Try.checked) false ⟨#[], #[.int .i64 0, .int .i64 0, .slice none 0 0, .slice none 0 0, .slice none 0 0], []⟩ 8 (by kernel_rfl) (by kernel_rfl) (by kernel_rfl) (by kernel_rfl)) ?_
  intro W base args ds gs before hval0 hW hcnd _
  have hval : ∀ (j : Nat) t v, Try.f6.params[j]? = some t → args[j]? = some v → Value.okWide Try.prog W .any base t v := hval0
  have hW' := hW
  obtain ⟨p, q, hA0, hV, rfl, _, _⟩ := hW
  have hA : DataW.TrodAll enc Try.prog W 0 (fun _ => true) true Try.f6.params.toList args.toList ds p := hA0
  rw [Try.params6] at hA hval
  obtain ⟨v0, v1, v2, v3, v4, d0, d1, d2, d3, d4, p0, p1, p2, p3, p4, rfl, rfl, rfl, h0, h1, h2, h3, h4⟩ := trodAll_five hA
  obtain ⟨rfl, rfl⟩ := trodVars_none hV
  obtain ⟨a0, rfl, rfl, rfl, w0⟩ := open_int Try.underlying2 (hval 0 2 v0 rfl rfl) h0
  obtain ⟨a1, rfl, rfl, rfl, w1⟩ := open_int Try.underlying3 (hval 1 3 v1 rfl rfl) h1
  have hsl2 := okWide_slice Try.underlying33 (hval 2 33 v2 rfl rfl)
  have hsl3 := okWide_slice Try.underlying22 (hval 3 22 v3 rfl rfl)
  have hsl4 := okWide_slice Try.underlying22 (hval 4 22 v4 rfl rfl)
  clear hA0 hval0
  simp only [List.append_nil, List.nil_append] at hW'
  have hlt2 : ∀ x ∈ p2, x.block < W.heap.size := fun x hx => by simpa using hW'.lt x (by simp [hx])
  have harg2 : ∀ (W' : World), Below W.heap.size W W' → DataW.Trod enc Try.prog W' 0 (fun b => decide (b < W.heap.size)) true 33 v2 d2 p2 :=
    fun W' hn => Below.trod laidOut (by kernel_rfl) (of_decide_eq_true (by kernel_rfl)) h2 hn hlt2
  obtain ⟨o2, c2, l2, F2, rfl, r2, b2, k2, m2⟩ := grid_view Try.underlying33 Try.underlying54 (numFs4 rfl rfl rfl rfl ⟨cells3, Try.underlying3⟩ ⟨cells3, Try.underlying3⟩ ⟨cells3, Try.underlying3⟩ ⟨cells2, Try.underlying2⟩) rfl cells_D h2 hsl2
  have hlt3 : ∀ x ∈ p3, x.block < W.heap.size := fun x hx => by simpa using hW'.lt x (by simp [hx])
  have harg3 : ∀ (W' : World), Below W.heap.size W W' → DataW.Trod enc Try.prog W' 0 (fun b => decide (b < W.heap.size)) true 22 v3 d3 p3 :=
    fun W' hn => Below.trod laidOut (by kernel_rfl) (of_decide_eq_true (by kernel_rfl)) h3 hn hlt3
  obtain ⟨o3, c3, l3, rfl, r3, k3, m3⟩ := longs_view Try.underlying22 cells2 Try.underlying2 h3 hsl3
  have hlt4 : ∀ x ∈ p4, x.block < W.heap.size := fun x hx => by simpa using hW'.lt x (by simp [hx])
  have harg4 : ∀ (W' : World), Below W.heap.size W W' → DataW.Trod enc Try.prog W' 0 (fun b => decide (b < W.heap.size)) true 22 v4 d4 p4 :=
    fun W' hn => Below.trod laidOut (by kernel_rfl) (of_decide_eq_true (by kernel_rfl)) h4 hn hlt4
  obtain ⟨o4, c4, l4, rfl, r4, k4, m4⟩ := longs_view Try.underlying22 cells2 Try.underlying2 h4 hsl4
  refine (walk a0 a1 w1 o2 c2 l2 F2 b2 k2 m2 o3 c3 l3 k3 m3 o4 c4 l4 k4 m4 W r2 r3 r4).mono fun e W' ⟨he, hg⟩ => ?_
  subst he
  refine ⟨_, rfl, _, _, _, [], ([] : List MemPlace) ++ (([] : List MemPlace) ++ (p2 ++ (p3 ++ (p4)))), [], hW', ?_, ?_, rfl, hg.frame _, fun h => by cases h⟩
  · exact trodAll_mk1 (shut_bool Try.underlying4 true)
  · exact trodAll_mk5 (shut_int Try.underlying2 w0) (shut_int Try.underlying3 w1) (harg2 _ hg) (harg3 _ hg) (harg4 _ hg)

theorem over : Rows.partsRightRow.holds Try.pinned (OpenSpec.ofChange Rows.partsRightSpec) :=
  OpenClaim.holds_of_wide 6 Try.f6 rfl rfl rfl rfl rfl rfl rfl ⟨rfl, rfl, rfl, rfl, rfl⟩ rfl rfl rfl rfl rfl (by kernel_rfl) Try.func6 (by kernel_rfl)
    (of_decide_eq_true (by kernel_rfl)) (by unfold Func.isWrapper; first | (rw [if_pos (by decide +kernel)]; kernel_rfl) | (rw [if_neg (by decide +kernel)]; exact ⟨rfl, rfl⟩))
    (fun os started H enc _ => lifted os started H enc)

/-- ████ THE STATEMENT ████ -/
theorem proved : Rows.PartsRightSaid :=
  over

end Go.Proofs.Ytpnmepobdnclkaa.partsRight
