/-
  For any gates and any inputs the program tells all values, and what is wrong.
-/
import Derived.Test.YtpnmepobdnclkaaRows
import Derived.Test.YtpnmepobdnclkaaCalls178
import Derived.Test.YtpnmepobdnclkaaCalls183
import Derived.Test.YtpnmepobdnclkaaCalls190
import Derived.WalkKit
import Derived.ProofKit
import Derived.OpenShut
import Derived.Carry
namespace Go.Proofs.Ytpnmepobdnclkaa.partsClear
open Go.ChangeShapes Go.WideShapes Go.ChangeAt Go.RowKit Go.Deep Go.Proofs.Ytpnmepobdnclkaa.Base Go.Proofs.Ytpnmepobdnclkaa.Base2 Go.Proofs.Ytpnmepobdnclkaa.Base4 Go.Proofs.Ytpnmepobdnclkaa.Base10 Go.Proofs.Ytpnmepobdnclkaa.Num Go.Proofs.Ytpnmepobdnclkaa.Num13 Go.Proofs.Ytpnmepobdnclkaa.Num16 Go.Proofs.Ytpnmepobdnclkaa.Num17 Go.Proofs.Ytpnmepobdnclkaa.Num34 Go.Proofs.Ytpnmepobdnclkaa.Num35 Go.Proofs.Ytpnmepobdnclkaa.Num39 Go.Proofs.Ytpnmepobdnclkaa.Num61 Go.Proofs.Ytpnmepobdnclkaa.Num69 Go.Proofs.Ytpnmepobdnclkaa.Calls56 Go.Proofs.Ytpnmepobdnclkaa.Calls176 Go.Proofs.Ytpnmepobdnclkaa.Calls177 Go.Proofs.Ytpnmepobdnclkaa.Base5 Go.Proofs.Ytpnmepobdnclkaa.Num70 Go.Proofs.Ytpnmepobdnclkaa.Calls61 Go.Proofs.Ytpnmepobdnclkaa.Calls178 Go.Proofs.Ytpnmepobdnclkaa.Calls182 Go.Proofs.Ytpnmepobdnclkaa.Calls183
set_option linter.unusedVariables false

theorem own : ownKnob Try.prog.godebug = none := by kernel_rfl

theorem laidOut : laidOutB Try.prog = true := by kernel_rfl

theorem cells2 : Try.prog.cellsOf 2 = 1 := by kernel_rfl

theorem cells_D : Try.prog.cellsOf 54 = 4 := by kernel_rfl

theorem cells3 : Try.prog.cellsOf 3 = 1 := by kernel_rfl

open Go.Proofs.Ytpnmepobdnclkaa.Calls87 (ib)
open Go.Proofs.Ytpnmepobdnclkaa.Calls62 (RetE)

set_option maxRecDepth 100000 in
theorem walk (p : Int) (go : Option Addr) (cg n : Nat) (F : Nat → Nat → Int) (bg : ∀ i, i < n → ∀ j, j < 4 → (Lit.int .i64 (F i j)).wf = true) (kg : n ≤ cg) (mg : n ≤ 9223372036854775807) (lo : Option Addr) (cl : Nat) (l : List Int) (kl : l.length ≤ cl) (ml : l.length ≤ 9223372036854775807) (w : World) (hg : GRow w go 4 n F) (hrow : IRow w lo l) :
    Calls Try.prog 4 #[.int .i64 p, .slice go n cg, .slice lo l.length cl] w fun e w' => e = .returned (.bool true) ∧ Below w.heap.size w w' := by
  obtain ⟨c, hc⟩ := gc_ex p n F l
  have cG := hid (fun w1 (hB : Below w.heap.size w w1) => refGatesCheck_any p go lo n cg cl F l c hc w1 (ib hrow hB) (gb hg hB))
  by_cases h0 : c = 0
  · subst h0
    obtain ⟨hp, hn, hl, hI, hG⟩ := hc.ok
    obtain ⟨P, rfl, hP, hP2⟩ := hp.ok
    have hP1 := hP.1
    have cC := Clear_yes P hP1 hP2 go lo n cg cl F l hc w hrow hg
    have cR := hid (fun w1 (hB : Below w.heap.size w w1) => refClear_any P hP1 hP2 go lo n cg cl F l hn hl hI hG w1 (ib hrow hB) (gb hg hB))
    have hlen := clr_length P l F n
    have cL := hid (fun (ao bo : Option Addr) (ca cb : Nat) (W : World) (ra : IRow W ao (clr P l F n)) (rb : IRow W bo (clr P l F n)) => Longs_same ao bo ca cb (clr P l F n) (by omega) W ra rb)
    unfold RetE at cC
    unfold RetL at cR
    simp only [hlen] at cC cR cL
    generalize clr P l F n = L at *
    generalize l.length = nl at *
    clear hc hI hG hrow hg bg hlen
    go_enter Try.func4, Try.ntmps4
    go_wp2_with (first
      | (go_at_call 12; refine cC.mono ?_; rintro e w1 ⟨⟨b1, k1, rfl, _, hr1⟩, hB1⟩; have HB1 := hid hB1; have HR1 := hid hr1; clear hB1 hr1)
      | (go_at_call 13; refine (cG.out w1 HB1.out).mono ?_; rintro e w2 ⟨rfl, hB2⟩; have HB2 := hid (below_trans HB1.out hB2); have HR2 := hid (ib HR1.out hB2); clear hB2)
      | (go_at_call 15; refine (cR.out w2 HB2.out).mono ?_; rintro e w3 ⟨⟨b2, k2, rfl, _, hr2⟩, hB3⟩; have HB3 := hid (below_trans HB2.out hB3); have HR3 := hid (ib HR2.out hB3); have HR4 := hid hr2; clear hB3 hr2)
      | (go_at_call 14; refine (cL.out _ _ _ _ w3 HR3.out HR4.out).mono ?_; rintro e w4 ⟨rfl, hB4⟩; have HB4 := hid (below_trans HB3.out hB4); clear hB4))
    go_ret
    exact ⟨rfl, HB4.out⟩
  · have cC := Clear_bad p go lo n cg cl F l c hc h0 w hrow hg
    have h1 : (c != 0) = true := by simpa using h0
    have h2 : (c == 0) = false := by simpa using h0
    have h3 : (c == c) = true := by simp
    generalize l.length = nl at *
    clear hc hrow hg bg
    go_enter Try.func4, Try.ntmps4
    go_wp2_with (first
      | (go_at_call 12; refine cC.mono ?_; rintro e w1 ⟨rfl, hB1⟩; have HB1 := hid hB1; clear hB1)
      | (go_at_call 13; refine (cG.out w1 HB1.out).mono ?_; rintro e w2 ⟨rfl, hB2⟩; have HB2 := hid (below_trans HB1.out hB2); clear hB2))
    go_ret
    exact ⟨rfl, HB2.out⟩

set_option maxRecDepth 100000 in
theorem lifted (os : Os) (started : os.Started) (H : Type) (enc : TypeId × Value → H) :
    ReturnsInHanded {} Try.checked os 4 .any (Rows.partsClearSpec.pre6 enc Try.prog Try.f4 Rows.partsClearRow.domain false) (Rows.partsClearSpec.post enc Try.prog Try.f4 false true false false) := by
  refine returnsInHanded_of_change (C := Try.checked) own started (by kernel_rfl) Try.func4
    (ChangeSpec.witness6 (enc := enc) (C := Try.checked) false ⟨#[], #[.int .i64 0, .slice none 0 0, .slice none 0 0], []⟩ 8 (by kernel_rfl) (by kernel_rfl) (by kernel_rfl) (by kernel_rfl)) ?_
  intro W base args ds gs before hval0 hW hcnd _
  have hval : ∀ (j : Nat) t v, Try.f4.params[j]? = some t → args[j]? = some v → Value.okWide Try.prog W .any base t v := hval0
  have hW' := hW
  obtain ⟨p, q, hA0, hV, rfl, _, _⟩ := hW
  have hA : DataW.TrodAll enc Try.prog W 0 (fun _ => true) true Try.f4.params.toList args.toList ds p := hA0
  rw [Try.params4] at hA hval
  obtain ⟨v0, v1, v2, d0, d1, d2, p0, p1, p2, rfl, rfl, rfl, h0, h1, h2⟩ := trodAll_three hA
  obtain ⟨rfl, rfl⟩ := trodVars_none hV
  obtain ⟨a0, rfl, rfl, rfl, w0⟩ := open_int Try.underlying2 (hval 0 2 v0 rfl rfl) h0
  have hsl1 := okWide_slice Try.underlying33 (hval 1 33 v1 rfl rfl)
  have hsl2 := okWide_slice Try.underlying22 (hval 2 22 v2 rfl rfl)
  clear hA0 hval0
  simp only [List.append_nil, List.nil_append] at hW'
  have hlt1 : ∀ x ∈ p1, x.block < W.heap.size := fun x hx => by simpa using hW'.lt x (by simp [hx])
  have harg1 : ∀ (W' : World), Below W.heap.size W W' → DataW.Trod enc Try.prog W' 0 (fun b => decide (b < W.heap.size)) true 33 v1 d1 p1 :=
    fun W' hn => Below.trod laidOut (by kernel_rfl) (of_decide_eq_true (by kernel_rfl)) h1 hn hlt1
  obtain ⟨o1, c1, l1, F1, rfl, r1, b1, k1, m1⟩ := grid_view Try.underlying33 Try.underlying54 (numFs4 rfl rfl rfl rfl ⟨cells3, Try.underlying3⟩ ⟨cells3, Try.underlying3⟩ ⟨cells3, Try.underlying3⟩ ⟨cells2, Try.underlying2⟩) rfl cells_D h1 hsl1
  have hlt2 : ∀ x ∈ p2, x.block < W.heap.size := fun x hx => by simpa using hW'.lt x (by simp [hx])
  have harg2 : ∀ (W' : World), Below W.heap.size W W' → DataW.Trod enc Try.prog W' 0 (fun b => decide (b < W.heap.size)) true 22 v2 d2 p2 :=
    fun W' hn => Below.trod laidOut (by kernel_rfl) (of_decide_eq_true (by kernel_rfl)) h2 hn hlt2
  obtain ⟨o2, c2, l2, rfl, r2, k2, m2⟩ := longs_view Try.underlying22 cells2 Try.underlying2 h2 hsl2
  refine (walk a0 o1 c1 l1 F1 b1 k1 m1 o2 c2 l2 k2 m2 W r1 r2).mono fun e W' ⟨he, hg⟩ => ?_
  subst he
  refine ⟨_, rfl, _, _, _, [], ([] : List MemPlace) ++ (p1 ++ (p2)), [], hW', ?_, ?_, rfl, hg.frame _, fun h => by cases h⟩
  · exact trodAll_mk1 (shut_bool Try.underlying4 true)
  · exact trodAll_mk3 (shut_int Try.underlying2 w0) (harg1 _ hg) (harg2 _ hg)

theorem over : Rows.partsClearRow.holds Try.pinned (OpenSpec.ofChange Rows.partsClearSpec) :=
  OpenClaim.holds_of_wide 4 Try.f4 rfl rfl rfl rfl rfl rfl rfl ⟨rfl, rfl, rfl, rfl, rfl⟩ rfl rfl rfl rfl rfl (by kernel_rfl) Try.func4 (by kernel_rfl)
    (of_decide_eq_true (by kernel_rfl)) (by unfold Func.isWrapper; first | (rw [if_pos (by decide +kernel)]; kernel_rfl) | (rw [if_neg (by decide +kernel)]; exact ⟨rfl, rfl⟩))
    (fun os started H enc _ => lifted os started H enc)

/-- ████ THE STATEMENT ████ -/
theorem proved : Rows.PartsClearSaid :=
  over

end Go.Proofs.Ytpnmepobdnclkaa.partsClear
