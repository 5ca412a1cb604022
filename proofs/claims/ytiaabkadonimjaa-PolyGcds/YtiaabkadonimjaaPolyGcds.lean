/-
  For any prime, any two polynomials, at every input: the program tells what divides both and is greatest, as the document does (PolyGcdsSaid, the full form).
-/
import Derived.Test.YtiaabkadonimjaaRows
import Derived.Test.YtiaabkadonimjaaCalls65
import Derived.WalkKit
import Derived.ProofKit
import Derived.OpenShut
import Derived.Carry
namespace Go.Proofs.Ytiaabkadonimjaa.polyGcds
open Go.ChangeShapes Go.WideShapes Go.ChangeAt Go.RowKit Go.Deep Go.Proofs.Ytiaabkadonimjaa.Base Go.Proofs.Ytiaabkadonimjaa.Base2 Go.Proofs.Ytiaabkadonimjaa.Num Go.Proofs.Ytiaabkadonimjaa.Num13 Go.Proofs.Ytiaabkadonimjaa.Num16 Go.Proofs.Ytiaabkadonimjaa.Num17 Go.Proofs.Ytiaabkadonimjaa.Num34 Go.Proofs.Ytiaabkadonimjaa.Num35 Go.Proofs.Ytiaabkadonimjaa.Base4 Go.Proofs.Ytiaabkadonimjaa.Calls56 Go.Proofs.Ytiaabkadonimjaa.Calls57 Go.Proofs.Ytiaabkadonimjaa.Calls58 Go.Proofs.Ytiaabkadonimjaa.Calls59 Go.Proofs.Ytiaabkadonimjaa.Calls60 Go.Proofs.Ytiaabkadonimjaa.Calls61 Go.Proofs.Ytiaabkadonimjaa.Calls62 Go.Proofs.Ytiaabkadonimjaa.Calls63 Go.Proofs.Ytiaabkadonimjaa.Calls64 Go.Proofs.Ytiaabkadonimjaa.Calls65
set_option linter.unusedVariables false

theorem own : ownKnob Try.prog.godebug = none := by kernel_rfl

theorem laidOut : laidOutB Try.prog = true := by kernel_rfl

theorem cells2 : Try.prog.cellsOf 2 = 1 := by kernel_rfl

theorem walk (p : Int) (ao : Option Addr) (ca : Nat) (a : List Int) (ka : a.length ≤ ca) (ma : a.length ≤ 9223372036854775807) (bo : Option Addr) (cb : Nat) (b : List Int) (kb : b.length ≤ cb) (mb : b.length ≤ 9223372036854775807) (w : World) (ra : IRow w ao a) (rb : IRow w bo b) :
    Calls Try.prog 7 #[.int .i64 p, .slice ao a.length ca, .slice bo b.length cb] w fun e w' => e = .returned (.bool true) ∧ Below w.heap.size w w' := by
  obtain ⟨c, hc⟩ := pc_ex p a
  obtain ⟨d, hd⟩ := pc_ex p b
  have cT := fun w' (hB : Below w.heap.size w w') => two_any p ao bo ca cb a b ma mb c d hc hd w' (irow_below ra hB (Nat.le_refl _)) (irow_below rb hB (Nat.le_refl _))
  simp only [show (if c = 0 then d else c) = cd2 c d from rfl] at cT
  by_cases h0 : cd2 c d = 0
  · obtain ⟨P, rfl, hP, hP2, ha, hca, hb, hcb⟩ := both_ok hc hd h0
    rw [h0] at cT
    have cA := Gcd_yes P hP hP2 ao bo ca cb a b ha hb hca hcb w ra rb
    have cR := fun w' (hB : Below w.heap.size w w') => refPolyGcd_any P hP hP2 ao bo ca cb a b hca hcb ha hb w' (irow_below ra hB (Nat.le_refl _)) (irow_below rb hB (Nat.le_refl _))
    have HU := hid (fun g g' (h : GcdIs P a b g) (k : GcdIs P a b g') => h.uniq hP k)
    have cL := fun (r : List Int) (hl : r.length ≤ 13) (o1 o2 : Option Addr) (c1 c2 : Nat) w' (h1 : IRow w' o1 r) (h2 : IRow w' o2 r) => Longs_same o1 o2 c1 c2 r (by omega) w' h1 h2
    generalize a.length = na at *
    generalize b.length = nb at *
    clear hc hd ra rb hca hcb h0
    go_enter Try.func7, Try.ntmps7
    go_wp2_with (first
      | (go_at_call 19; refine cA.mono ?_; rintro e w1 ⟨⟨g, hg, hgl, o1, c1, rfl, hc1, hr1⟩, hB⟩; have HG := hid hg; have H1 := hid hr1; clear hg hr1)
      | (go_at_call 12; refine (cT _ hB).mono ?_; rintro e w2 ⟨rfl, hw⟩; subst w2)
      | (go_at_call 20; refine (cR _ hB).mono ?_; rintro e w3 ⟨⟨g2, hg2, hgl2, o2, c2, rfl, hc2, hr2⟩, hB3⟩; obtain rfl : g = g2 := HU.out _ _ HG.out hg2; have H2 := hid hr2; clear hg2 hr2)
      | (go_at_call 13; refine (cL g hgl _ _ _ _ _ (irow_below H1.out hB3 (Nat.le_refl _)) H2.out).mono ?_; rintro e w4 ⟨rfl, hB4⟩))
    go_ret
    exact ⟨rfl, below_trans (below_trans hB hB3) hB4⟩
  · have cA := Gcd_bad p ao bo ca cb a b ma mb c d hc hd h0 w ra rb
    generalize cd2 c d = x at *
    generalize a.length = na at *
    generalize b.length = nb at *
    have h1 : (x != 0) = true := by simpa using h0
    have h2 : (x == 0) = false := by simpa using h0
    clear hc hd ra rb
    go_enter Try.func7, Try.ntmps7
    go_wp2_with (first
      | (go_at_call 19; refine cA.mono ?_; rintro e w1 ⟨rfl, hB⟩)
      | (go_at_call 12; refine (cT _ hB).mono ?_; rintro e w2 ⟨rfl, hw⟩; subst w2))
    go_ret
    exact ⟨rfl, hB⟩

set_option maxRecDepth 100000 in
theorem lifted (os : Os) (started : os.Started) (H : Type) (enc : TypeId × Value → H) :
    ReturnsInHanded {} Try.checked os 7 .any (Rows.polyGcdsSpec.pre6 enc Try.prog Try.f7 Rows.polyGcdsRow.domain false) (Rows.polyGcdsSpec.post enc Try.prog Try.f7 false true false false) := by
  refine returnsInHanded_of_change (C := Try.checked) own started (by kernel_rfl) Try.func7
    (ChangeSpec.witness6 (enc := enc) (C := Try.checked) false ⟨#[], #[.int .i64 0, .slice none 0 0, .slice none 0 0], []⟩ 8 (by kernel_rfl) (by kernel_rfl) (by kernel_rfl) (by kernel_rfl)) ?_
  intro W base args ds gs before hval0 hW hcnd _
  have hval : ∀ (j : Nat) t v, Try.f7.params[j]? = some t → args[j]? = some v → Value.okWide Try.prog W .any base t v := hval0
  have hW' := hW
  obtain ⟨p, q, hA0, hV, rfl, _, _⟩ := hW
  have hA : DataW.TrodAll enc Try.prog W 0 (fun _ => true) true Try.f7.params.toList args.toList ds p := hA0
  rw [Try.params7] at hA hval
  obtain ⟨v0, v1, v2, d0, d1, d2, p0, p1, p2, rfl, rfl, rfl, h0, h1, h2⟩ := trodAll_three hA
  obtain ⟨rfl, rfl⟩ := trodVars_none hV
  obtain ⟨a0, rfl, rfl, rfl, w0⟩ := open_int Try.underlying2 (hval 0 2 v0 rfl rfl) h0
  have hsl1 := okWide_slice Try.underlying22 (hval 1 22 v1 rfl rfl)
  have hsl2 := okWide_slice Try.underlying22 (hval 2 22 v2 rfl rfl)
  clear hA0 hval0
  simp only [List.append_nil, List.nil_append] at hW'
  have hlt1 : ∀ x ∈ p1, x.block < W.heap.size := fun x hx => by simpa using hW'.lt x (by simp [hx])
  have harg1 : ∀ (W' : World), Below W.heap.size W W' → DataW.Trod enc Try.prog W' 0 (fun b => decide (b < W.heap.size)) true 22 v1 d1 p1 :=
    fun W' hn => Below.trod laidOut (by kernel_rfl) (of_decide_eq_true (by kernel_rfl)) h1 hn hlt1
  obtain ⟨o1, c1, l1, rfl, r1, k1, m1⟩ := longs_view Try.underlying22 cells2 Try.underlying2 h1 hsl1
  have hlt2 : ∀ x ∈ p2, x.block < W.heap.size := fun x hx => by simpa using hW'.lt x (by simp [hx])
  have harg2 : ∀ (W' : World), Below W.heap.size W W' → DataW.Trod enc Try.prog W' 0 (fun b => decide (b < W.heap.size)) true 22 v2 d2 p2 :=
    fun W' hn => Below.trod laidOut (by kernel_rfl) (of_decide_eq_true (by kernel_rfl)) h2 hn hlt2
  obtain ⟨o2, c2, l2, rfl, r2, k2, m2⟩ := longs_view Try.underlying22 cells2 Try.underlying2 h2 hsl2
  refine (walk a0 o1 c1 l1 k1 m1 o2 c2 l2 k2 m2 W r1 r2).mono fun e W' ⟨he, hg⟩ => ?_
  subst he
  refine ⟨_, rfl, _, _, _, [], ([] : List MemPlace) ++ (p1 ++ (p2)), [], hW', ?_, ?_, rfl, hg.frame _, fun h => by cases h⟩
  · exact trodAll_mk1 (shut_bool Try.underlying4 true)
  · exact trodAll_mk3 (shut_int Try.underlying2 w0) (harg1 _ hg) (harg2 _ hg)

theorem over : Rows.polyGcdsRow.holds Try.pinned (OpenSpec.ofChange Rows.polyGcdsSpec) :=
  OpenClaim.holds_of_wide 7 Try.f7 rfl rfl rfl rfl rfl rfl rfl ⟨rfl, rfl, rfl, rfl, rfl⟩ rfl rfl rfl rfl rfl (by kernel_rfl) Try.func7 (by kernel_rfl)
    (of_decide_eq_true (by kernel_rfl)) (by unfold Func.isWrapper; first | (rw [if_pos (by decide +kernel)]; kernel_rfl) | (rw [if_neg (by decide +kernel)]; exact ⟨rfl, rfl⟩))
    (fun os started H enc _ => lifted os started H enc)

/-- ████ THE STATEMENT ████ -/
theorem proved : Rows.PolyGcdsSaid :=
  over

end Go.Proofs.Ytiaabkadonimjaa.polyGcds
