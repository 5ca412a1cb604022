/-
  For any field and any two elements the program tells their product.
-/
import Derived.Test.YtjpmkcijkcnfiaaRows
import Derived.Test.YtjpmkcijkcnfiaaCalls85
import Derived.WalkKit
import Derived.ProofKit
import Derived.OpenShut
import Derived.Carry
namespace Go.Proofs.Ytjpmkcijkcnfiaa.fieldMuls
open Go.ChangeShapes Go.WideShapes Go.ChangeAt Go.RowKit Go.Deep Go.Proofs.Ytjpmkcijkcnfiaa.Base Go.Proofs.Ytjpmkcijkcnfiaa.Base2 Go.Proofs.Ytjpmkcijkcnfiaa.Num Go.Proofs.Ytjpmkcijkcnfiaa.Num16 Go.Proofs.Ytjpmkcijkcnfiaa.Num17 Go.Proofs.Ytjpmkcijkcnfiaa.Num21 Go.Proofs.Ytjpmkcijkcnfiaa.Num23 Go.Proofs.Ytjpmkcijkcnfiaa.Num34 Go.Proofs.Ytjpmkcijkcnfiaa.Num35 Go.Proofs.Ytjpmkcijkcnfiaa.Num36 Go.Proofs.Ytjpmkcijkcnfiaa.Num37 Go.Proofs.Ytjpmkcijkcnfiaa.Num38 Go.Proofs.Ytjpmkcijkcnfiaa.Base4 Go.Proofs.Ytjpmkcijkcnfiaa.Calls56 Go.Proofs.Ytjpmkcijkcnfiaa.Calls57 Go.Proofs.Ytjpmkcijkcnfiaa.Calls20 Go.Proofs.Ytjpmkcijkcnfiaa.Calls62 Go.Proofs.Ytjpmkcijkcnfiaa.Calls75 Go.Proofs.Ytjpmkcijkcnfiaa.Calls76 Go.Proofs.Ytjpmkcijkcnfiaa.Calls77 Go.Proofs.Ytjpmkcijkcnfiaa.Calls81 Go.Proofs.Ytjpmkcijkcnfiaa.Calls82 Go.Proofs.Ytjpmkcijkcnfiaa.Calls83 Go.Proofs.Ytjpmkcijkcnfiaa.Calls84 Go.Proofs.Ytjpmkcijkcnfiaa.Calls85
set_option linter.unusedVariables false

theorem own : ownKnob Try.prog.godebug = none := by kernel_rfl

theorem laidOut : laidOutB Try.prog = true := by kernel_rfl

theorem cells2 : Try.prog.cellsOf 2 = 1 := by kernel_rfl

theorem mulR_num {P : Nat} {f : List Int} (hF : Fld P f) (A B : Nat) : ∃ z, FMul P f A B z := by
  obtain ⟨r, hr⟩ := Go.Proofs.Ytjpmkcijkcnfiaa.Num22.mulR_ex hF.1 hF.2.2.1 (fun e => by have := hF.2.2.2.1; rw [e] at this; simp at this) (dig P A) (dig P B)
  exact ⟨_, r, hr, rfl⟩

set_option maxRecDepth 100000 in
theorem walk (p : Int) (fo : Option Addr) (cf : Nat) (f : List Int) (kf : f.length ≤ cf) (mf : f.length ≤ 9223372036854775807) (a b : Int) (w : World) (rf : IRow w fo f) :
    Calls Try.prog 5 #[.int .i64 p, .slice fo f.length cf, .int .i64 a, .int .i64 b] w fun e w' => e = .returned (.bool true) ∧ Below w.heap.size w w' := by
  obtain ⟨c, hc⟩ := ec_ex p f [a]
  obtain ⟨d, hd⟩ := ec_ex p f [b]
  have h2 := ec_two hc hd
  have cE1 := fun w' (hB : Below w.heap.size w w') => lawElement_any p fo cf f a mf c hc w' (irow_below rf hB (Nat.le_refl _))
  have cE2 := fun w' (hB : Below w.heap.size w w') => lawElement_any p fo cf f b mf d hd w' (irow_below rf hB (Nat.le_refl _))
  have cF := fun w => first_any c d w
  generalize (if c = 0 then d else c) = x at *
  by_cases h0 : x = 0
  · subst h0
    obtain ⟨P, rfl, hF, hin⟩ := h2.ok
    have ha := hin a (by simp)
    have hb := hin b (by simp)
    obtain ⟨A, rfl⟩ : ∃ A : Nat, a = (A : Int) := ⟨a.toNat, by omega⟩
    obtain ⟨B, rfl⟩ : ∃ B : Nat, b = (B : Int) := ⟨b.toNat, by omega⟩
    · have hA : A < P ^ (f.length - 1) := by omega
      have hB0 : B < P ^ (f.length - 1) := by omega
      have hs := hF.size
      obtain ⟨z, hz⟩ := mulR_num hF A B
      have cA := (fMul_yes P f hF A B hA hB0 fo cf w rf).mono (R' := fun e w' => e = .returned (.tuple #[.int .i64 (z : Int), .int .i64 0]) ∧ Below w.heap.size w w') (fun e w' ⟨⟨c, hc, he⟩, hB⟩ => ⟨by rw [he, hc.uniq hF.1 hF.2.2.1 hz], hB⟩)
      have cR := fun w' (hB : Below w.heap.size w w') => (refFieldMul_any P f hF fo cf A B (by omega) (by omega) w' (irow_below rf hB (Nat.le_refl _))).mono (R' := fun e w'' => e = .returned (.int .i64 (z : Int)) ∧ Below w'.heap.size w' w'') (fun e w'' ⟨⟨c, hc, he⟩, hB⟩ => ⟨by rw [he, hc.uniq hF.1 hF.2.2.1 hz], hB⟩)
      generalize f.length = n at *
      clear rf hc hd h2 hF hin ha hb hA hB0
      go_enter Try.func5, Try.ntmps5
      go_wp2_with (first
        | (go_at_call 15; refine cA.mono ?_; rintro e w1 ⟨rfl, hB1⟩; have HB1 := hid hB1; clear hB1)
        | (go_at_call 13; refine (cE1 _ HB1.out).mono ?_; rintro e w2 ⟨rfl, hB2⟩; have HB2 := hid hB2; clear hB2 cE1)
        | (go_at_call 13; refine (cE2 _ (below_trans HB1.out HB2.out)).mono ?_; rintro e w3 ⟨rfl, hB3⟩; have HB3 := hid hB3; clear hB3 cE2)
        | (go_at_call 12; refine (cF _).mono ?_; rintro e w4 ⟨rfl, hw⟩; subst w4)
        | (go_at_call 16; refine (cR _ (below_trans HB1.out (below_trans HB2.out HB3.out))).mono ?_; rintro e w5 ⟨rfl, hB5⟩))
      go_ret
      exact ⟨by simp, below_trans (below_trans HB1.out (below_trans HB2.out HB3.out)) hB5⟩
  · have cA := fMul_bad p fo cf f a b mf x h2 h0 w rf
    have g1 : (x != 0) = true := by simpa using h0
    have g2 : (x == 0) = false := by simpa using h0
    generalize f.length = n at *
    clear rf hc hd h2
    go_enter Try.func5, Try.ntmps5
    go_wp2_with (first
      | (go_at_call 15; refine cA.mono ?_; rintro e w1 ⟨rfl, hB1⟩; have HB1 := hid hB1; clear hB1)
      | (go_at_call 13; refine (cE1 _ HB1.out).mono ?_; rintro e w2 ⟨rfl, hB2⟩; have HB2 := hid hB2; clear hB2 cE1)
      | (go_at_call 13; refine (cE2 _ (below_trans HB1.out HB2.out)).mono ?_; rintro e w3 ⟨rfl, hB3⟩; have HB3 := hid hB3; clear hB3 cE2)
      | (go_at_call 12; refine (cF _).mono ?_; rintro e w4 ⟨rfl, hw⟩; subst w4))
    go_ret
    exact ⟨by simp, below_trans HB1.out (below_trans HB2.out HB3.out)⟩

set_option maxRecDepth 100000 in
theorem lifted (os : Os) (started : os.Started) (H : Type) (enc : TypeId × Value → H) :
    ReturnsInHanded {} Try.checked os 5 .any (Rows.fieldMulsSpec.pre6 enc Try.prog Try.f5 Rows.fieldMulsRow.domain false) (Rows.fieldMulsSpec.post enc Try.prog Try.f5 false true false false) := by
  refine returnsInHanded_of_change (C := Try.checked) own started (by kernel_rfl) Try.func5
    (ChangeSpec.witness6 (enc := enc) (C := Try.checked) false ⟨#[], #[.int .i64 0, .slice none 0 0, .int .i64 0, .int .i64 0], []⟩ 8 (by kernel_rfl) (by kernel_rfl) (by kernel_rfl) (by kernel_rfl)) ?_
  intro W base args ds gs before hval0 hW hcnd _
  have hval : ∀ (j : Nat) t v, Try.f5.params[j]? = some t → args[j]? = some v → Value.okWide Try.prog W .any base t v := hval0
  have hW' := hW
  obtain ⟨p, q, hA0, hV, rfl, _, _⟩ := hW
  have hA : DataW.TrodAll enc Try.prog W 0 (fun _ => true) true Try.f5.params.toList args.toList ds p := hA0
  rw [Try.params5] at hA hval
  obtain ⟨v0, v1, v2, v3, d0, d1, d2, d3, p0, p1, p2, p3, rfl, rfl, rfl, h0, h1, h2, h3⟩ := trodAll_four hA
  obtain ⟨rfl, rfl⟩ := trodVars_none hV
  obtain ⟨a0, rfl, rfl, rfl, w0⟩ := open_int Try.underlying2 (hval 0 2 v0 rfl rfl) h0
  have hsl1 := okWide_slice Try.underlying22 (hval 1 22 v1 rfl rfl)
  obtain ⟨a2, rfl, rfl, rfl, w2⟩ := open_int Try.underlying2 (hval 2 2 v2 rfl rfl) h2
  obtain ⟨a3, rfl, rfl, rfl, w3⟩ := open_int Try.underlying2 (hval 3 2 v3 rfl rfl) h3
  clear hA0 hval0
  simp only [List.append_nil, List.nil_append] at hW'
  have hlt1 : ∀ x ∈ p1, x.block < W.heap.size := fun x hx => by simpa using hW'.lt x (by simp [hx])
  have harg1 : ∀ (W' : World), Below W.heap.size W W' → DataW.Trod enc Try.prog W' 0 (fun b => decide (b < W.heap.size)) true 22 v1 d1 p1 :=
    fun W' hn => Below.trod laidOut (by kernel_rfl) (of_decide_eq_true (by kernel_rfl)) h1 hn hlt1
  obtain ⟨o1, c1, l1, rfl, r1, k1, m1⟩ := longs_view Try.underlying22 cells2 Try.underlying2 h1 hsl1
  refine (walk a0 o1 c1 l1 k1 m1 a2 a3 W r1).mono fun e W' ⟨he, hg⟩ => ?_
  subst he
  refine ⟨_, rfl, _, _, _, [], ([] : List MemPlace) ++ (p1 ++ (([] : List MemPlace) ++ (([] : List MemPlace)))), [], hW', ?_, ?_, rfl, hg.frame _, fun h => by cases h⟩
  · exact trodAll_mk1 (shut_bool Try.underlying4 true)
  · exact trodAll_mk4 (shut_int Try.underlying2 w0) (harg1 _ hg) (shut_int Try.underlying2 w2) (shut_int Try.underlying2 w3)

theorem over : Rows.fieldMulsRow.holds Try.pinned (OpenSpec.ofChange Rows.fieldMulsSpec) :=
  OpenClaim.holds_of_wide 5 Try.f5 rfl rfl rfl rfl rfl rfl rfl ⟨rfl, rfl, rfl, rfl, rfl⟩ rfl rfl rfl rfl rfl (by kernel_rfl) Try.func5 (by kernel_rfl)
    (of_decide_eq_true (by kernel_rfl)) (by unfold Func.isWrapper; first | (rw [if_pos (by decide +kernel)]; kernel_rfl) | (rw [if_neg (by decide +kernel)]; exact ⟨rfl, rfl⟩))
    (fun os started H enc _ => lifted os started H enc)

/-- ████ THE STATEMENT ████ -/
theorem proved : Rows.FieldMulsSaid :=
  over

end Go.Proofs.Ytjpmkcijkcnfiaa.fieldMuls
