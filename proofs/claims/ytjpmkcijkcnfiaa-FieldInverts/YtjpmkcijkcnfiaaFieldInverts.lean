/-
  For any field and any element the program tells what makes 1 of it.
-/
import Derived.Test.YtjpmkcijkcnfiaaRows
import Derived.Test.YtjpmkcijkcnfiaaCalls85
import Derived.WalkKit
import Derived.ProofKit
import Derived.OpenShut
import Derived.Carry
namespace Go.Proofs.Ytjpmkcijkcnfiaa.fieldInverts
open Go.ChangeShapes Go.WideShapes Go.ChangeAt Go.RowKit Go.Deep Go.Proofs.Ytjpmkcijkcnfiaa.Base Go.Proofs.Ytjpmkcijkcnfiaa.Base2 Go.Proofs.Ytjpmkcijkcnfiaa.Num Go.Proofs.Ytjpmkcijkcnfiaa.Num16 Go.Proofs.Ytjpmkcijkcnfiaa.Num17 Go.Proofs.Ytjpmkcijkcnfiaa.Num21 Go.Proofs.Ytjpmkcijkcnfiaa.Num23 Go.Proofs.Ytjpmkcijkcnfiaa.Num34 Go.Proofs.Ytjpmkcijkcnfiaa.Num35 Go.Proofs.Ytjpmkcijkcnfiaa.Num36 Go.Proofs.Ytjpmkcijkcnfiaa.Num37 Go.Proofs.Ytjpmkcijkcnfiaa.Num38 Go.Proofs.Ytjpmkcijkcnfiaa.Base4 Go.Proofs.Ytjpmkcijkcnfiaa.Calls56 Go.Proofs.Ytjpmkcijkcnfiaa.Calls57 Go.Proofs.Ytjpmkcijkcnfiaa.Calls20 Go.Proofs.Ytjpmkcijkcnfiaa.Calls62 Go.Proofs.Ytjpmkcijkcnfiaa.Calls75 Go.Proofs.Ytjpmkcijkcnfiaa.Calls76 Go.Proofs.Ytjpmkcijkcnfiaa.Calls77 Go.Proofs.Ytjpmkcijkcnfiaa.Calls81 Go.Proofs.Ytjpmkcijkcnfiaa.Calls82 Go.Proofs.Ytjpmkcijkcnfiaa.Calls83 Go.Proofs.Ytjpmkcijkcnfiaa.Calls84 Go.Proofs.Ytjpmkcijkcnfiaa.Calls85
set_option linter.unusedVariables false

theorem own : ownKnob Try.prog.godebug = none := by kernel_rfl

theorem laidOut : laidOutB Try.prog = true := by kernel_rfl

theorem cells2 : Try.prog.cellsOf 2 = 1 := by kernel_rfl

set_option maxRecDepth 100000 in
theorem walk (p : Int) (fo : Option Addr) (cf : Nat) (f : List Int) (kf : f.length ≤ cf) (mf : f.length ≤ 9223372036854775807) (a : Int) (w : World) (rf : IRow w fo f) :
    Calls Try.prog 6 #[.int .i64 p, .slice fo f.length cf, .int .i64 a] w fun e w' => e = .returned (.bool true) ∧ Below w.heap.size w w' := by
  obtain ⟨c, hc⟩ := ec_ex p f [a]
  have cE1 := fun w' (hB : Below w.heap.size w w') => lawElement_any p fo cf f a mf c hc w' (irow_below rf hB (Nat.le_refl _))
  by_cases h0 : c = 0
  · subst h0
    obtain ⟨P, rfl, hF, hin⟩ := hc.ok
    have ha := hin a (by simp)
    obtain ⟨A, rfl⟩ : ∃ A : Nat, a = (A : Int) := ⟨a.toNat, by omega⟩
    by_cases hA0 : A = 0
    · subst hA0
      have cA := fInv_zero P f hF fo cf w rf
      rw [show ((0 : Nat) : Int) = 0 from rfl]
      rw [show ((0 : Nat) : Int) = 0 from rfl] at cE1
      generalize f.length = n at *
      clear rf hc hF hin ha
      go_enter Try.func6, Try.ntmps6
      go_wp2_with (first
        | (go_at_call 17; refine cA.mono ?_; rintro e w1 ⟨rfl, hB1⟩; have HB1 := hid hB1; clear hB1)
        | (go_at_call 13; refine (cE1 _ HB1.out).mono ?_; rintro e w2 ⟨rfl, hB2⟩; have HB2 := hid hB2; clear hB2 cE1))
      go_ret
      exact ⟨rfl, below_trans HB1.out HB2.out⟩
    · obtain ⟨F, hFi⟩ := hF.ex
      have hA : A < P ^ (f.length - 1) := by omega
      obtain ⟨x, hx⟩ := hF.el hA
      have cA := fInv_el P f hF F hFi x A hx hA hA0 fo cf w rf
      have hone := hid (hF.inv hFi (x := x) (by omega))
      obtain ⟨y, hy⟩ : ∃ y, y = Go.Proofs.Ytjpmkcijkcnfiaa.Num20.pw F x (P ^ (f.length - 1) - 2) := ⟨_, rfl⟩
      rw [← hy] at cA hone
      have hyl := num_lt (p := P) (by have := hF.1.1; omega) y
      have cE2 := fun w' (hB : Below w.heap.size w w') => lawElement_any (P : Int) fo cf f (num y : Int) mf 0 (EC.of hF (fun z hz => by simp at hz; subst hz; omega)) w' (irow_below rf hB (Nat.le_refl _))
      have cR := fun w' (hB : Below w.heap.size w w') => refFieldMul_el P f hF F hFi fo cf x y w' (irow_below rf hB (Nat.le_refl _))
      simp only [hone.out, hFi.one, hx] at cR
      have hA1 : ((A : Int) == 0) = false := by simp; omega
      have hA2 : ¬ (A : Int) = 0 := by omega
      generalize num y = z at *
      generalize f.length = n at *
      clear rf hc hF hin ha hone hy hx hA hFi
      go_enter Try.func6, Try.ntmps6
      go_wp2_with (first
        | (go_at_call 17; refine cA.mono ?_; rintro e w1 ⟨rfl, hB1⟩; have HB1 := hid hB1; clear hB1)
        | (go_at_call 13; refine (cE1 _ HB1.out).mono ?_; rintro e w2 ⟨rfl, hB2⟩; have HB2 := hid (below_trans HB1.out hB2); clear hB2 cE1)
        | (go_at_call 13; refine (cE2 _ HB2.out).mono ?_; rintro e w3 ⟨rfl, hB3⟩; have HB3 := hid (below_trans HB2.out hB3); clear hB3 cE2)
        | (go_at_call 16; refine (cR _ HB3.out).mono ?_; rintro e w4 ⟨rfl, hB4⟩; have HB4 := hid (below_trans HB3.out hB4); clear hB4))
      go_ret
      exact ⟨by simp, HB4.out⟩
  · have cA := fInv_bad p fo cf f a mf c hc h0 w rf
    have g1 : (c != 0) = true := by simpa using h0
    have g2 : (c == 0) = false := by simpa using h0
    generalize f.length = n at *
    clear rf hc
    go_enter Try.func6, Try.ntmps6
    go_wp2_with (first
      | (go_at_call 17; refine cA.mono ?_; rintro e w1 ⟨rfl, hB1⟩; have HB1 := hid hB1; clear hB1)
      | (go_at_call 13; refine (cE1 _ HB1.out).mono ?_; rintro e w2 ⟨rfl, hB2⟩; have HB2 := hid hB2; clear hB2 cE1))
    go_ret
    exact ⟨by simp, below_trans HB1.out HB2.out⟩

set_option maxRecDepth 100000 in
theorem lifted (os : Os) (started : os.Started) (H : Type) (enc : TypeId × Value → H) :
    ReturnsInHanded {} Try.checked os 6 .any (Rows.fieldInvertsSpec.pre6 enc Try.prog Try.f6 Rows.fieldInvertsRow.domain false) (Rows.fieldInvertsSpec.post enc Try.prog Try.f6 false true false false) := by
  refine returnsInHanded_of_change (C := Try.checked) own started (by kernel_rfl) Try.func6
    (ChangeSpec.witness6 (enc := enc) (C := Try.checked) false ⟨#[], #[.int .i64 0, .slice none 0 0, .int .i64 0], []⟩ 8 (by kernel_rfl) (by kernel_rfl) (by kernel_rfl) (by kernel_rfl)) ?_
  intro W base args ds gs before hval0 hW hcnd _
  have hval : ∀ (j : Nat) t v, Try.f6.params[j]? = some t → args[j]? = some v → Value.okWide Try.prog W .any base t v := hval0
  have hW' := hW
  obtain ⟨p, q, hA0, hV, rfl, _, _⟩ := hW
  have hA : DataW.TrodAll enc Try.prog W 0 (fun _ => true) true Try.f6.params.toList args.toList ds p := hA0
  rw [Try.params6] at hA hval
  obtain ⟨v0, v1, v2, d0, d1, d2, p0, p1, p2, rfl, rfl, rfl, h0, h1, h2⟩ := trodAll_three hA
  obtain ⟨rfl, rfl⟩ := trodVars_none hV
  obtain ⟨a0, rfl, rfl, rfl, w0⟩ := open_int Try.underlying2 (hval 0 2 v0 rfl rfl) h0
  have hsl1 := okWide_slice Try.underlying22 (hval 1 22 v1 rfl rfl)
  obtain ⟨a2, rfl, rfl, rfl, w2⟩ := open_int Try.underlying2 (hval 2 2 v2 rfl rfl) h2
  clear hA0 hval0
  simp only [List.append_nil, List.nil_append] at hW'
  have hlt1 : ∀ x ∈ p1, x.block < W.heap.size := fun x hx => by simpa using hW'.lt x (by simp [hx])
  have harg1 : ∀ (W' : World), Below W.heap.size W W' → DataW.Trod enc Try.prog W' 0 (fun b => decide (b < W.heap.size)) true 22 v1 d1 p1 :=
    fun W' hn => Below.trod laidOut (by kernel_rfl) (of_decide_eq_true (by kernel_rfl)) h1 hn hlt1
  obtain ⟨o1, c1, l1, rfl, r1, k1, m1⟩ := longs_view Try.underlying22 cells2 Try.underlying2 h1 hsl1
  refine (walk a0 o1 c1 l1 k1 m1 a2 W r1).mono fun e W' ⟨he, hg⟩ => ?_
  subst he
  refine ⟨_, rfl, _, _, _, [], ([] : List MemPlace) ++ (p1 ++ (([] : List MemPlace))), [], hW', ?_, ?_, rfl, hg.frame _, fun h => by cases h⟩
  · exact trodAll_mk1 (shut_bool Try.underlying4 true)
  · exact trodAll_mk3 (shut_int Try.underlying2 w0) (harg1 _ hg) (shut_int Try.underlying2 w2)

theorem over : Rows.fieldInvertsRow.holds Try.pinned (OpenSpec.ofChange Rows.fieldInvertsSpec) :=
  OpenClaim.holds_of_wide 6 Try.f6 rfl rfl rfl rfl rfl rfl rfl ⟨rfl, rfl, rfl, rfl, rfl⟩ rfl rfl rfl rfl rfl (by kernel_rfl) Try.func6 (by kernel_rfl)
    (of_decide_eq_true (by kernel_rfl)) (by unfold Func.isWrapper; first | (rw [if_pos (by decide +kernel)]; kernel_rfl) | (rw [if_neg (by decide +kernel)]; exact ⟨rfl, rfl⟩))
    (fun os started H enc _ => lifted os started H enc)

/-- ████ THE STATEMENT ████ -/
theorem proved : Rows.FieldInvertsSaid :=
  over

end Go.Proofs.Ytjpmkcijkcnfiaa.fieldInverts
