/-
  FERMAT, GALOIS: for any field that is not too great, and any element: its power by the field's size is it.
-/
import Derived.Test.YtjpmkcijkcnfiabRows
import Derived.Test.YtjpmkcijkcnfiabCalls86
import Derived.WalkKit
import Derived.ProofKit
import Derived.OpenShut
import Derived.Carry
namespace Go.Proofs.Ytjpmkcijkcnfiab.fieldFermat
open Go.ChangeShapes Go.WideShapes Go.ChangeAt Go.RowKit Go.Deep Go.Proofs.Ytjpmkcijkcnfiab.Base Go.Proofs.Ytjpmkcijkcnfiab.Base2 Go.Proofs.Ytjpmkcijkcnfiab.Num Go.Proofs.Ytjpmkcijkcnfiab.Num16 Go.Proofs.Ytjpmkcijkcnfiab.Num17 Go.Proofs.Ytjpmkcijkcnfiab.Num21 Go.Proofs.Ytjpmkcijkcnfiab.Num23 Go.Proofs.Ytjpmkcijkcnfiab.Num34 Go.Proofs.Ytjpmkcijkcnfiab.Num35 Go.Proofs.Ytjpmkcijkcnfiab.Num36 Go.Proofs.Ytjpmkcijkcnfiab.Num37 Go.Proofs.Ytjpmkcijkcnfiab.Num38 Go.Proofs.Ytjpmkcijkcnfiab.Base4 Go.Proofs.Ytjpmkcijkcnfiab.Calls56 Go.Proofs.Ytjpmkcijkcnfiab.Calls57 Go.Proofs.Ytjpmkcijkcnfiab.Calls20 Go.Proofs.Ytjpmkcijkcnfiab.Calls62 Go.Proofs.Ytjpmkcijkcnfiab.Calls75 Go.Proofs.Ytjpmkcijkcnfiab.Calls76 Go.Proofs.Ytjpmkcijkcnfiab.Calls77 Go.Proofs.Ytjpmkcijkcnfiab.Calls81 Go.Proofs.Ytjpmkcijkcnfiab.Calls82 Go.Proofs.Ytjpmkcijkcnfiab.Calls83 Go.Proofs.Ytjpmkcijkcnfiab.Calls84 Go.Proofs.Ytjpmkcijkcnfiab.Calls85 Go.Proofs.Ytjpmkcijkcnfiab.Calls86
set_option linter.unusedVariables false

theorem own : ownKnob Try.prog.godebug = none := by kernel_rfl

theorem laidOut : laidOutB Try.prog = true := by kernel_rfl

theorem cells2 : Try.prog.cellsOf 2 = 1 := by kernel_rfl

set_option maxRecDepth 100000 in
set_option maxHeartbeats 2000000 in
theorem walk (p : Int) (fo : Option Addr) (cf : Nat) (f : List Int) (kf : f.length ≤ cf) (mf : f.length ≤ 9223372036854775807) (a : Int) (w : World) (rf : IRow w fo f) :
    Calls Try.prog 5 #[.int .i64 p, .slice fo f.length cf, .int .i64 a] w fun e w' => e = .returned (.bool true) ∧ Below w.heap.size w w' := by
  obtain ⟨c, hc⟩ := ec_ex p f [a]
  by_cases h0 : c = 0
  · subst h0
    have cW := fun w' (hB : Below w.heap.size w w') (ce : Nat) => within_one p fo cf f a mf true ⟨fun _ => hc, fun _ => rfl⟩ w w' rf hB ce
    obtain ⟨P, rfl, hF, hin⟩ := hc.ok
    have ha := hin a (by simp)
    obtain ⟨A, rfl⟩ : ∃ A : Nat, a = (A : Int) := ⟨a.toNat, by omega⟩
    obtain ⟨F, hFi⟩ := hF.ex
    have hA : A < P ^ (f.length - 1) := by omega
    have hs := hF.size
    obtain ⟨x, hx⟩ := hF.el hA
    have cZ := fun w => refFieldSize_any P hF.1.1 hF.2.1 fo cf f (by have := hF.fl; omega) w
    rw [fsz_of hF.2.2.2.2.2.2.1] at cZ
    have cR := fun w' (hB : Below w.heap.size w w') => raised_el P f hF F hFi x (P ^ (f.length - 1)) (by omega) fo cf w' (irow_below rf hB (Nat.le_refl _))
    simp only [hF.fermat hFi, hx] at cR
    have hB0 : Hid (Below w.heap.size w w) := Below.refl _ _
    generalize P ^ (f.length - 1) = S at *
    generalize f.length = n at *
    clear rf hc hF hin ha hA hFi hx
    go_enter Try.func5, Try.ntmps5
    go_wp2_with (first
      | (go_at_call 8; refine (cW _ hB0.out _).mono ?_; rintro e w1 ⟨rfl, hB1⟩; have HB1 := hid hB1; clear hB1)
      | (go_at_call 12; refine (cZ _).mono ?_; rintro e w2 ⟨rfl, hw⟩; subst w2)
      | (go_at_call 11; refine (cR _ HB1.out).mono ?_; rintro e w3 ⟨rfl, hB3⟩; have HB3 := hid (below_trans HB1.out hB3); clear hB3))
    go_ret
    exact ⟨by simp, HB3.out⟩
  · have cW := fun w' (hB : Below w.heap.size w w') (ce : Nat) => within_one p fo cf f a mf false ⟨fun e => (by cases e), fun e => absurd e (ec_no hc h0)⟩ w w' rf hB ce
    have h2 := ec_two hc hc
    rw [if_neg h0] at h2
    have cA := fun w' (hB : Below w.heap.size w w') => fMul_bad p fo cf f a a mf c h2 h0 w' (irow_below rf hB (Nat.le_refl _))
    have hB0 : Hid (Below w.heap.size w w) := Below.refl _ _
    have g1 : (c != 0) = true := by simpa using h0
    have g2 : (c == 0) = false := by simpa using h0
    generalize f.length = n at *
    clear rf hc h2
    go_enter Try.func5, Try.ntmps5
    go_wp2_with (first
      | (go_at_call 8; refine (cW _ hB0.out _).mono ?_; rintro e w1 ⟨rfl, hB1⟩; have HB1 := hid hB1; clear hB1)
      | (go_at_call 9; refine (cA _ HB1.out).mono ?_; rintro e w2 ⟨rfl, hB2⟩; have HB2 := hid (below_trans HB1.out hB2); clear hB2))
    go_ret
    exact ⟨by simp, HB2.out⟩

set_option maxRecDepth 100000 in
theorem lifted (os : Os) (started : os.Started) (H : Type) (enc : TypeId × Value → H) :
    ReturnsInHanded {} Try.checked os 5 .any (Rows.fieldFermatSpec.pre6 enc Try.prog Try.f5 Rows.fieldFermatRow.domain false) (Rows.fieldFermatSpec.post enc Try.prog Try.f5 false true false false) := by
  refine returnsInHanded_of_change (C := Try.checked) own started (by kernel_rfl) Try.func5
    (ChangeSpec.witness6 (enc := enc) (C := Try.checked) false ⟨#[], #[.int .i64 0, .slice none 0 0, .int .i64 0], []⟩ 8 (by kernel_rfl) (by kernel_rfl) (by kernel_rfl) (by kernel_rfl)) ?_
  intro W base args ds gs before hval0 hW hcnd _
  have hval : ∀ (j : Nat) t v, Try.f5.params[j]? = some t → args[j]? = some v → Value.okWide Try.prog W .any base t v := hval0
  have hW' := hW
  obtain ⟨p, q, hA0, hV, rfl, _, _⟩ := hW
  have hA : DataW.TrodAll enc Try.prog W 0 (fun _ => true) true Try.f5.params.toList args.toList ds p := hA0
  rw [Try.params5] at hA hval
  obtain ⟨v0, v1, v2, d0, d1, d2, p0, p1, p2, rfl, rfl, rfl, h0, h1, h2⟩ := trodAll_three hA
  obtain ⟨rfl, rfl⟩ := trodVars_none hV
  obtain ⟨a0, rfl, rfl, rfl, w0⟩ := open_int Try.underlying2 (hval 0 2 v0 rfl rfl) h0
  have hsl1 := okWide_slice Try.underlying22 (hval 1 22 v1 rfl rfl)
  obtain ⟨a2, rfl, rfl, rfl, w2⟩ := open_int Try.underlying2 (hval 2 2 v2 rfl rfl) h2
  clear hA0 hval0
  simp only [List.append_nil, List.nil_append] at hW'
  have hlt1 : ∀ x ∈ p1, x.block < W.heap.size := fun x hx => by simpa using hW'.lt x (by simp [hx])
  have harg1 : ∀ (W' : World), Below W.heap.size W W' → DataW.Trod enc Try.prog W' 0 (fun b => decide (b < W.heap.size)) true 22 v1 d1 p1 :=
    fun W' hn => Below.trod laidOut (by kernel_rfl) (of_decide_eq_true (by kernel_rfl)) h1 hn hlt1
  obtain ⟨o1, c1, l1, rfl, r1, k1, m1⟩ := longs_view Try.underlying22 cells2 Try.underlying2 h1 hsl1
  refine (walk a0 o1 c1 l1 k1 m1 a2 W r1).mono fun e W' ⟨he, hg⟩ => ?_
  subst he
  refine ⟨_, rfl, _, _, _, [], ([] : List MemPlace) ++ (p1 ++ (([] : List MemPlace))), [], hW', ?_, ?_, rfl, hg.frame _, fun h => by cases h⟩
  · exact trodAll_mk1 (shut_bool Try.underlying4 true)
  · exact trodAll_mk3 (shut_int Try.underlying2 w0) (harg1 _ hg) (shut_int Try.underlying2 w2)

theorem over : Rows.fieldFermatRow.holds Try.pinned (OpenSpec.ofChange Rows.fieldFermatSpec) :=
  OpenClaim.holds_of_wide 5 Try.f5 rfl rfl rfl rfl rfl rfl rfl ⟨rfl, rfl, rfl, rfl, rfl⟩ rfl rfl rfl rfl rfl (by kernel_rfl) Try.func5 (by kernel_rfl)
    (of_decide_eq_true (by kernel_rfl)) (by unfold Func.isWrapper; first | (rw [if_pos (by decide +kernel)]; kernel_rfl) | (rw [if_neg (by decide +kernel)]; exact ⟨rfl, rfl⟩))
    (fun os started H enc _ => lifted os started H enc)

/-- ████ THE STATEMENT ████ -/
theorem proved : Rows.FieldFermatSaid :=
  over

end Go.Proofs.Ytjpmkcijkcnfiab.fieldFermat
