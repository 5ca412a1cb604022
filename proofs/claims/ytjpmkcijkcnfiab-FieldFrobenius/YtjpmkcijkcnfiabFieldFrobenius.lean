/-
  FROBENIUS: for any field and any two elements: a sum's power by the prime is the sum of both powers.
-/
import Derived.Test.YtjpmkcijkcnfiabRows
import Derived.Test.YtjpmkcijkcnfiabCalls86
import Derived.WalkKit
import Derived.ProofKit
import Derived.OpenShut
import Derived.Carry
namespace Go.Proofs.Ytjpmkcijkcnfiab.fieldFrobenius
open Go.ChangeShapes Go.WideShapes Go.ChangeAt Go.RowKit Go.Deep Go.Proofs.Ytjpmkcijkcnfiab.Base Go.Proofs.Ytjpmkcijkcnfiab.Base2 Go.Proofs.Ytjpmkcijkcnfiab.Num Go.Proofs.Ytjpmkcijkcnfiab.Num16 Go.Proofs.Ytjpmkcijkcnfiab.Num17 Go.Proofs.Ytjpmkcijkcnfiab.Num21 Go.Proofs.Ytjpmkcijkcnfiab.Num23 Go.Proofs.Ytjpmkcijkcnfiab.Num34 Go.Proofs.Ytjpmkcijkcnfiab.Num35 Go.Proofs.Ytjpmkcijkcnfiab.Num36 Go.Proofs.Ytjpmkcijkcnfiab.Num37 Go.Proofs.Ytjpmkcijkcnfiab.Num38 Go.Proofs.Ytjpmkcijkcnfiab.Base4 Go.Proofs.Ytjpmkcijkcnfiab.Calls56 Go.Proofs.Ytjpmkcijkcnfiab.Calls57 Go.Proofs.Ytjpmkcijkcnfiab.Calls20 Go.Proofs.Ytjpmkcijkcnfiab.Calls62 Go.Proofs.Ytjpmkcijkcnfiab.Calls75 Go.Proofs.Ytjpmkcijkcnfiab.Calls76 Go.Proofs.Ytjpmkcijkcnfiab.Calls77 Go.Proofs.Ytjpmkcijkcnfiab.Calls81 Go.Proofs.Ytjpmkcijkcnfiab.Calls82 Go.Proofs.Ytjpmkcijkcnfiab.Calls83 Go.Proofs.Ytjpmkcijkcnfiab.Calls84 Go.Proofs.Ytjpmkcijkcnfiab.Calls85 Go.Proofs.Ytjpmkcijkcnfiab.Calls86
set_option linter.unusedVariables false

theorem own : ownKnob Try.prog.godebug = none := by kernel_rfl

theorem laidOut : laidOutB Try.prog = true := by kernel_rfl

theorem cells2 : Try.prog.cellsOf 2 = 1 := by kernel_rfl

set_option maxRecDepth 100000 in
set_option maxHeartbeats 2000000 in
theorem walk (p : Int) (fo : Option Addr) (cf : Nat) (f : List Int) (kf : f.length ≤ cf) (mf : f.length ≤ 9223372036854775807) (a b : Int) (w : World) (rf : IRow w fo f) :
    Calls Try.prog 4 #[.int .i64 p, .slice fo f.length cf, .int .i64 a, .int .i64 b] w fun e w' => e = .returned (.bool true) ∧ Below w.heap.size w w' := by
  obtain ⟨c, hc⟩ := ec_ex p f [a, b]
  by_cases h0 : c = 0
  · subst h0
    have cW := fun w' (hB : Below w.heap.size w w') (ce : Nat) => within_two p fo cf f a b mf true ⟨fun _ => hc, fun _ => rfl⟩ w w' rf hB ce
    obtain ⟨P, rfl, hF, hin⟩ := hc.ok
    have ha := hin a (by simp)
    have hb := hin b (by simp)
    obtain ⟨A, rfl⟩ : ∃ A : Nat, a = (A : Int) := ⟨a.toNat, by omega⟩
    obtain ⟨B, rfl⟩ : ∃ B : Nat, b = (B : Int) := ⟨b.toNat, by omega⟩
    obtain ⟨F, hFi⟩ := hF.ex
    obtain ⟨x, hx⟩ := hF.el (a := A) (by omega)
    obtain ⟨y, hy⟩ := hF.el (a := B) (by omega)
    have hP2 := hF.2.1
    have hone := hFi.one
    have cA := fAdd_el P f hF F hFi x y fo cf w rf
    have cR1 := fun w' (hB : Below w.heap.size w w') => raised_el P f hF F hFi x P (by omega) fo cf w' (irow_below rf hB (Nat.le_refl _))
    have cR2 := fun w' (hB : Below w.heap.size w w') => raised_el P f hF F hFi y P (by omega) fo cf w' (irow_below rf hB (Nat.le_refl _))
    have cR3 := fun w' (hB : Below w.heap.size w w') => raised_el P f hF F hFi (F.add x y) P (by omega) fo cf w' (irow_below rf hB (Nat.le_refl _))
    have cR4 := fun w' (hB : Below w.heap.size w w') => raised_el P f hF F hFi F.one P (by omega) fo cf w' (irow_below rf hB (Nat.le_refl _))
    have cA2 := fun w' (hB : Below w.heap.size w w') => fAdd_el P f hF F hFi (Go.Proofs.Ytjpmkcijkcnfiab.Num20.pw F x P) (Go.Proofs.Ytjpmkcijkcnfiab.Num20.pw F y P) fo cf w' (irow_below rf hB (Nat.le_refl _))
    simp only [Go.Proofs.Ytjpmkcijkcnfiab.Num22.frob F hF.1 hFi.2.2.2.2] at cR3
    simp only [Go.Proofs.Ytjpmkcijkcnfiab.Num20.pw_one, hone, show ((1 : Nat) : Int) = 1 from rfl] at cR4
    rw [hx, hy] at cA
    simp only [hx] at cR1
    simp only [hy] at cR2
    clear rf hc hin ha hb hone hx hy hFi hF
    generalize num (F.add (Go.Proofs.Ytjpmkcijkcnfiab.Num20.pw F x P) (Go.Proofs.Ytjpmkcijkcnfiab.Num20.pw F y P)) = tN at *
    generalize num (F.add x y) = sN at *
    generalize num (Go.Proofs.Ytjpmkcijkcnfiab.Num20.pw F x P) = uN at *
    generalize num (Go.Proofs.Ytjpmkcijkcnfiab.Num20.pw F y P) = vN at *
    generalize f.length = n at *
    go_enter Try.func4, Try.ntmps4
    go_wp2_with (first
      | (go_at_call 10; refine (cA).mono ?_; rintro e w1 ⟨rfl, hB1⟩; have HB1 := hid hB1; clear hB1 cA)
      | (go_at_call 8; refine (cW _ HB1.out _).mono ?_; rintro e w2 ⟨rfl, hB2⟩; have HB2 := hid hB2; clear hB2)
      | (go_at_call 11; refine (cR1 _ HB2.out).mono ?_; rintro e w3 ⟨rfl, hB3⟩; have HB3 := hid (below_trans HB2.out hB3); clear hB3 cR1)
      | (go_at_call 11; refine (cR2 _ HB3.out).mono ?_; rintro e w4 ⟨rfl, hB4⟩; have HB4 := hid (below_trans HB3.out hB4); clear hB4 cR2)
      | (go_at_call 11; refine (cR3 _ HB4.out).mono ?_; rintro e w5 ⟨rfl, hB5⟩; have HB5 := hid (below_trans HB4.out hB5); clear hB5 cR3)
      | (go_at_call 10; refine (cA2 _ HB5.out).mono ?_; rintro e w6 ⟨rfl, hB6⟩; have HB6 := hid (below_trans HB5.out hB6); clear hB6)
      | (go_at_call 11; refine (cR4 _ HB6.out).mono ?_; rintro e w7 ⟨rfl, hB7⟩; have HB7 := hid (below_trans HB6.out hB7); clear hB7))
    go_ret
    exact ⟨by simp, HB7.out⟩
  · have cW := fun w' (hB : Below w.heap.size w w') (ce : Nat) => within_two p fo cf f a b mf false ⟨fun e => (by cases e), fun e => absurd e (ec_no hc h0)⟩ w w' rf hB ce
    have cA := fAdd_bad p fo cf f a b mf c hc h0 w rf
    have g1 : (c != 0) = true := by simpa using h0
    have g2 : (c == 0) = false := by simpa using h0
    generalize f.length = n at *
    clear rf hc
    go_enter Try.func4, Try.ntmps4
    go_wp2_with (first
      | (go_at_call 10; refine (cA).mono ?_; rintro e w1 ⟨rfl, hB1⟩; have HB1 := hid hB1; clear hB1)
      | (go_at_call 8; refine (cW _ HB1.out _).mono ?_; rintro e w2 ⟨rfl, hB2⟩; have HB2 := hid hB2; clear hB2))
    go_ret
    exact ⟨by simp, HB2.out⟩

set_option maxRecDepth 100000 in
theorem lifted (os : Os) (started : os.Started) (H : Type) (enc : TypeId × Value → H) :
    ReturnsInHanded {} Try.checked os 4 .any (Rows.fieldFrobeniusSpec.pre6 enc Try.prog Try.f4 Rows.fieldFrobeniusRow.domain false) (Rows.fieldFrobeniusSpec.post enc Try.prog Try.f4 false true false false) := by
  refine returnsInHanded_of_change (C := Try.checked) own started (by kernel_rfl) Try.func4
    (ChangeSpec.witness6 (enc := enc) (C := Try.checked) false ⟨#[], #[.int .i64 0, .slice none 0 0, .int .i64 0, .int .i64 0], []⟩ 8 (by kernel_rfl) (by kernel_rfl) (by kernel_rfl) (by kernel_rfl)) ?_
  intro W base args ds gs before hval0 hW hcnd _
  have hval : ∀ (j : Nat) t v, Try.f4.params[j]? = some t → args[j]? = some v → Value.okWide Try.prog W .any base t v := hval0
  have hW' := hW
  obtain ⟨p, q, hA0, hV, rfl, _, _⟩ := hW
  have hA : DataW.TrodAll enc Try.prog W 0 (fun _ => true) true Try.f4.params.toList args.toList ds p := hA0
  rw [Try.params4] at hA hval
  obtain ⟨v0, v1, v2, v3, d0, d1, d2, d3, p0, p1, p2, p3, rfl, rfl, rfl, h0, h1, h2, h3⟩ := trodAll_four hA
  obtain ⟨rfl, rfl⟩ := trodVars_none hV
  obtain ⟨a0, rfl, rfl, rfl, w0⟩ := open_int Try.underlying2 (hval 0 2 v0 rfl rfl) h0
  have hsl1 := okWide_slice Try.underlying22 (hval 1 22 v1 rfl rfl)
  obtain ⟨a2, rfl, rfl, rfl, w2⟩ := open_int Try.underlying2 (hval 2 2 v2 rfl rfl) h2
  obtain ⟨a3, rfl, rfl, rfl, w3⟩ := open_int Try.underlying2 (hval 3 2 v3 rfl rfl) h3
  clear hA0 hval0
  simp only [List.append_nil, List.nil_append] at hW'
  have hlt1 : ∀ x ∈ p1, x.block < W.heap.size := fun x hx => by simpa using hW'.lt x (by simp [hx])
  have harg1 : ∀ (W' : World), Below W.heap.size W W' → DataW.Trod enc Try.prog W' 0 (fun b => decide (b < W.heap.size)) true 22 v1 d1 p1 :=
    fun W' hn => Below.trod laidOut (by kernel_rfl) (of_decide_eq_true (by kernel_rfl)) h1 hn hlt1
  obtain ⟨o1, c1, l1, rfl, r1, k1, m1⟩ := longs_view Try.underlying22 cells2 Try.underlying2 h1 hsl1
  refine (walk a0 o1 c1 l1 k1 m1 a2 a3 W r1).mono fun e W' ⟨he, hg⟩ => ?_
  subst he
  refine ⟨_, rfl, _, _, _, [], ([] : List MemPlace) ++ (p1 ++ (([] : List MemPlace) ++ (([] : List MemPlace)))), [], hW', ?_, ?_, rfl, hg.frame _, fun h => by cases h⟩
  · exact trodAll_mk1 (shut_bool Try.underlying4 true)
  · exact trodAll_mk4 (shut_int Try.underlying2 w0) (harg1 _ hg) (shut_int Try.underlying2 w2) (shut_int Try.underlying2 w3)

theorem over : Rows.fieldFrobeniusRow.holds Try.pinned (OpenSpec.ofChange Rows.fieldFrobeniusSpec) :=
  OpenClaim.holds_of_wide 4 Try.f4 rfl rfl rfl rfl rfl rfl rfl ⟨rfl, rfl, rfl, rfl, rfl⟩ rfl rfl rfl rfl rfl (by kernel_rfl) Try.func4 (by kernel_rfl)
    (of_decide_eq_true (by kernel_rfl)) (by unfold Func.isWrapper; first | (rw [if_pos (by decide +kernel)]; kernel_rfl) | (rw [if_neg (by decide +kernel)]; exact ⟨rfl, rfl⟩))
    (fun os started H enc _ => lifted os started H enc)

/-- ████ THE STATEMENT ████ -/
theorem proved : Rows.FieldFrobeniusSaid :=
  over

end Go.Proofs.Ytjpmkcijkcnfiab.fieldFrobenius
