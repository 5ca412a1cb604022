/-
  There and back is where one was, back and there too, and no two numbers become one, for any rounds and any two numbers; without a condition.
-/
import Derived.Test.YtngdhhhdnkkagaaRows
import Derived.Test.YtngdhhhdnkkagaaCalls106
import Derived.WalkKit
import Derived.ProofKit
import Derived.OpenShut
import Derived.Carry
namespace Go.Proofs.Ytngdhhhdnkkagaa.feistelBack
open Go.ChangeShapes Go.WideShapes Go.ChangeAt Go.RowKit Go.Deep Go.Proofs.Ytngdhhhdnkkagaa.Base Go.Proofs.Ytngdhhhdnkkagaa.Base2 Go.Proofs.Ytngdhhhdnkkagaa.Num16 Go.Proofs.Ytngdhhhdnkkagaa.Num17 Go.Proofs.Ytngdhhhdnkkagaa.Num34 Go.Proofs.Ytngdhhhdnkkagaa.Num51 Go.Proofs.Ytngdhhhdnkkagaa.Base4 Go.Proofs.Ytngdhhhdnkkagaa.Base5 Go.Proofs.Ytngdhhhdnkkagaa.Calls96 Go.Proofs.Ytngdhhhdnkkagaa.Calls103 Go.Proofs.Ytngdhhhdnkkagaa.Calls104 Go.Proofs.Ytngdhhhdnkkagaa.Calls105 Go.Proofs.Ytngdhhhdnkkagaa.Calls106
set_option linter.unusedVariables false

theorem own : ownKnob Try.prog.godebug = none := by kernel_rfl

theorem laidOut : laidOutB Try.prog = true := by kernel_rfl

theorem cells2 : Try.prog.cellsOf 2 = 1 := by kernel_rfl

theorem cellsR : Try.prog.cellsOf 34 = 1 := by kernel_rfl

theorem cells3 : Try.prog.cellsOf 3 = 1 := by kernel_rfl

set_option maxRecDepth 100000 in
set_option maxHeartbeats 4000000 in
theorem walk (ao : Option Addr) (cap : Nat) (L : List (List Int)) (kl : L.length ≤ cap) (ml : L.length ≤ 9223372036854775807) (x : Int) (wx : (Lit.int .i64 x).wf = true) (y : Int) (wy : (Lit.int .i64 y).wf = true) (w : World) (hrow : RRow w ao L) :
    Calls Try.prog 6 #[.slice ao L.length cap, .int .i64 x, .int .i64 y] w fun e w' => e = .returned (.bool true) ∧ Below w.heap.size w w' := by
  obtain ⟨c, hc⟩ := FC.ex L x
  have cR := fun w' (hB : Below w.heap.size w w') => refRounds_any ao cap L x c hc ml w' (rb hrow hB)
  clear wx wy
  by_cases h0 : c = 0
  · subst h0
    obtain ⟨hl, hR, h1, h2⟩ := hc.ok.1 rfl
    obtain ⟨q, rfl⟩ : ∃ q : Nat, x = (q : Int) := ⟨x.toNat, by omega⟩
    have hq : q < 256 := by omega
    have ha := sl_lt hR hq
    have hb := op_lt hR hq
    have c1 := Seal_yes ao cap L hR hl q hq w hrow
    have c2 := fun w' (hB : Below w.heap.size w w') => Open_yes ao cap L hR hl q hq w' (rb hrow hB)
    have c3 := fun w' (hB : Below w.heap.size w w') => Open_yes ao cap L hR hl (sl L q) ha w' (rb hrow hB)
    have c4 := fun w' (hB : Below w.heap.size w w') => Seal_yes ao cap L hR hl (op L q) hb w' (rb hrow hB)
    rw [op_sl hR hq] at c3
    rw [sl_op hR hq] at c4
    obtain ⟨d, hd⟩ := FC.ex L y
    by_cases hd0 : d = 0
    · subst hd0
      obtain ⟨_, _, g1, g2⟩ := hd.ok.1 rfl
      obtain ⟨r, rfl⟩ : ∃ r : Nat, y = (r : Int) := ⟨y.toNat, by omega⟩
      have hr : r < 256 := by omega
      have c5 := fun w' (hB : Below w.heap.size w w') => Seal_yes ao cap L hR hl r hr w' (rb hrow hB)
      by_cases e : q = r
      · subst e
        generalize L.length = n at *
        generalize sl L q = a at *
        generalize op L q = b at *
        clear hc hrow h1 h2 hd g1 g2
        go_enter Try.func6, Try.ntmps6
        go_wp2_with (first
          | (go_at_call 9; refine c1.mono ?_; rintro e w1 ⟨rfl, hB1⟩; clear c1)
          | (go_at_call 12; refine (c2 _ hB1).mono ?_; rintro e w2 ⟨rfl, hB2⟩; have hB12 := below_trans hB1 hB2; clear c2 hB1 hB2)
          | (go_at_call 10; refine (cR _ hB12).mono ?_; rintro e w2 ⟨rfl, hw⟩; subst w2)
          | (go_at_call 12; refine (c3 _ hB12).mono ?_; rintro e w3 ⟨rfl, hB3⟩; have hB13 := below_trans hB12 hB3; clear c3 hB12 hB3)
          | (go_at_call 9; refine (c4 _ hB13).mono ?_; rintro e w4 ⟨rfl, hB4⟩; have hB14 := below_trans hB13 hB4; clear c4 hB13 hB4)
          | (go_at_call 9; refine (c5 _ hB14).mono ?_; rintro e w5 ⟨rfl, hB5⟩; have hB15 := below_trans hB14 hB5; clear c5 hB14 hB5))
        go_ret
        exact ⟨by simp, hB15⟩
      · have hne : ¬ sl L r = sl L q := fun h => e (sl_inj hR hq hr h.symm)
        have e1 : ((q : Int) == (r : Int)) = false := by simp; omega
        have e2 : (((sl L r : Nat) : Int) == ((sl L q : Nat) : Int)) = false := by simp; omega
        generalize L.length = n at *
        generalize sl L q = a at *
        generalize op L q = b at *
        generalize sl L r = z at *
        clear hc hrow h1 h2 hd g1 g2
        go_enter Try.func6, Try.ntmps6
        go_wp2_with (first
          | (go_at_call 9; refine c1.mono ?_; rintro e w1 ⟨rfl, hB1⟩; clear c1)
          | (go_at_call 12; refine (c2 _ hB1).mono ?_; rintro e w2 ⟨rfl, hB2⟩; have hB12 := below_trans hB1 hB2; clear c2 hB1 hB2)
          | (go_at_call 10; refine (cR _ hB12).mono ?_; rintro e w2 ⟨rfl, hw⟩; subst w2)
          | (go_at_call 12; refine (c3 _ hB12).mono ?_; rintro e w3 ⟨rfl, hB3⟩; have hB13 := below_trans hB12 hB3; clear c3 hB12 hB3)
          | (go_at_call 9; refine (c4 _ hB13).mono ?_; rintro e w4 ⟨rfl, hB4⟩; have hB14 := below_trans hB13 hB4; clear c4 hB13 hB4)
          | (go_at_call 9; refine (c5 _ hB14).mono ?_; rintro e w5 ⟨rfl, hB5⟩; have hB15 := below_trans hB14 hB5; clear c5 hB14 hB5))
        go_ret
        exact ⟨by simp, hB15⟩
    · have c5 := fun w' (hB : Below w.heap.size w w') => Seal_bad ao cap L y d hd hd0 ml w' (rb hrow hB)
      have d1 : (d != 0) = true := by simpa using hd0
      have d2 : (d == 0) = false := by simpa using hd0
      generalize L.length = n at *
      generalize sl L q = a at *
      generalize op L q = b at *
      clear hc hrow h1 h2 hd
      go_enter Try.func6, Try.ntmps6
      go_wp2_with (first
        | (go_at_call 9; refine c1.mono ?_; rintro e w1 ⟨rfl, hB1⟩; clear c1)
        | (go_at_call 12; refine (c2 _ hB1).mono ?_; rintro e w2 ⟨rfl, hB2⟩; have hB12 := below_trans hB1 hB2; clear c2 hB1 hB2)
        | (go_at_call 10; refine (cR _ hB12).mono ?_; rintro e w2 ⟨rfl, hw⟩; subst w2)
        | (go_at_call 12; refine (c3 _ hB12).mono ?_; rintro e w3 ⟨rfl, hB3⟩; have hB13 := below_trans hB12 hB3; clear c3 hB12 hB3)
        | (go_at_call 9; refine (c4 _ hB13).mono ?_; rintro e w4 ⟨rfl, hB4⟩; have hB14 := below_trans hB13 hB4; clear c4 hB13 hB4)
        | (go_at_call 9; refine (c5 _ hB14).mono ?_; rintro e w5 ⟨rfl, hB5⟩; have hB15 := below_trans hB14 hB5; clear c5 hB14 hB5))
      go_ret
      exact ⟨by simp, hB15⟩
  · have c1 := Seal_bad ao cap L x c hc h0 ml w hrow
    have c2 := fun w' (hB : Below w.heap.size w w') => Open_bad ao cap L x c hc h0 ml w' (rb hrow hB)
    have h1 : (c != 0) = true := by simpa using h0
    have h2 : (c == 0) = false := by simpa using h0
    generalize L.length = n at *
    clear hc hrow
    go_enter Try.func6, Try.ntmps6
    go_wp2_with (first
      | (go_at_call 9; refine c1.mono ?_; rintro e w1 ⟨rfl, hB1⟩)
      | (go_at_call 12; refine (c2 _ hB1).mono ?_; rintro e w2 ⟨rfl, hB2⟩)
      | (go_at_call 10; refine (cR _ (below_trans hB1 hB2)).mono ?_; rintro e w2 ⟨rfl, hw⟩; subst w2))
    go_ret
    exact ⟨by simp, below_trans hB1 hB2⟩

set_option maxRecDepth 100000 in
theorem lifted (os : Os) (started : os.Started) (H : Type) (enc : TypeId × Value → H) :
    ReturnsInHanded {} Try.checked os 6 .any (Rows.feistelBackSpec.pre6 enc Try.prog Try.f6 Rows.feistelBackRow.domain false) (Rows.feistelBackSpec.post enc Try.prog Try.f6 false true false false) := by
  refine returnsInHanded_of_change (C := Try.checked) own started (by kernel_rfl) Try.func6
    (ChangeSpec.witness6 (enc := enc) (C := Try.checked) false ⟨#[], #[.slice none 0 0, .int .i64 0, .int .i64 0], []⟩ 8 (by kernel_rfl) (by kernel_rfl) (by kernel_rfl) (by kernel_rfl)) ?_
  intro W base args ds gs before hval0 hW hcnd _
  have hval : ∀ (j : Nat) t v, Try.f6.params[j]? = some t → args[j]? = some v → Value.okWide Try.prog W .any base t v := hval0
  have hW' := hW
  obtain ⟨p, q, hA0, hV, rfl, _, _⟩ := hW
  have hA : DataW.TrodAll enc Try.prog W 0 (fun _ => true) true Try.f6.params.toList args.toList ds p := hA0
  rw [Try.params6] at hA hval
  obtain ⟨v0, v1, v2, d0, d1, d2, p0, p1, p2, rfl, rfl, rfl, h0, h1, h2⟩ := trodAll_three hA
  obtain ⟨rfl, rfl⟩ := trodVars_none hV
  have hsl0 := okWide_slice Try.underlying22 (hval 0 22 v0 rfl rfl)
  obtain ⟨a1, rfl, rfl, rfl, w1⟩ := open_int Try.underlying3 (hval 1 3 v1 rfl rfl) h1
  obtain ⟨a2, rfl, rfl, rfl, w2⟩ := open_int Try.underlying3 (hval 2 3 v2 rfl rfl) h2
  clear hA0 hval0
  simp only [List.append_nil] at hW'
  have hlt0 : ∀ x ∈ p0, x.block < W.heap.size := fun x hx => by simpa using hW'.lt x (by simp [hx])
  have harg0 : ∀ (W' : World), Below W.heap.size W W' → DataW.Trod enc Try.prog W' 0 (fun b => decide (b < W.heap.size)) true 22 v0 d0 p0 :=
    fun W' hn => Below.trod laidOut (by kernel_rfl) (of_decide_eq_true (by kernel_rfl)) h0 hn hlt0
  obtain ⟨o0, c0, l0, rfl, r0, k0, m0⟩ := rows_view Try.underlying22 cellsR Try.underlying34 cells3 Try.underlying3 h0 hsl0
  refine (walk o0 c0 l0 k0 m0 a1 w1 a2 w2 W r0).mono fun e W' ⟨he, hg⟩ => ?_
  subst he
  refine ⟨_, rfl, _, _, _, [], p0 ++ (([] : List MemPlace) ++ (([] : List MemPlace))), [], hW', ?_, ?_, rfl, hg.frame _, fun h => by cases h⟩
  · exact trodAll_mk1 (shut_bool Try.underlying4 true)
  · exact trodAll_mk3 (harg0 _ hg) (shut_int Try.underlying3 w1) (shut_int Try.underlying3 w2)

theorem over : Rows.feistelBackRow.holds Try.pinned (OpenSpec.ofChange Rows.feistelBackSpec) :=
  OpenClaim.holds_of_wide 6 Try.f6 rfl rfl rfl rfl rfl rfl rfl ⟨rfl, rfl, rfl, rfl, rfl⟩ rfl rfl rfl rfl rfl (by kernel_rfl) Try.func6 (by kernel_rfl)
    (of_decide_eq_true (by kernel_rfl)) (by unfold Func.isWrapper; first | (rw [if_pos (by decide +kernel)]; kernel_rfl) | (rw [if_neg (by decide +kernel)]; exact ⟨rfl, rfl⟩))
    (fun os started H enc _ => lifted os started H enc)

/-- ████ THE STATEMENT ████ -/
theorem proved : Rows.FeistelBackSaid :=
  over

end Go.Proofs.Ytngdhhhdnkkagaa.feistelBack
