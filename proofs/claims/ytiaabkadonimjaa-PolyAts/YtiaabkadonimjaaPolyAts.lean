/-
  For any polynomial and any number the program tells what it is there: with no condition.
-/
import Derived.Test.YtiaabkadonimjaaRows
import Derived.Test.YtiaabkadonimjaaCalls61
import Derived.Test.YtiaabkadonimjaaCalls67
import Derived.Test.YtiaabkadonimjaaCalls20
import Derived.WalkKit
import Derived.ProofKit
import Derived.OpenShut
import Derived.Carry
namespace Go.Proofs.Ytiaabkadonimjaa.polyAts
open Go.ChangeShapes Go.WideShapes Go.ChangeAt Go.RowKit Go.Deep Go.Proofs.Ytiaabkadonimjaa.Base Go.Proofs.Ytiaabkadonimjaa.Base2 Go.Proofs.Ytiaabkadonimjaa.Num Go.Proofs.Ytiaabkadonimjaa.Num7 Go.Proofs.Ytiaabkadonimjaa.Num13 Go.Proofs.Ytiaabkadonimjaa.Num16 Go.Proofs.Ytiaabkadonimjaa.Num17 Go.Proofs.Ytiaabkadonimjaa.Num34 Go.Proofs.Ytiaabkadonimjaa.Num35 Go.Proofs.Ytiaabkadonimjaa.Base4 Go.Proofs.Ytiaabkadonimjaa.Calls20 Go.Proofs.Ytiaabkadonimjaa.Calls56 Go.Proofs.Ytiaabkadonimjaa.Calls57 Go.Proofs.Ytiaabkadonimjaa.Calls61 Go.Proofs.Ytiaabkadonimjaa.Calls62 Go.Proofs.Ytiaabkadonimjaa.Calls66 Go.Proofs.Ytiaabkadonimjaa.Calls67
set_option linter.unusedVariables false

theorem own : ownKnob Try.prog.godebug = none := by kernel_rfl

theorem laidOut : laidOutB Try.prog = true := by kernel_rfl

theorem cells2 : Try.prog.cellsOf 2 = 1 := by kernel_rfl

theorem walk (p : Int) (ao : Option Addr) (ca : Nat) (a : List Int) (ka : a.length ≤ ca) (ma : a.length ≤ 9223372036854775807) (x : Int) (w : World) (ra : IRow w ao a) :
    Calls Try.prog 8 #[.int .i64 p, .slice ao a.length ca, .int .i64 x] w fun e w' => e = .returned (.bool true) ∧ Below w.heap.size w w' := by
  obtain ⟨c, hc⟩ := pc_ex p a
  have cC := fun w' (hB : Below w.heap.size w w') => refPolyCheck_any p ao ca a ma c hc w' (irow_below ra hB (Nat.le_refl _))
  have cF := fun y w => first_any c y w
  by_cases h0 : c = 0
  · subst h0
    obtain ⟨P, rfl, hP, hP2, ha, hca⟩ := hc.ok
    simp only [if_pos] at cF
    by_cases hx : -2147483648 ≤ x ∧ x ≤ 2147483648
    · have cA := At_yes P hP hP2 ao ca a ha hca x hx w ra
      have cR := fun w' (hB : Below w.heap.size w w') => refValue_any P (by have := hP.1; omega) hP2 ao ca a x hca.1 (by omega) w' (irow_below ra hB (Nat.le_refl _))
      have cB := fun w => both_yes x hx w
      generalize (rs (ev a x) P : Int) = r at *
      generalize a.length = na at *
      clear hc ra hca
      go_enter Try.func8, Try.ntmps8
      go_wp2_with (first
        | (go_at_call 21; refine cA.mono ?_; rintro e w1 ⟨rfl, hB⟩)
        | (go_at_call 10; refine (cC _ hB).mono ?_; rintro e w2 ⟨rfl, hw⟩; subst w2)
        | (go_at_call 23; refine (cB _).mono ?_; rintro e w2 ⟨rfl, hw⟩; subst w2)
        | (go_at_call 22; refine (cF _ _).mono ?_; rintro e w2 ⟨rfl, hw⟩; subst w2)
        | (go_at_call 24; refine (cR _ hB).mono ?_; rintro e w3 ⟨rfl, hB3⟩))
      go_ret
      exact ⟨by simp, below_trans hB hB3⟩
    · have cA := At_far P hP hP2 ao ca a ha hca x (by omega) w ra
      have cB := fun w => both_no x hx w
      generalize a.length = na at *
      clear hc ra hca hx
      go_enter Try.func8, Try.ntmps8
      go_wp2_with (first
        | (go_at_call 21; refine cA.mono ?_; rintro e w1 ⟨rfl, hB⟩)
        | (go_at_call 10; refine (cC _ hB).mono ?_; rintro e w2 ⟨rfl, hw⟩; subst w2)
        | (go_at_call 23; refine (cB _).mono ?_; rintro e w2 ⟨rfl, hw⟩; subst w2)
        | (go_at_call 22; refine (cF _ _).mono ?_; rintro e w2 ⟨rfl, hw⟩; subst w2))
      go_ret
      exact ⟨rfl, hB⟩
  · have cA := At_bad p ao ca a ma x c hc h0 w ra
    simp only [if_neg h0] at cF
    have h1 : (c != 0) = true := by simpa using h0
    have h2 : (c == 0) = false := by simpa using h0
    have cB : ∃ y : Int, ∀ w, Calls Try.prog 23 #[.int .i64 x, .int .i64 0] w fun e w' => e = .returned (.int .i64 y) ∧ w' = w := by
      by_cases hx : -2147483648 ≤ x ∧ x ≤ 2147483648
      · exact ⟨0, fun w => both_yes x hx w⟩
      · exact ⟨2, fun w => both_no x hx w⟩
    obtain ⟨y, cB⟩ := cB
    generalize a.length = na at *
    clear hc ra
    go_enter Try.func8, Try.ntmps8
    go_wp2_with (first
      | (go_at_call 21; refine cA.mono ?_; rintro e w1 ⟨rfl, hB⟩)
      | (go_at_call 10; refine (cC _ hB).mono ?_; rintro e w2 ⟨rfl, hw⟩; subst w2)
      | (go_at_call 23; refine (cB _).mono ?_; rintro e w2 ⟨rfl, hw⟩; subst w2)
      | (go_at_call 22; refine (cF _ _).mono ?_; rintro e w2 ⟨rfl, hw⟩; subst w2))
    go_ret
    exact ⟨rfl, hB⟩

set_option maxRecDepth 100000 in
theorem lifted (os : Os) (started : os.Started) (H : Type) (enc : TypeId × Value → H) :
    ReturnsInHanded {} Try.checked os 8 .any (Rows.polyAtsSpec.pre6 enc Try.prog Try.f8 Rows.polyAtsRow.domain false) (Rows.polyAtsSpec.post enc Try.prog Try.f8 false true false false) := by
  refine returnsInHanded_of_change (C := Try.checked) own started (by kernel_rfl) Try.func8
    (ChangeSpec.witness6 (enc := enc) (C := Try.checked) false ⟨#[], #[.int .i64 0, .slice none 0 0, .int .i64 0], []⟩ 8 (by kernel_rfl) (by kernel_rfl) (by kernel_rfl) (by kernel_rfl)) ?_
  intro W base args ds gs before hval0 hW hcnd _
  have hval : ∀ (j : Nat) t v, Try.f8.params[j]? = some t → args[j]? = some v → Value.okWide Try.prog W .any base t v := hval0
  have hW' := hW
  obtain ⟨p, q, hA0, hV, rfl, _, _⟩ := hW
  have hA : DataW.TrodAll enc Try.prog W 0 (fun _ => true) true Try.f8.params.toList args.toList ds p := hA0
  rw [Try.params8] at hA hval
  obtain ⟨v0, v1, v2, d0, d1, d2, p0, p1, p2, rfl, rfl, rfl, h0, h1, h2⟩ := trodAll_three hA
  obtain ⟨rfl, rfl⟩ := trodVars_none hV
  obtain ⟨a0, rfl, rfl, rfl, w0⟩ := open_int Try.underlying2 (hval 0 2 v0 rfl rfl) h0
  have hsl1 := okWide_slice Try.underlying22 (hval 1 22 v1 rfl rfl)
  obtain ⟨a2, rfl, rfl, rfl, w2⟩ := open_int Try.underlying2 (hval 2 2 v2 rfl rfl) h2
  clear hA0 hval0
  simp only [List.append_nil, List.nil_append] at hW'
  have hlt1 : ∀ x ∈ p1, x.block < W.heap.size := fun x hx => by simpa using hW'.lt x (by simp [hx])
  have harg1 : ∀ (W' : World), Below W.heap.size W W' → DataW.Trod enc Try.prog W' 0 (fun b => decide (b < W.heap.size)) true 22 v1 d1 p1 :=
    fun W' hn => Below.trod laidOut (by kernel_rfl) (of_decide_eq_true (by kernel_rfl)) h1 hn hlt1
  obtain ⟨o1, c1, l1, rfl, r1, k1, m1⟩ := longs_view Try.underlying22 cells2 Try.underlying2 h1 hsl1
  refine (walk a0 o1 c1 l1 k1 m1 a2 W r1).mono fun e W' ⟨he, hg⟩ => ?_
  subst he
  refine ⟨_, rfl, _, _, _, [], ([] : List MemPlace) ++ (p1 ++ (([] : List MemPlace))), [], hW', ?_, ?_, rfl, hg.frame _, fun h => by cases h⟩
  · exact trodAll_mk1 (shut_bool Try.underlying4 true)
  · exact trodAll_mk3 (shut_int Try.underlying2 w0) (harg1 _ hg) (shut_int Try.underlying2 w2)

theorem over : Rows.polyAtsRow.holds Try.pinned (OpenSpec.ofChange Rows.polyAtsSpec) :=
  OpenClaim.holds_of_wide 8 Try.f8 rfl rfl rfl rfl rfl rfl rfl ⟨rfl, rfl, rfl, rfl, rfl⟩ rfl rfl rfl rfl rfl (by kernel_rfl) Try.func8 (by kernel_rfl)
    (of_decide_eq_true (by kernel_rfl)) (by unfold Func.isWrapper; first | (rw [if_pos (by decide +kernel)]; kernel_rfl) | (rw [if_neg (by decide +kernel)]; exact ⟨rfl, rfl⟩))
    (fun os started H enc _ => lifted os started H enc)

/-- ████ THE STATEMENT ████ -/
theorem proved : Rows.PolyAtsSaid :=
  over

end Go.Proofs.Ytiaabkadonimjaa.polyAts
