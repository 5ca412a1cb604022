/-
  For any group and any numbers the program tells how it would have been another number: for every group of four int64 and all int64 c, m and log.
-/
import Derived.Test.YtlpbohkjiddelaaRows
import Derived.Test.YtlpbohkjiddelaaCalls164
import Derived.Test.YtlpbohkjiddelaaCalls165
import Derived.Test.YtlpbohkjiddelaaBase10
import Derived.WalkKit
import Derived.ProofKit
import Derived.OpenShut
import Derived.Carry
namespace Go.Proofs.Ytlpbohkjiddelaa.commitOthers
open Go.ChangeShapes Go.WideShapes Go.ChangeAt Go.RowKit Go.Deep Go.Proofs.Ytlpbohkjiddelaa.Base Go.Proofs.Ytlpbohkjiddelaa.Base2 Go.Proofs.Ytlpbohkjiddelaa.Base4 Go.Proofs.Ytlpbohkjiddelaa.Base10 Go.Proofs.Ytlpbohkjiddelaa.Num Go.Proofs.Ytlpbohkjiddelaa.Num56 Go.Proofs.Ytlpbohkjiddelaa.Calls157 Go.Proofs.Ytlpbohkjiddelaa.Calls158 Go.Proofs.Ytlpbohkjiddelaa.Calls160 Go.Proofs.Ytlpbohkjiddelaa.Calls159 Go.Proofs.Ytlpbohkjiddelaa.Calls161 Go.Proofs.Ytlpbohkjiddelaa.Calls163 Go.Proofs.Ytlpbohkjiddelaa.Calls164 Go.Proofs.Ytlpbohkjiddelaa.Calls165
set_option linter.unusedVariables false

theorem own : ownKnob Try.prog.godebug = none := by kernel_rfl

theorem laidOut : laidOutB Try.prog = true := by kernel_rfl

theorem cells2 : Try.prog.cellsOf 2 = 1 := by kernel_rfl

theorem cells_G : Try.prog.cellsOf 23 = 4 := by kernel_rfl

set_option maxRecDepth 100000 in
set_option maxHeartbeats 2000000 in
theorem walkF (P Q G H c m l d : Int) (hd : d ≠ 0)
    (cL : ∀ w, Calls Try.prog 12 #[.agg #[.int .i64 P, .int .i64 Q, .int .i64 G, .int .i64 H], .int .i64 c, .int .i64 m, .int .i64 l] w fun e w' => e = .returned (.tuple #[.int .i64 0, .int .i64 d]) ∧ Below w.heap.size w w')
    (cK : ∀ w, Calls Try.prog 10 #[.agg #[.int .i64 P, .int .i64 Q, .int .i64 G, .int .i64 H], .slice (some ⟨w.heap.size, 0, none⟩) 2 2, .slice (some ⟨w.heap.size + 1, 0, none⟩) 1 1] ((w.alloc (.cells #[.int .i64 m, .int .i64 l] 2)).alloc (.cells #[.int .i64 c] 2)) fun e w' => e = .returned (.int .i64 d) ∧ Below w.heap.size w w') (w : World) :
    Calls Try.prog 4 #[.agg #[.int .i64 P, .int .i64 Q, .int .i64 G, .int .i64 H], .int .i64 c, .int .i64 m, .int .i64 l] w fun e w' => e = .returned (.bool true) ∧ Below w.heap.size w w' := by
  have h1 : (d != 0) = true := by simpa using hd
  have h2 : (d == 0) = false := by simpa using hd
  have K := hid (Gb.new w P Q G H)
  obtain ⟨c0, c1, c2, c3⟩ := K.out.cells
  go_enter Try.func4, Try.ntmps4
  go_wp2_with (first
    | (go_at_call 12; refine (cL _).mono ?_; clear cL; rintro e w1 ⟨rfl, hB1⟩; have K1 := hid (K.out.below hB1); obtain ⟨d0, d1, d2, d3⟩ := K1.out.cells; clear hB1)
    | (go_at_call 10; refine (cK _).mono ?_; clear cK; rintro e w1 ⟨rfl, hB1⟩; have K2 := hid (K1.out.below hB1); obtain ⟨e0, e1, e2, e3⟩ := K2.out.cells; clear hB1))
  go_quiet (fail)
  all_goals
    go_wp2
    go_ret
    exact ⟨by simp, by first | exact K2.out.2 | exact K2.out.drew.2 | exact Go.Proofs.Ytlpbohkjiddelaa.Base.below_drewN K2.out.2 _⟩

set_option maxRecDepth 100000 in
set_option maxHeartbeats 2000000 in
theorem walkA (P Q G H c m l y : Int) (hy : y ≠ H)
    (cL : ∀ w, Calls Try.prog 12 #[.agg #[.int .i64 P, .int .i64 Q, .int .i64 G, .int .i64 H], .int .i64 c, .int .i64 m, .int .i64 l] w fun e w' => e = .returned (.tuple #[.int .i64 0, .int .i64 3]) ∧ Below w.heap.size w w')
    (cK : ∀ w, Calls Try.prog 10 #[.agg #[.int .i64 P, .int .i64 Q, .int .i64 G, .int .i64 H], .slice (some ⟨w.heap.size, 0, none⟩) 2 2, .slice (some ⟨w.heap.size + 1, 0, none⟩) 1 1] ((w.alloc (.cells #[.int .i64 m, .int .i64 l] 2)).alloc (.cells #[.int .i64 c] 2)) fun e w' => e = .returned (.int .i64 0) ∧ Below w.heap.size w w')
    (cP : ∀ w, Calls Try.prog 13 #[.int .i64 G, .int .i64 l, .int .i64 P] w fun e w' => e = .returned (.int .i64 y) ∧ w' = w) (w : World) :
    Calls Try.prog 4 #[.agg #[.int .i64 P, .int .i64 Q, .int .i64 G, .int .i64 H], .int .i64 c, .int .i64 m, .int .i64 l] w fun e w' => e = .returned (.bool true) ∧ Below w.heap.size w w' := by
  have h1 : (y != H) = true := by simpa using hy
  have K := hid (Gb.new w P Q G H)
  obtain ⟨c0, c1, c2, c3⟩ := K.out.cells
  go_enter Try.func4, Try.ntmps4
  go_wp2_with (first
    | (go_at_call 12; refine (cL _).mono ?_; clear cL; rintro e w1 ⟨rfl, hB1⟩; have K1 := hid (K.out.below hB1); obtain ⟨d0, d1, d2, d3⟩ := K1.out.cells; clear hB1)
    | (go_at_call 10; refine (cK _).mono ?_; clear cK; rintro e w1 ⟨rfl, hB1⟩; have K2 := hid (K1.out.below hB1); obtain ⟨e0, e1, e2, e3⟩ := K2.out.cells; clear hB1))
  go_region_held3 (fun w' => w'.cell? ⟨w.heap.size, 0, none⟩ = some (.int .i64 P) ∧ w'.cell? ⟨w.heap.size, 1, none⟩ = some (.int .i64 Q) ∧ w'.cell? ⟨w.heap.size, 2, none⟩ = some (.int .i64 G) ∧ w'.cell? ⟨w.heap.size, 3, none⟩ = some (.int .i64 H)) (first | exact ⟨e0, e1, e2, e3⟩)
    (first
      | (go_at_call 13; refine (cP _).mono ?_; rintro e w3 ⟨rfl, hw⟩; subst w3; have K2 := hid (show Gb w _ _ _ _ _ by first | exact K2.out | exact K2.out.drew); obtain ⟨e0, e1, e2, e3⟩ := K2.out.cells))
  all_goals
    go_wp2
    go_ret
    exact ⟨by simp, by first | exact K2.out.2 | exact K2.out.drew.2 | exact Go.Proofs.Ytlpbohkjiddelaa.Base.below_drewN K2.out.2 _⟩

set_option maxRecDepth 100000 in
set_option maxHeartbeats 2000000 in
theorem walkY (P Q G H c m l o : Int) (h1 : 0 ≤ o) (h2 : o < Q)
    (cL : ∀ w, Calls Try.prog 12 #[.agg #[.int .i64 P, .int .i64 Q, .int .i64 G, .int .i64 H], .int .i64 c, .int .i64 m, .int .i64 l] w fun e w' => e = .returned (.tuple #[.int .i64 o, .int .i64 0]) ∧ Below w.heap.size w w')
    (cK : ∀ w, Calls Try.prog 10 #[.agg #[.int .i64 P, .int .i64 Q, .int .i64 G, .int .i64 H], .slice (some ⟨w.heap.size, 0, none⟩) 2 2, .slice (some ⟨w.heap.size + 1, 0, none⟩) 1 1] ((w.alloc (.cells #[.int .i64 m, .int .i64 l] 2)).alloc (.cells #[.int .i64 c] 2)) fun e w' => e = .returned (.int .i64 0) ∧ Below w.heap.size w w')
    (cP : ∀ w, Calls Try.prog 13 #[.int .i64 G, .int .i64 l, .int .i64 P] w fun e w' => e = .returned (.int .i64 H) ∧ w' = w)
    (cD : ∀ w, Calls Try.prog 11 #[.agg #[.int .i64 P, .int .i64 Q, .int .i64 G, .int .i64 H], .int .i64 m, .int .i64 o] w fun e w' => e = .returned (.int .i64 c) ∧ Below w.heap.size w w') (w : World) :
    Calls Try.prog 4 #[.agg #[.int .i64 P, .int .i64 Q, .int .i64 G, .int .i64 H], .int .i64 c, .int .i64 m, .int .i64 l] w fun e w' => e = .returned (.bool true) ∧ Below w.heap.size w w' := by
  have h3 : (H != H) = false := bne_self_eq_false _
  have K := hid (Gb.new w P Q G H)
  obtain ⟨c0, c1, c2, c3⟩ := K.out.cells
  go_enter Try.func4, Try.ntmps4
  go_wp2_with (first
    | (go_at_call 12; refine (cL _).mono ?_; clear cL; rintro e w1 ⟨rfl, hB1⟩; have K1 := hid (K.out.below hB1); obtain ⟨d0, d1, d2, d3⟩ := K1.out.cells; clear hB1)
    | (go_at_call 10; refine (cK _).mono ?_; clear cK; rintro e w1 ⟨rfl, hB1⟩; have K2 := hid (K1.out.below hB1); obtain ⟨e0, e1, e2, e3⟩ := K2.out.cells; clear hB1))
  go_region_held3 (fun w' => w'.cell? ⟨w.heap.size, 0, none⟩ = some (.int .i64 P) ∧ w'.cell? ⟨w.heap.size, 1, none⟩ = some (.int .i64 Q) ∧ w'.cell? ⟨w.heap.size, 2, none⟩ = some (.int .i64 G) ∧ w'.cell? ⟨w.heap.size, 3, none⟩ = some (.int .i64 H)) (first | exact ⟨e0, e1, e2, e3⟩)
    (first
      | (go_at_call 13; refine (cP _).mono ?_; rintro e w3 ⟨rfl, hw⟩; subst w3; have K2 := hid (show Gb w _ _ _ _ _ by first | exact K2.out | exact K2.out.drew); obtain ⟨e0, e1, e2, e3⟩ := K2.out.cells))
  all_goals
    go_wp2_with (first
      | (go_at_call 11; refine (cD _).mono ?_; clear cD; rintro e w1 ⟨rfl, hB1⟩; have K3 := hid (K2.out.below hB1); obtain ⟨f0, f1, f2, f3⟩ := K3.out.cells; clear hB1)
      | (go_at_call 11; refine (cD _).mono ?_; clear cD; rintro e w1 ⟨rfl, hB1⟩; have K3 := hid (K2.out.drew.below hB1); clear hB1))
    go_ret
    exact ⟨by simp, K3.out.2⟩

theorem walk (P Q G H : Int) (wP : (Lit.int .i64 P).wf = true) (wQ : (Lit.int .i64 Q).wf = true) (wG : (Lit.int .i64 G).wf = true) (wH : (Lit.int .i64 H).wf = true) (c m l : Int) (w : World) :
    Calls Try.prog 4 #[.agg #[.int .i64 P, .int .i64 Q, .int .i64 G, .int .i64 H], .int .i64 c, .int .i64 m, .int .i64 l] w fun e w' => e = .returned (.bool true) ∧ Below w.heap.size w w' := by
  have cK := fun w => ak21 P Q G H m l c w w.heap.size rfl
  by_cases h : aC P Q G H [m, l] [c] = 0
  · rw [h] at cK
    obtain ⟨p, q, g, k, rfl, rfl, rfl, rfl, hG, h1, h2⟩ := aC_zero h
    obtain ⟨a, rfl, ha⟩ := h1 m (by simp)
    obtain ⟨b, rfl, hb⟩ := h1 l (by simp)
    obtain ⟨x, rfl, hx⟩ := h2 c (by simp)
    have p3 := hG.p3
    have pb := hG.big
    have ql := hG.qlt
    have cP := fun w => refPow_nat g b p (by omega) pb (by omega) w
    by_cases he : g ^ b % p = k
    · obtain ⟨o, ⟨ho, eo⟩, cL⟩ := Other_yes p q g k x a b hG ha hb hx he
      have cD := fun w => bound_any p g k a o (q : Int) (by omega) pb (by omega) (by omega) w
      rw [eo] at cD
      rw [he] at cP
      exact walkY _ _ _ _ _ _ _ _ (by omega) (by omega) cL cK cP cD w
    · exact walkA _ _ _ _ _ _ _ _ (fun e => he (by exact_mod_cast e)) (fun w => Other_arg p q g k x a b hG ha hb hx he w) cK cP w
  · exact walkF P Q G H c m l _ h (fun w => Other_bad P Q G H c m l h w) cK w

set_option maxRecDepth 100000 in
theorem lifted (os : Os) (started : os.Started) (H : Type) (enc : TypeId × Value → H) :
    ReturnsInHanded {} Try.checked os 4 .any (Rows.commitOthersSpec.pre6 enc Try.prog Try.f4 Rows.commitOthersRow.domain false) (Rows.commitOthersSpec.post enc Try.prog Try.f4 false true false false) := by
  refine returnsInHanded_of_change (C := Try.checked) own started (by kernel_rfl) Try.func4
    (ChangeSpec.witness6 (enc := enc) (C := Try.checked) false ⟨#[], #[.agg #[.int .i64 0, .int .i64 0, .int .i64 0, .int .i64 0], .int .i64 0, .int .i64 0, .int .i64 0], []⟩ 8 (by kernel_rfl) (by kernel_rfl) (by kernel_rfl) (by kernel_rfl)) ?_
  intro W base args ds gs before hval0 hW hcnd _
  have hval : ∀ (j : Nat) t v, Try.f4.params[j]? = some t → args[j]? = some v → Value.okWide Try.prog W .any base t v := hval0
  have hW' := hW
  obtain ⟨p, q, hA0, hV, rfl, _, _⟩ := hW
  have hA : DataW.TrodAll enc Try.prog W 0 (fun _ => true) true Try.f4.params.toList args.toList ds p := hA0
  rw [Try.params4] at hA hval
  obtain ⟨v0, v1, v2, v3, d0, d1, d2, d3, p0, p1, p2, p3, rfl, rfl, rfl, h0, h1, h2, h3⟩ := trodAll_four hA
  obtain ⟨rfl, rfl⟩ := trodVars_none hV
  have hsv0 := hval 0 23 v0 rfl rfl
  obtain ⟨a1, rfl, rfl, rfl, w1⟩ := open_int Try.underlying2 (hval 1 2 v1 rfl rfl) h1
  obtain ⟨a2, rfl, rfl, rfl, w2⟩ := open_int Try.underlying2 (hval 2 2 v2 rfl rfl) h2
  obtain ⟨a3, rfl, rfl, rfl, w3⟩ := open_int Try.underlying2 (hval 3 2 v3 rfl rfl) h3
  clear hA0 hval0
  simp only [List.append_nil] at hW'
  have hlt0 : ∀ x ∈ p0, x.block < W.heap.size := fun x hx => by simpa using hW'.lt x (by simp [hx])
  have harg0 : ∀ (W' : World), Below W.heap.size W W' → DataW.Trod enc Try.prog W' 0 (fun b => decide (b < W.heap.size)) true 23 v0 d0 p0 :=
    fun W' hn => Below.trod laidOut (by kernel_rfl) (of_decide_eq_true (by kernel_rfl)) h0 hn hlt0
  obtain ⟨x0a, x0b, x0c, x0d, rfl, w0a, w0b, w0c, w0d⟩ := struct4_view Try.underlying23 cells_G rfl rfl rfl rfl ⟨cells2, Try.underlying2⟩ ⟨cells2, Try.underlying2⟩ ⟨cells2, Try.underlying2⟩ ⟨cells2, Try.underlying2⟩ h0 hsv0
  refine (walk x0a x0b x0c x0d w0a w0b w0c w0d a1 a2 a3 W ).mono fun e W' ⟨he, hg⟩ => ?_
  subst he
  refine ⟨_, rfl, _, _, _, [], p0 ++ (([] : List MemPlace) ++ (([] : List MemPlace) ++ (([] : List MemPlace)))), [], hW', ?_, ?_, rfl, hg.frame _, fun h => by cases h⟩
  · exact trodAll_mk1 (shut_bool Try.underlying4 true)
  · exact trodAll_mk4 (harg0 _ hg) (shut_int Try.underlying2 w1) (shut_int Try.underlying2 w2) (shut_int Try.underlying2 w3)

theorem over : Rows.commitOthersRow.holds Try.pinned (OpenSpec.ofChange Rows.commitOthersSpec) :=
  OpenClaim.holds_of_wide 4 Try.f4 rfl rfl rfl rfl rfl rfl rfl ⟨rfl, rfl, rfl, rfl, rfl⟩ rfl rfl rfl rfl rfl (by kernel_rfl) Try.func4 (by kernel_rfl)
    (of_decide_eq_true (by kernel_rfl)) (by unfold Func.isWrapper; first | (rw [if_pos (by decide +kernel)]; kernel_rfl) | (rw [if_neg (by decide +kernel)]; exact ⟨rfl, rfl⟩))
    (fun os started H enc _ => lifted os started H enc)

/-- ████ THE STATEMENT ████ -/
theorem proved : Rows.CommitOthersSaid :=
  over

end Go.Proofs.Ytlpbohkjiddelaa.commitOthers
