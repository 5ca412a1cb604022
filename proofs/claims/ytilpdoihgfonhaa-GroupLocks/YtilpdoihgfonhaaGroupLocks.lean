/-
  For any group and any three numbers: Lock answers the pair, or what is wrong, as the document asks.
-/
import Derived.Test.YtilpdoihgfonhaaRows
import Derived.Test.YtilpdoihgfonhaaCalls161
import Derived.Test.YtilpdoihgfonhaaBase10
import Derived.WalkKit
import Derived.ProofKit
import Derived.OpenShut
import Derived.Carry
namespace Go.Proofs.Ytilpdoihgfonhaa.groupLocks
open Go.ChangeShapes Go.WideShapes Go.ChangeAt Go.RowKit Go.Deep Go.Proofs.Ytilpdoihgfonhaa.Base Go.Proofs.Ytilpdoihgfonhaa.Base2 Go.Proofs.Ytilpdoihgfonhaa.Base4 Go.Proofs.Ytilpdoihgfonhaa.Base10 Go.Proofs.Ytilpdoihgfonhaa.Num Go.Proofs.Ytilpdoihgfonhaa.Num56 Go.Proofs.Ytilpdoihgfonhaa.Calls157 Go.Proofs.Ytilpdoihgfonhaa.Calls158 Go.Proofs.Ytilpdoihgfonhaa.Calls160 Go.Proofs.Ytilpdoihgfonhaa.Calls159 Go.Proofs.Ytilpdoihgfonhaa.Calls161
set_option linter.unusedVariables false

theorem own : ownKnob Try.prog.godebug = none := by kernel_rfl

theorem laidOut : laidOutB Try.prog = true := by kernel_rfl

theorem cells2 : Try.prog.cellsOf 2 = 1 := by kernel_rfl

theorem cells_G : Try.prog.cellsOf 23 = 4 := by kernel_rfl

set_option maxRecDepth 100000 in
set_option maxHeartbeats 1000000 in
theorem walkF (P Q G H x m r : Int) (h : aC P Q G H [r] [x, m] ≠ 0) (w : World) :
    Calls Try.prog 6 #[.agg #[.int .i64 P, .int .i64 Q, .int .i64 G, .int .i64 H], .int .i64 x, .int .i64 m, .int .i64 r] w fun e w' => e = .returned (.bool true) ∧ Below w.heap.size w w' := by
  have cL := fun w => Lock_bad P Q G H x m r h w
  have cK := fun (w1 : World) => ak12 P Q G H r x m (w1.alloc (.cells #[.int .i64 0, .int .i64 0] 36)) (w1.heap.size + 1) (World.size_alloc _ _).symm
  have K := hid (Gb.new w P Q G H)
  obtain ⟨c0, c1, c2, c3⟩ := K.out.cells
  generalize aC P Q G H [r] [x, m] = c at *
  have h1 : (c != 0) = true := by simpa using h
  go_enter Try.func6, Try.ntmps6
  go_wp2_with (first
    | (go_at_call 15; refine (cL _).mono ?_; clear cL; rintro e w1 ⟨rfl, hB1⟩; have K1 := hid ((K.out.below hB1).alloc (.cells #[.int .i64 0, .int .i64 0] 36)); obtain ⟨d0, d1, d2, d3⟩ := K1.out.cells; have R1 := hid (BoxC.new w1 36 #[.int .i64 0, .int .i64 0]); obtain ⟨r0, r1, f0, f1⟩ := box_pair R1.out; clear hB1)
    | (go_at_call 12; refine (cK _).mono ?_; clear cK; rintro e w2 ⟨rfl, hB2⟩; have K2 := hid (K1.out.below hB2); obtain ⟨e0, e1, e2, e3⟩ := K2.out.cells; have R2 := hid ((hB2.block _ R1.out.lt).trans R1.out); obtain ⟨s0, s1, _, _⟩ := box_pair R2.out; clear hB2))
  go_ret
  exact ⟨by simp, K2.out.2⟩

set_option maxRecDepth 100000 in
set_option maxHeartbeats 2000000 in
theorem walkY (P Q G H x m r : Nat) (hG : Grp P Q G H) (hr : r < Q) (hx : Mem P Q x) (hm : Mem P Q m) (w : World) :
    Calls Try.prog 6 #[.agg #[.int .i64 (P : Int), .int .i64 (Q : Int), .int .i64 (G : Int), .int .i64 (H : Int)], .int .i64 (x : Int), .int .i64 (m : Int), .int .i64 (r : Int)] w fun e w' => e = .returned (.bool true) ∧ Below w.heap.size w w' := by
  have p3 := hG.p3
  have pb := hG.big
  have ql := hG.qlt
  have ml := hm.2.1
  have cL := fun w => Lock_yes P Q G H x m r hG hr hx hm w
  have cK := fun (w1 : World) => ak12 (P : Int) (Q : Int) (G : Int) (H : Int) (r : Int) (x : Int) (m : Int) (w1.alloc (.cells #[.int .i64 (G ^ r % P : Nat), .int .i64 (m * (x ^ r % P) % P : Nat)] 36)) (w1.heap.size + 1) (World.size_alloc _ _).symm
  rw [aC_of hG (ex1 hr) (me2 hx hm)] at cK
  have cA := fun w => refPow_nat G r P (by omega) pb (by omega) w
  have cB := fun w => refPow_nat x r P (by omega) pb (by omega) w
  have yl : x ^ r % P < P := Nat.mod_lt _ (by omega)
  obtain ⟨m1, m2⟩ := mul_bds pb ml yl
  have hw' : IntKind.i64.wrap ((m : Int) * ((x ^ r % P : Nat) : Int)) = (m : Int) * ((x ^ r % P : Nat) : Int) := wrap_in _ (by omega) (by omega)
  have ht := mul_tmod m (x ^ r % P) P
  have n0 : ¬ (P : Int) = 0 := by omega
  have n1 : ¬ P = 0 := by omega
  have K := hid (Gb.new w (P : Int) (Q : Int) (G : Int) (H : Int))
  obtain ⟨c0, c1, c2, c3⟩ := K.out.cells
  clear hG hr p3 pb ql hx hm yl ml
  generalize x ^ r % P = y at *
  generalize m * y % P = b at *
  generalize G ^ r % P = a at *
  go_enter Try.func6, Try.ntmps6
  go_wp2_with (first
    | (go_at_call 15; refine (cL _).mono ?_; clear cL; rintro e w1 ⟨rfl, hB1⟩; have K1 := hid ((K.out.below hB1).alloc (.cells #[.int .i64 (a : Int), .int .i64 (b : Int)] 36)); obtain ⟨d0, d1, d2, d3⟩ := K1.out.cells; have R1 := hid (BoxC.new w1 36 #[.int .i64 (a : Int), .int .i64 (b : Int)]); obtain ⟨r0, r1, f0, f1⟩ := box_pair R1.out; clear hB1)
    | (go_at_call 12; refine (cK _).mono ?_; clear cK; rintro e w2 ⟨rfl, hB2⟩; have K2 := hid (K1.out.below hB2); obtain ⟨e0, e1, e2, e3⟩ := K2.out.cells; have R2 := hid ((hB2.block _ R1.out.lt).trans R1.out); obtain ⟨s0, s1, _, _⟩ := box_pair R2.out; clear hB2))
  go_region_held3 (fun w' => w'.cell? ⟨w.heap.size, 0, none⟩ = some (.int .i64 (P : Int)) ∧ w'.cell? ⟨w.heap.size, 1, none⟩ = some (.int .i64 (Q : Int)) ∧ w'.cell? ⟨w.heap.size, 2, none⟩ = some (.int .i64 (G : Int)) ∧ w'.cell? ⟨w.heap.size, 3, none⟩ = some (.int .i64 (H : Int)) ∧ w'.cell? ⟨w1.heap.size, 0, none⟩ = some (.int .i64 (a : Int)) ∧ w'.cell? ⟨w1.heap.size, 1, none⟩ = some (.int .i64 (b : Int))) (first | exact ⟨e0, e1, e2, e3, s0, s1⟩)
    (first
      | (go_at_call 13; (first | (with_reducible refine (cA _).mono ?_) | (with_reducible refine (cB _).mono ?_)); rintro e w' ⟨rfl, hw⟩; subst w'))
  all_goals
    go_wp2
    go_ret
    exact ⟨by simp, K2.out.2.drew⟩

theorem walk (P Q G H : Int) (wP : (Lit.int .i64 P).wf = true) (wQ : (Lit.int .i64 Q).wf = true) (wG : (Lit.int .i64 G).wf = true) (wH : (Lit.int .i64 H).wf = true) (x m r : Int) (w : World) :
    Calls Try.prog 6 #[.agg #[.int .i64 P, .int .i64 Q, .int .i64 G, .int .i64 H], .int .i64 x, .int .i64 m, .int .i64 r] w fun e w' => e = .returned (.bool true) ∧ Below w.heap.size w w' := by
  by_cases h : aC P Q G H [r] [x, m] = 0
  · obtain ⟨p, q, g, k, rfl, rfl, rfl, rfl, hG, h1, h2⟩ := aC_zero h
    obtain ⟨n, rfl, hn⟩ := h1 r (by simp)
    obtain ⟨x', rfl, hx⟩ := h2 x (by simp)
    obtain ⟨m', rfl, hm⟩ := h2 m (by simp)
    exact walkY p q g k x' m' n hG hn hx hm w
  · exact walkF P Q G H x m r h w

set_option maxRecDepth 100000 in
theorem lifted (os : Os) (started : os.Started) (H : Type) (enc : TypeId × Value → H) :
    ReturnsInHanded {} Try.checked os 6 .any (Rows.groupLocksSpec.pre6 enc Try.prog Try.f6 Rows.groupLocksRow.domain false) (Rows.groupLocksSpec.post enc Try.prog Try.f6 false true false false) := by
  refine returnsInHanded_of_change (C := Try.checked) own started (by kernel_rfl) Try.func6
    (ChangeSpec.witness6 (enc := enc) (C := Try.checked) false ⟨#[], #[.agg #[.int .i64 0, .int .i64 0, .int .i64 0, .int .i64 0], .int .i64 0, .int .i64 0, .int .i64 0], []⟩ 8 (by kernel_rfl) (by kernel_rfl) (by kernel_rfl) (by kernel_rfl)) ?_
  intro W base args ds gs before hval0 hW hcnd _
  have hval : ∀ (j : Nat) t v, Try.f6.params[j]? = some t → args[j]? = some v → Value.okWide Try.prog W .any base t v := hval0
  have hW' := hW
  obtain ⟨p, q, hA0, hV, rfl, _, _⟩ := hW
  have hA : DataW.TrodAll enc Try.prog W 0 (fun _ => true) true Try.f6.params.toList args.toList ds p := hA0
  rw [Try.params6] at hA hval
  obtain ⟨v0, v1, v2, v3, d0, d1, d2, d3, p0, p1, p2, p3, rfl, rfl, rfl, h0, h1, h2, h3⟩ := trodAll_four hA
  obtain ⟨rfl, rfl⟩ := trodVars_none hV
  have hsv0 := hval 0 23 v0 rfl rfl
  obtain ⟨a1, rfl, rfl, rfl, w1⟩ := open_int Try.underlying2 (hval 1 2 v1 rfl rfl) h1
  obtain ⟨a2, rfl, rfl, rfl, w2⟩ := open_int Try.underlying2 (hval 2 2 v2 rfl rfl) h2
  obtain ⟨a3, rfl, rfl, rfl, w3⟩ := open_int Try.underlying2 (hval 3 2 v3 rfl rfl) h3
  clear hA0 hval0
  simp only [List.append_nil] at hW'
  have hlt0 : ∀ x ∈ p0, x.block < W.heap.size := fun x hx => by simpa using hW'.lt x (by simp [hx])
  have harg0 : ∀ (W' : World), Below W.heap.size W W' → DataW.Trod enc Try.prog W' 0 (fun b => decide (b < W.heap.size)) true 23 v0 d0 p0 :=
    fun W' hn => Below.trod laidOut (by kernel_rfl) (of_decide_eq_true (by kernel_rfl)) h0 hn hlt0
  obtain ⟨x0a, x0b, x0c, x0d, rfl, w0a, w0b, w0c, w0d⟩ := struct4_view Try.underlying23 cells_G rfl rfl rfl rfl ⟨cells2, Try.underlying2⟩ ⟨cells2, Try.underlying2⟩ ⟨cells2, Try.underlying2⟩ ⟨cells2, Try.underlying2⟩ h0 hsv0
  refine (walk x0a x0b x0c x0d w0a w0b w0c w0d a1 a2 a3 W ).mono fun e W' ⟨he, hg⟩ => ?_
  subst he
  refine ⟨_, rfl, _, _, _, [], p0 ++ (([] : List MemPlace) ++ (([] : List MemPlace) ++ (([] : List MemPlace)))), [], hW', ?_, ?_, rfl, hg.frame _, fun h => by cases h⟩
  · exact trodAll_mk1 (shut_bool Try.underlying4 true)
  · exact trodAll_mk4 (harg0 _ hg) (shut_int Try.underlying2 w1) (shut_int Try.underlying2 w2) (shut_int Try.underlying2 w3)

theorem over : Rows.groupLocksRow.holds Try.pinned (OpenSpec.ofChange Rows.groupLocksSpec) :=
  OpenClaim.holds_of_wide 6 Try.f6 rfl rfl rfl rfl rfl rfl rfl ⟨rfl, rfl, rfl, rfl, rfl⟩ rfl rfl rfl rfl rfl (by kernel_rfl) Try.func6 (by kernel_rfl)
    (of_decide_eq_true (by kernel_rfl)) (by unfold Func.isWrapper; first | (rw [if_pos (by decide +kernel)]; kernel_rfl) | (rw [if_neg (by decide +kernel)]; exact ⟨rfl, rfl⟩))
    (fun os started H enc _ => lifted os started H enc)

/-- ████ THE STATEMENT ████ -/
theorem proved : Rows.GroupLocksSaid :=
  over

end Go.Proofs.Ytilpdoihgfonhaa.groupLocks
