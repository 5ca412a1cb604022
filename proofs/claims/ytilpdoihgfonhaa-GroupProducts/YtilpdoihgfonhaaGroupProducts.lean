/-
  For any group and any two pairs: Mul answers both products, or what is wrong, as the document asks.
-/
import Derived.Test.YtilpdoihgfonhaaRows
import Derived.Test.YtilpdoihgfonhaaCalls161
import Derived.Test.YtilpdoihgfonhaaBase10
import Derived.WalkKit
import Derived.ProofKit
import Derived.OpenShut
import Derived.Carry
namespace Go.Proofs.Ytilpdoihgfonhaa.groupProducts
open Go.ChangeShapes Go.WideShapes Go.ChangeAt Go.RowKit Go.Deep Go.Proofs.Ytilpdoihgfonhaa.Base Go.Proofs.Ytilpdoihgfonhaa.Base2 Go.Proofs.Ytilpdoihgfonhaa.Base4 Go.Proofs.Ytilpdoihgfonhaa.Base10 Go.Proofs.Ytilpdoihgfonhaa.Num Go.Proofs.Ytilpdoihgfonhaa.Num56 Go.Proofs.Ytilpdoihgfonhaa.Calls157 Go.Proofs.Ytilpdoihgfonhaa.Calls158 Go.Proofs.Ytilpdoihgfonhaa.Calls160 Go.Proofs.Ytilpdoihgfonhaa.Calls159 Go.Proofs.Ytilpdoihgfonhaa.Calls161
set_option linter.unusedVariables false

theorem own : ownKnob Try.prog.godebug = none := by kernel_rfl

theorem laidOut : laidOutB Try.prog = true := by kernel_rfl

theorem cells2 : Try.prog.cellsOf 2 = 1 := by kernel_rfl

theorem cells_G : Try.prog.cellsOf 23 = 4 := by kernel_rfl

theorem cells_J : Try.prog.cellsOf 36 = 2 := by kernel_rfl

/-- The two pairs' boxes behind the group's. -/
def Gn (w wr : World) (P Q G H : Int) (x y : Array Value) : Prop := Gl w wr P Q G H x ∧ BoxC wr (w.heap.size + 1 + 1) 36 y

theorem Gn.new (w : World) (P Q G H : Int) (x y : Array Value) : Gn w (((w.alloc (.cells #[.int .i64 P, .int .i64 Q, .int .i64 G, .int .i64 H] 23)).alloc (.cells x 36)).alloc (.cells y 36)) P Q G H x y := by
  have h := BoxC.new ((w.alloc (.cells #[.int .i64 P, .int .i64 Q, .int .i64 G, .int .i64 H] 23)).alloc (.cells x 36)) 36 y
  simp only [World.size_alloc] at h
  exact ⟨(Gl.new w P Q G H x).alloc _, h⟩

theorem Gn.below {w wr w' : World} {P Q G H : Int} {x y : Array Value} (h : Gn w wr P Q G H x y) (hb : Below wr.heap.size wr w') : Gn w w' P Q G H x y := ⟨h.1.below hb, (hb.block _ h.2.lt).trans h.2⟩

theorem Gn.alloc {w wr : World} {P Q G H : Int} {x y : Array Value} (h : Gn w wr P Q G H x y) (o : Obj) : Gn w (wr.alloc o) P Q G H x y := ⟨h.1.alloc o, h.2.alloc o⟩

theorem Gn.cells {w wr : World} {P Q G H : Int} {x y z v : Value} (h : Gn w wr P Q G H #[x, y] #[z, v]) : wr.cell? ⟨w.heap.size + 1, 0, none⟩ = some x ∧ wr.cell? ⟨w.heap.size + 1, 1, none⟩ = some y ∧ wr.cell? ⟨w.heap.size + 1 + 1, 0, none⟩ = some z ∧ wr.cell? ⟨w.heap.size + 1 + 1, 1, none⟩ = some v := ⟨h.1.pair.1, h.1.pair.2.1, (box_pair h.2).1, (box_pair h.2).2.1⟩

set_option maxRecDepth 100000 in
set_option maxHeartbeats 1000000 in
theorem walkF (P Q G H x y z v : Int) (h : aC P Q G H [] [x, y, z, v] ≠ 0) (w : World) :
    Calls Try.prog 8 #[.agg #[.int .i64 P, .int .i64 Q, .int .i64 G, .int .i64 H], .agg #[.int .i64 x, .int .i64 y], .agg #[.int .i64 z, .int .i64 v]] w fun e w' => e = .returned (.bool true) ∧ Below w.heap.size w w' := by
  have cL := fun w => Mul_bad P Q G H x y z v h w
  have cK := fun (w1 : World) => ak04 P Q G H x y z v (w1.alloc (.cells #[.int .i64 0, .int .i64 0] 36)) (w1.heap.size + 1) (World.size_alloc _ _).symm
  have K := hid (Gn.new w P Q G H #[.int .i64 x, .int .i64 y] #[.int .i64 z, .int .i64 v])
  obtain ⟨c0, c1, c2, c3⟩ := K.out.1.1.cells
  obtain ⟨r0, r1, r2, r3⟩ := K.out.cells
  generalize aC P Q G H [] [x, y, z, v] = c at *
  have h1 : (c != 0) = true := by simpa using h
  go_enter Try.func8, Try.ntmps8
  go_wp2_with (first
    | (go_at_call 18; refine (cL _).mono ?_; clear cL; rintro e w1 ⟨rfl, hB1⟩; have K1 := hid ((K.out.below hB1).alloc (.cells #[.int .i64 0, .int .i64 0] 36)); obtain ⟨d0, d1, d2, d3⟩ := K1.out.1.1.cells; obtain ⟨s0, s1, s2, s3⟩ := K1.out.cells; have R1 := hid (BoxC.new w1 36 #[.int .i64 0, .int .i64 0]); obtain ⟨g0, g1, f0, f1⟩ := box_pair R1.out; clear hB1)
    | (go_at_call 12; refine (cK _).mono ?_; clear cK; rintro e w2 ⟨rfl, hB2⟩; have K2 := hid (K1.out.below hB2); obtain ⟨e0, e1, e2, e3⟩ := K2.out.1.1.cells; have R2 := hid ((hB2.block _ R1.out.lt).trans R1.out); obtain ⟨t0, t1, _, _⟩ := box_pair R2.out; clear hB2))
  go_ret
  exact ⟨by simp, K2.out.1.1.2⟩

set_option maxRecDepth 100000 in
set_option maxHeartbeats 2000000 in
theorem walkY (P Q G H x y z v : Nat) (hG : Grp P Q G H) (hx : Mem P Q x) (hy : Mem P Q y) (hz : Mem P Q z) (hv : Mem P Q v) (w : World) :
    Calls Try.prog 8 #[.agg #[.int .i64 (P : Int), .int .i64 (Q : Int), .int .i64 (G : Int), .int .i64 (H : Int)], .agg #[.int .i64 (x : Int), .int .i64 (y : Int)], .agg #[.int .i64 (z : Int), .int .i64 (v : Int)]] w fun e w' => e = .returned (.bool true) ∧ Below w.heap.size w w' := by
  have p3 := hG.p3
  have pb := hG.big
  have cL := fun w => Mul_yes P Q G H x y z v hG hx hy hz hv w
  have cK := fun (w1 : World) => ak04 (P : Int) (Q : Int) (G : Int) (H : Int) (x : Int) (y : Int) (z : Int) (v : Int) (w1.alloc (.cells #[.int .i64 (x * z % P : Nat), .int .i64 (y * v % P : Nat)] 36)) (w1.heap.size + 1) (World.size_alloc _ _).symm
  rw [aC_of hG none0 (me4 hx hy hz hv)] at cK
  obtain ⟨m1, m2⟩ := mul_bds pb hx.2.1 hz.2.1
  obtain ⟨m3, m4⟩ := mul_bds pb hy.2.1 hv.2.1
  have hw1 : IntKind.i64.wrap ((x : Int) * (z : Int)) = (x : Int) * (z : Int) := wrap_in _ (by omega) (by omega)
  have hw2 : IntKind.i64.wrap ((y : Int) * (v : Int)) = (y : Int) * (v : Int) := wrap_in _ (by omega) (by omega)
  have ht1 := mul_tmod x z P
  have ht2 := mul_tmod y v P
  have n0 : ¬ (P : Int) = 0 := by omega
  have n1 : ¬ P = 0 := by omega
  have K := hid (Gn.new w (P : Int) (Q : Int) (G : Int) (H : Int) #[.int .i64 (x : Int), .int .i64 (y : Int)] #[.int .i64 (z : Int), .int .i64 (v : Int)])
  obtain ⟨c0, c1, c2, c3⟩ := K.out.1.1.cells
  obtain ⟨r0, r1, r2, r3⟩ := K.out.cells
  clear hG p3 pb hx hy hz hv
  generalize x * z % P = a at *
  generalize y * v % P = b at *
  go_enter Try.func8, Try.ntmps8
  go_wp2_with (first
    | (go_at_call 18; refine (cL _).mono ?_; clear cL; rintro e w1 ⟨rfl, hB1⟩; have K1 := hid ((K.out.below hB1).alloc (.cells #[.int .i64 (a : Int), .int .i64 (b : Int)] 36)); obtain ⟨d0, d1, d2, d3⟩ := K1.out.1.1.cells; obtain ⟨s0, s1, s2, s3⟩ := K1.out.cells; have R1 := hid (BoxC.new w1 36 #[.int .i64 (a : Int), .int .i64 (b : Int)]); obtain ⟨g0, g1, f0, f1⟩ := box_pair R1.out; clear hB1)
    | (go_at_call 12; refine (cK _).mono ?_; clear cK; rintro e w2 ⟨rfl, hB2⟩; have K2 := hid (K1.out.below hB2); obtain ⟨e0, e1, e2, e3⟩ := K2.out.1.1.cells; obtain ⟨u0, u1, u2, u3⟩ := K2.out.cells; have R2 := hid ((hB2.block _ R1.out.lt).trans R1.out); obtain ⟨t0, t1, _, _⟩ := box_pair R2.out; clear hB2))
  go_region_held3 (fun w' => w'.cell? ⟨w.heap.size, 0, none⟩ = some (.int .i64 (P : Int)) ∧ w'.cell? ⟨w.heap.size + 1, 0, none⟩ = some (.int .i64 (x : Int)) ∧ w'.cell? ⟨w.heap.size + 1, 1, none⟩ = some (.int .i64 (y : Int)) ∧ w'.cell? ⟨w.heap.size + 1 + 1, 0, none⟩ = some (.int .i64 (z : Int)) ∧ w'.cell? ⟨w.heap.size + 1 + 1, 1, none⟩ = some (.int .i64 (v : Int)) ∧ w'.cell? ⟨w1.heap.size, 0, none⟩ = some (.int .i64 (a : Int)) ∧ w'.cell? ⟨w1.heap.size, 1, none⟩ = some (.int .i64 (b : Int))) (first | exact ⟨e0, u0, u1, u2, u3, t0, t1⟩) (first | fail)
  all_goals
    go_wp2
    go_ret
    exact ⟨by simp, K2.out.1.1.2.drew⟩

theorem walk (P Q G H : Int) (wP : (Lit.int .i64 P).wf = true) (wQ : (Lit.int .i64 Q).wf = true) (wG : (Lit.int .i64 G).wf = true) (wH : (Lit.int .i64 H).wf = true) (x y : Int) (wx : (Lit.int .i64 x).wf = true) (wy : (Lit.int .i64 y).wf = true) (z v : Int) (wz : (Lit.int .i64 z).wf = true) (wv : (Lit.int .i64 v).wf = true) (w : World) :
    Calls Try.prog 8 #[.agg #[.int .i64 P, .int .i64 Q, .int .i64 G, .int .i64 H], .agg #[.int .i64 x, .int .i64 y], .agg #[.int .i64 z, .int .i64 v]] w fun e w' => e = .returned (.bool true) ∧ Below w.heap.size w w' := by
  by_cases h : aC P Q G H [] [x, y, z, v] = 0
  · obtain ⟨p, q, g, k, rfl, rfl, rfl, rfl, hG, _, h2⟩ := aC_zero h
    obtain ⟨x', rfl, hx⟩ := h2 x (by simp)
    obtain ⟨y', rfl, hy⟩ := h2 y (by simp)
    obtain ⟨z', rfl, hz⟩ := h2 z (by simp)
    obtain ⟨v', rfl, hv⟩ := h2 v (by simp)
    exact walkY p q g k x' y' z' v' hG hx hy hz hv w
  · exact walkF P Q G H x y z v h w

set_option maxRecDepth 100000 in
theorem lifted (os : Os) (started : os.Started) (H : Type) (enc : TypeId × Value → H) :
    ReturnsInHanded {} Try.checked os 8 .any (Rows.groupProductsSpec.pre6 enc Try.prog Try.f8 Rows.groupProductsRow.domain false) (Rows.groupProductsSpec.post enc Try.prog Try.f8 false true false false) := by
  refine returnsInHanded_of_change (C := Try.checked) own started (by kernel_rfl) Try.func8
    (ChangeSpec.witness6 (enc := enc) (C := Try.checked) false ⟨#[], #[.agg #[.int .i64 0, .int .i64 0, .int .i64 0, .int .i64 0], .agg #[.int .i64 0, .int .i64 0], .agg #[.int .i64 0, .int .i64 0]], []⟩ 8 (by kernel_rfl) (by kernel_rfl) (by kernel_rfl) (by kernel_rfl)) ?_
  intro W base args ds gs before hval0 hW hcnd _
  have hval : ∀ (j : Nat) t v, Try.f8.params[j]? = some t → args[j]? = some v → Value.okWide Try.prog W .any base t v := hval0
  have hW' := hW
  obtain ⟨p, q, hA0, hV, rfl, _, _⟩ := hW
  have hA : DataW.TrodAll enc Try.prog W 0 (fun _ => true) true Try.f8.params.toList args.toList ds p := hA0
  rw [Try.params8] at hA hval
  obtain ⟨v0, v1, v2, d0, d1, d2, p0, p1, p2, rfl, rfl, rfl, h0, h1, h2⟩ := trodAll_three hA
  obtain ⟨rfl, rfl⟩ := trodVars_none hV
  have hsv0 := hval 0 23 v0 rfl rfl
  have hsv1 := hval 1 36 v1 rfl rfl
  have hsv2 := hval 2 36 v2 rfl rfl
  clear hA0 hval0
  simp only [List.append_nil] at hW'
  have hlt0 : ∀ x ∈ p0, x.block < W.heap.size := fun x hx => by simpa using hW'.lt x (by simp [hx])
  have harg0 : ∀ (W' : World), Below W.heap.size W W' → DataW.Trod enc Try.prog W' 0 (fun b => decide (b < W.heap.size)) true 23 v0 d0 p0 :=
    fun W' hn => Below.trod laidOut (by kernel_rfl) (of_decide_eq_true (by kernel_rfl)) h0 hn hlt0
  obtain ⟨x0a, x0b, x0c, x0d, rfl, w0a, w0b, w0c, w0d⟩ := struct4_view Try.underlying23 cells_G rfl rfl rfl rfl ⟨cells2, Try.underlying2⟩ ⟨cells2, Try.underlying2⟩ ⟨cells2, Try.underlying2⟩ ⟨cells2, Try.underlying2⟩ h0 hsv0
  have hlt1 : ∀ x ∈ p1, x.block < W.heap.size := fun x hx => by simpa using hW'.lt x (by simp [hx])
  have harg1 : ∀ (W' : World), Below W.heap.size W W' → DataW.Trod enc Try.prog W' 0 (fun b => decide (b < W.heap.size)) true 36 v1 d1 p1 :=
    fun W' hn => Below.trod laidOut (by kernel_rfl) (of_decide_eq_true (by kernel_rfl)) h1 hn hlt1
  obtain ⟨x1a, x1b, rfl, w1a, w1b⟩ := struct2_view Try.underlying36 cells_J rfl rfl ⟨cells2, Try.underlying2⟩ ⟨cells2, Try.underlying2⟩ h1 hsv1
  have hlt2 : ∀ x ∈ p2, x.block < W.heap.size := fun x hx => by simpa using hW'.lt x (by simp [hx])
  have harg2 : ∀ (W' : World), Below W.heap.size W W' → DataW.Trod enc Try.prog W' 0 (fun b => decide (b < W.heap.size)) true 36 v2 d2 p2 :=
    fun W' hn => Below.trod laidOut (by kernel_rfl) (of_decide_eq_true (by kernel_rfl)) h2 hn hlt2
  obtain ⟨x2a, x2b, rfl, w2a, w2b⟩ := struct2_view Try.underlying36 cells_J rfl rfl ⟨cells2, Try.underlying2⟩ ⟨cells2, Try.underlying2⟩ h2 hsv2
  refine (walk x0a x0b x0c x0d w0a w0b w0c w0d x1a x1b w1a w1b x2a x2b w2a w2b W ).mono fun e W' ⟨he, hg⟩ => ?_
  subst he
  refine ⟨_, rfl, _, _, _, [], p0 ++ (p1 ++ (p2)), [], hW', ?_, ?_, rfl, hg.frame _, fun h => by cases h⟩
  · exact trodAll_mk1 (shut_bool Try.underlying4 true)
  · exact trodAll_mk3 (harg0 _ hg) (harg1 _ hg) (harg2 _ hg)

theorem over : Rows.groupProductsRow.holds Try.pinned (OpenSpec.ofChange Rows.groupProductsSpec) :=
  OpenClaim.holds_of_wide 8 Try.f8 rfl rfl rfl rfl rfl rfl rfl ⟨rfl, rfl, rfl, rfl, rfl⟩ rfl rfl rfl rfl rfl (by kernel_rfl) Try.func8 (by kernel_rfl)
    (of_decide_eq_true (by kernel_rfl)) (by unfold Func.isWrapper; first | (rw [if_pos (by decide +kernel)]; kernel_rfl) | (rw [if_neg (by decide +kernel)]; exact ⟨rfl, rfl⟩))
    (fun os started H enc _ => lifted os started H enc)

/-- ████ THE STATEMENT ████ -/
theorem proved : Rows.GroupProductsSaid :=
  over

end Go.Proofs.Ytilpdoihgfonhaa.groupProducts
