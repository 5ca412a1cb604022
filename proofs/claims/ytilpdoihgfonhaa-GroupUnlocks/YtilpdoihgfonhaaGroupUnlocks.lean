/-
  For any group, any number and any pair: Open answers the member from which the pair has come, or what is wrong, as the document asks.
-/
import Derived.Test.YtilpdoihgfonhaaRows
import Derived.Test.YtilpdoihgfonhaaCalls161
import Derived.Test.YtilpdoihgfonhaaBase10
import Derived.WalkKit
import Derived.ProofKit
import Derived.OpenShut
import Derived.Carry
namespace Go.Proofs.Ytilpdoihgfonhaa.groupUnlocks
open Go.ChangeShapes Go.WideShapes Go.ChangeAt Go.RowKit Go.Deep Go.Proofs.Ytilpdoihgfonhaa.Base Go.Proofs.Ytilpdoihgfonhaa.Base2 Go.Proofs.Ytilpdoihgfonhaa.Base4 Go.Proofs.Ytilpdoihgfonhaa.Base10 Go.Proofs.Ytilpdoihgfonhaa.Num Go.Proofs.Ytilpdoihgfonhaa.Num56 Go.Proofs.Ytilpdoihgfonhaa.Calls157 Go.Proofs.Ytilpdoihgfonhaa.Calls158 Go.Proofs.Ytilpdoihgfonhaa.Calls160 Go.Proofs.Ytilpdoihgfonhaa.Calls159 Go.Proofs.Ytilpdoihgfonhaa.Calls161
set_option linter.unusedVariables false

theorem own : ownKnob Try.prog.godebug = none := by kernel_rfl

theorem laidOut : laidOutB Try.prog = true := by kernel_rfl

theorem cells2 : Try.prog.cellsOf 2 = 1 := by kernel_rfl

theorem cells_G : Try.prog.cellsOf 23 = 4 := by kernel_rfl

theorem cells_J : Try.prog.cellsOf 36 = 2 := by kernel_rfl

set_option maxRecDepth 100000 in
set_option maxHeartbeats 1000000 in
theorem walkF (P Q G H a x y : Int) (h : aC P Q G H [a] [x, y] ≠ 0) (w : World) :
    Calls Try.prog 7 #[.agg #[.int .i64 P, .int .i64 Q, .int .i64 G, .int .i64 H], .int .i64 a, .agg #[.int .i64 x, .int .i64 y]] w fun e w' => e = .returned (.bool true) ∧ Below w.heap.size w w' := by
  have cL := fun w => Open_bad P Q G H a x y h w
  have cK := fun (w1 : World) => ak12 P Q G H a x y w1 w1.heap.size rfl
  have K := hid (Gl.new w P Q G H #[.int .i64 x, .int .i64 y])
  obtain ⟨c0, c1, c2, c3⟩ := K.out.1.cells
  obtain ⟨r0, r1, _, _⟩ := K.out.pair
  generalize aC P Q G H [a] [x, y] = c at *
  have h1 : (c != 0) = true := by simpa using h
  go_enter Try.func7, Try.ntmps7
  go_wp2_with (first
    | (go_at_call 16; refine (cL _).mono ?_; clear cL; rintro e w1 ⟨rfl, hB1⟩; have K1 := hid (K.out.below hB1); obtain ⟨d0, d1, d2, d3⟩ := K1.out.1.cells; obtain ⟨s0, s1, _, _⟩ := K1.out.pair; obtain ⟨g0, g1, _, _⟩ := (K1.out.alloc (.cells #[.int .i64 a] 2)).pair; clear hB1)
    | (go_at_call 12; refine (cK _).mono ?_; clear cK; rintro e w2 ⟨rfl, hB2⟩; have K2 := hid (K1.out.below hB2); obtain ⟨e0, e1, e2, e3⟩ := K2.out.1.cells; clear hB2))
  go_ret
  exact ⟨by simp, K2.out.1.2⟩

theorem mem_no {P Q n : Nat} (h : Mem P Q n) : (!noM (P : Int) (Q : Int) (n : Int)) = true := by
  rw [(noM_iff P Q _).2 ⟨n, rfl, h⟩]; rfl

set_option maxRecDepth 100000 in
set_option maxHeartbeats 2000000 in
theorem walkY (P Q G H a x y : Nat) (hG : Grp P Q G H) (ha : a < Q) (hx : Mem P Q x) (hy : Mem P Q y) (w : World) :
    Calls Try.prog 7 #[.agg #[.int .i64 (P : Int), .int .i64 (Q : Int), .int .i64 (G : Int), .int .i64 (H : Int)], .int .i64 (a : Int), .agg #[.int .i64 (x : Int), .int .i64 (y : Int)]] w fun e w' => e = .returned (.bool true) ∧ Below w.heap.size w w' := by
  have p3 := hG.p3
  have pb := hG.big
  have ql := hG.qlt
  have cL := fun w => Open_yes P Q G H a x y hG ha hx hy w
  have cK := fun (w1 : World) => ak12 (P : Int) (Q : Int) (G : Int) (H : Int) (a : Int) (x : Int) (y : Int) w1 w1.heap.size rfl
  rw [aC_of hG (ex1 ha) (me2 hx hy)] at cK
  have hO : Mem P Q (y * (x ^ (Q - a) % P) % P) := Mem.mul hG.g.pr hG.g.prq hy (Mem.pow hG.g.pr hG.g.prq hx _)
  have hback : y * (x ^ (Q - a) % P) % P * (x ^ a % P) % P = y := by
    rw [Nat.mod_mul_mod, Nat.mul_assoc, Nat.mul_mod, quot_pow hx ha, Nat.mul_one, Nat.mod_mod, Nat.mod_eq_of_lt hy.2.1]
  have cM := fun w => refMember_any P Q (G : Int) (H : Int) (y * (x ^ (Q - a) % P) % P : Nat) (by omega) pb (by omega) w
  rw [mem_no hO] at cM
  have cA := fun w => refPow_nat x a P (by omega) pb (by omega) w
  have zl : x ^ a % P < P := Nat.mod_lt _ (by omega)
  have ol := hO.2.1
  generalize y * (x ^ (Q - a) % P) % P = o at *
  obtain ⟨m1, m2⟩ := mul_bds pb ol zl
  have hw' : IntKind.i64.wrap ((o : Int) * ((x ^ a % P : Nat) : Int)) = (o : Int) * ((x ^ a % P : Nat) : Int) := wrap_in _ (by omega) (by omega)
  have ht := mul_tmod o (x ^ a % P) P
  rw [hback] at ht
  have n0 : ¬ (P : Int) = 0 := by omega
  have n1 : ¬ P = 0 := by omega
  have K := hid (Gl.new w (P : Int) (Q : Int) (G : Int) (H : Int) #[.int .i64 (x : Int), .int .i64 (y : Int)])
  obtain ⟨c0, c1, c2, c3⟩ := K.out.1.cells
  obtain ⟨r0, r1, _, _⟩ := K.out.pair
  clear hG ha p3 pb ql hx hy hO hback zl ol
  generalize x ^ a % P = z at *
  go_enter Try.func7, Try.ntmps7
  go_wp2_with (first
    | (go_at_call 16; refine (cL _).mono ?_; clear cL; rintro e w1 ⟨rfl, hB1⟩; have K1 := hid (K.out.below hB1); obtain ⟨d0, d1, d2, d3⟩ := K1.out.1.cells; obtain ⟨s0, s1, _, _⟩ := K1.out.pair; obtain ⟨g0, g1, _, _⟩ := (K1.out.alloc (.cells #[.int .i64 (a : Int)] 2)).pair; clear hB1)
    | (go_at_call 12; refine (cK _).mono ?_; clear cK; rintro e w2 ⟨rfl, hB2⟩; have K2 := hid (K1.out.below hB2); obtain ⟨e0, e1, e2, e3⟩ := K2.out.1.cells; obtain ⟨t0, t1, _, _⟩ := K2.out.pair; clear hB2))
  go_region_held3 (fun w' => w'.cell? ⟨w.heap.size, 0, none⟩ = some (.int .i64 (P : Int)) ∧ w'.cell? ⟨w.heap.size, 1, none⟩ = some (.int .i64 (Q : Int)) ∧ w'.cell? ⟨w.heap.size, 2, none⟩ = some (.int .i64 (G : Int)) ∧ w'.cell? ⟨w.heap.size, 3, none⟩ = some (.int .i64 (H : Int)) ∧ w'.cell? ⟨w.heap.size + 1, 0, none⟩ = some (.int .i64 (x : Int)) ∧ w'.cell? ⟨w.heap.size + 1, 1, none⟩ = some (.int .i64 (y : Int))) (first | exact ⟨e0, e1, e2, e3, t0, t1⟩)
    (first
      | (go_at_call 17; refine (cM _).mono ?_; rintro e w3 ⟨rfl, hB3⟩; have K2 := hid (show Gl w w3 _ _ _ _ _ by first | exact K2.out.below hB3 | exact K2.out.drew.below hB3); obtain ⟨e0, e1, e2, e3⟩ := K2.out.1.cells; obtain ⟨t0, t1, _, _⟩ := K2.out.pair; clear hB3)
      | (go_at_call 13; refine (cA _).mono ?_; rintro e w' ⟨rfl, hw⟩; subst w'))
  all_goals
    go_wp2
    go_ret
    exact ⟨by simp, K2.out.1.2⟩

theorem walk (P Q G H : Int) (wP : (Lit.int .i64 P).wf = true) (wQ : (Lit.int .i64 Q).wf = true) (wG : (Lit.int .i64 G).wf = true) (wH : (Lit.int .i64 H).wf = true) (a : Int) (x y : Int) (wx : (Lit.int .i64 x).wf = true) (wy : (Lit.int .i64 y).wf = true) (w : World) :
    Calls Try.prog 7 #[.agg #[.int .i64 P, .int .i64 Q, .int .i64 G, .int .i64 H], .int .i64 a, .agg #[.int .i64 x, .int .i64 y]] w fun e w' => e = .returned (.bool true) ∧ Below w.heap.size w w' := by
  by_cases h : aC P Q G H [a] [x, y] = 0
  · obtain ⟨p, q, g, k, rfl, rfl, rfl, rfl, hG, h1, h2⟩ := aC_zero h
    obtain ⟨n, rfl, hn⟩ := h1 a (by simp)
    obtain ⟨x', rfl, hx⟩ := h2 x (by simp)
    obtain ⟨y', rfl, hy⟩ := h2 y (by simp)
    exact walkY p q g k n x' y' hG hn hx hy w
  · exact walkF P Q G H a x y h w

set_option maxRecDepth 100000 in
theorem lifted (os : Os) (started : os.Started) (H : Type) (enc : TypeId × Value → H) :
    ReturnsInHanded {} Try.checked os 7 .any (Rows.groupUnlocksSpec.pre6 enc Try.prog Try.f7 Rows.groupUnlocksRow.domain false) (Rows.groupUnlocksSpec.post enc Try.prog Try.f7 false true false false) := by
  refine returnsInHanded_of_change (C := Try.checked) own started (by kernel_rfl) Try.func7
    (ChangeSpec.witness6 (enc := enc) (C := Try.checked) false ⟨#[], #[.agg #[.int .i64 0, .int .i64 0, .int .i64 0, .int .i64 0], .int .i64 0, .agg #[.int .i64 0, .int .i64 0]], []⟩ 8 (by kernel_rfl) (by kernel_rfl) (by kernel_rfl) (by kernel_rfl)) ?_
  intro W base args ds gs before hval0 hW hcnd _
  have hval : ∀ (j : Nat) t v, Try.f7.params[j]? = some t → args[j]? = some v → Value.okWide Try.prog W .any base t v := hval0
  have hW' := hW
  obtain ⟨p, q, hA0, hV, rfl, _, _⟩ := hW
  have hA : DataW.TrodAll enc Try.prog W 0 (fun _ => true) true Try.f7.params.toList args.toList ds p := hA0
  rw [Try.params7] at hA hval
  obtain ⟨v0, v1, v2, d0, d1, d2, p0, p1, p2, rfl, rfl, rfl, h0, h1, h2⟩ := trodAll_three hA
  obtain ⟨rfl, rfl⟩ := trodVars_none hV
  have hsv0 := hval 0 23 v0 rfl rfl
  obtain ⟨a1, rfl, rfl, rfl, w1⟩ := open_int Try.underlying2 (hval 1 2 v1 rfl rfl) h1
  have hsv2 := hval 2 36 v2 rfl rfl
  clear hA0 hval0
  simp only [List.append_nil] at hW'
  have hlt0 : ∀ x ∈ p0, x.block < W.heap.size := fun x hx => by simpa using hW'.lt x (by simp [hx])
  have harg0 : ∀ (W' : World), Below W.heap.size W W' → DataW.Trod enc Try.prog W' 0 (fun b => decide (b < W.heap.size)) true 23 v0 d0 p0 :=
    fun W' hn => Below.trod laidOut (by kernel_rfl) (of_decide_eq_true (by kernel_rfl)) h0 hn hlt0
  obtain ⟨x0a, x0b, x0c, x0d, rfl, w0a, w0b, w0c, w0d⟩ := struct4_view Try.underlying23 cells_G rfl rfl rfl rfl ⟨cells2, Try.underlying2⟩ ⟨cells2, Try.underlying2⟩ ⟨cells2, Try.underlying2⟩ ⟨cells2, Try.underlying2⟩ h0 hsv0
  have hlt2 : ∀ x ∈ p2, x.block < W.heap.size := fun x hx => by simpa using hW'.lt x (by simp [hx])
  have harg2 : ∀ (W' : World), Below W.heap.size W W' → DataW.Trod enc Try.prog W' 0 (fun b => decide (b < W.heap.size)) true 36 v2 d2 p2 :=
    fun W' hn => Below.trod laidOut (by kernel_rfl) (of_decide_eq_true (by kernel_rfl)) h2 hn hlt2
  obtain ⟨x2a, x2b, rfl, w2a, w2b⟩ := struct2_view Try.underlying36 cells_J rfl rfl ⟨cells2, Try.underlying2⟩ ⟨cells2, Try.underlying2⟩ h2 hsv2
  refine (walk x0a x0b x0c x0d w0a w0b w0c w0d a1 x2a x2b w2a w2b W ).mono fun e W' ⟨he, hg⟩ => ?_
  subst he
  refine ⟨_, rfl, _, _, _, [], p0 ++ (([] : List MemPlace) ++ (p2)), [], hW', ?_, ?_, rfl, hg.frame _, fun h => by cases h⟩
  · exact trodAll_mk1 (shut_bool Try.underlying4 true)
  · exact trodAll_mk3 (harg0 _ hg) (shut_int Try.underlying2 w1) (harg2 _ hg)

theorem over : Rows.groupUnlocksRow.holds Try.pinned (OpenSpec.ofChange Rows.groupUnlocksSpec) :=
  OpenClaim.holds_of_wide 7 Try.f7 rfl rfl rfl rfl rfl rfl rfl ⟨rfl, rfl, rfl, rfl, rfl⟩ rfl rfl rfl rfl rfl (by kernel_rfl) Try.func7 (by kernel_rfl)
    (of_decide_eq_true (by kernel_rfl)) (by unfold Func.isWrapper; first | (rw [if_pos (by decide +kernel)]; kernel_rfl) | (rw [if_neg (by decide +kernel)]; exact ⟨rfl, rfl⟩))
    (fun os started H enc _ => lifted os started H enc)

/-- ████ THE STATEMENT ████ -/
theorem proved : Rows.GroupUnlocksSaid :=
  over

end Go.Proofs.Ytilpdoihgfonhaa.groupUnlocks
