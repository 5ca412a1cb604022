/-
  For any key and any two messages: what their product becomes is the product of what both become.
-/
import Derived.Test.YtoohnfcikapmlaaRows
import Derived.Test.YtoohnfcikapmlaaCalls155
import Derived.Test.YtoohnfcikapmlaaBase10
import Derived.WalkKit
import Derived.ProofKit
import Derived.OpenShut
import Derived.Carry
namespace Go.Proofs.Ytoohnfcikapmlaa.rsaMuls
open Go.ChangeShapes Go.WideShapes Go.ChangeAt Go.RowKit Go.Deep Go.Proofs.Ytoohnfcikapmlaa.Base Go.Proofs.Ytoohnfcikapmlaa.Base2 Go.Proofs.Ytoohnfcikapmlaa.Base10 Go.Proofs.Ytoohnfcikapmlaa.Num Go.Proofs.Ytoohnfcikapmlaa.Num56 Go.Proofs.Ytoohnfcikapmlaa.Calls150 Go.Proofs.Ytoohnfcikapmlaa.Calls151 Go.Proofs.Ytoohnfcikapmlaa.Calls152 Go.Proofs.Ytoohnfcikapmlaa.Calls153 Go.Proofs.Ytoohnfcikapmlaa.Calls154 Go.Proofs.Ytoohnfcikapmlaa.Calls155 Go.Proofs.Ytoohnfcikapmlaa.Num8
set_option linter.unusedVariables false

theorem own : ownKnob Try.prog.godebug = none := by kernel_rfl

theorem laidOut : laidOutB Try.prog = true := by kernel_rfl

theorem cells2 : Try.prog.cellsOf 2 = 1 := by kernel_rfl

theorem cells_K : Try.prog.cellsOf 23 = 3 := by kernel_rfl

set_option maxRecDepth 100000 in
theorem walkA (N E D x y b f : Int)
    (cX : ∀ w, Calls Try.prog 8 #[.agg #[.int .i64 N, .int .i64 E, .int .i64 D], .int .i64 x] w fun e w' => e = .returned (.tuple #[.int .i64 0, .int .i64 2]) ∧ Below w.heap.size w w')
    (cY : ∀ w, Calls Try.prog 8 #[.agg #[.int .i64 N, .int .i64 E, .int .i64 D], .int .i64 y] w fun e w' => e = .returned (.tuple #[.int .i64 b, .int .i64 f]) ∧ Below w.heap.size w w') (w : World) :
    Calls Try.prog 7 #[.agg #[.int .i64 N, .int .i64 E, .int .i64 D], .int .i64 x, .int .i64 y] w fun e w' => e = .returned (.bool true) ∧ Below w.heap.size w w' := by
  have K := hid (Kb.new w N E D)
  obtain ⟨c0, c1, c2⟩ := K.out.cells
  go_enter Try.func7, Try.ntmps7
  go_wp2_with (first
    | (go_at_call 8; refine (cX _).mono ?_; clear cX; rintro e w1 ⟨rfl, hB1⟩; have K1 := hid (K.out.below hB1); obtain ⟨d0, d1, d2⟩ := K1.out.cells; clear hB1)
    | (go_at_call 8; refine (cY _).mono ?_; clear cY; rintro e w2 ⟨rfl, hB2⟩; have K2 := hid (K1.out.below hB2); obtain ⟨e0, e1, e2⟩ := K2.out.cells; clear hB2))
  go_ret
  exact ⟨rfl, K2.out.2⟩

set_option maxRecDepth 100000 in
theorem walkB (N E D x y a : Int)
    (cX : ∀ w, Calls Try.prog 8 #[.agg #[.int .i64 N, .int .i64 E, .int .i64 D], .int .i64 x] w fun e w' => e = .returned (.tuple #[.int .i64 a, .int .i64 0]) ∧ Below w.heap.size w w')
    (cY : ∀ w, Calls Try.prog 8 #[.agg #[.int .i64 N, .int .i64 E, .int .i64 D], .int .i64 y] w fun e w' => e = .returned (.tuple #[.int .i64 0, .int .i64 2]) ∧ Below w.heap.size w w') (w : World) :
    Calls Try.prog 7 #[.agg #[.int .i64 N, .int .i64 E, .int .i64 D], .int .i64 x, .int .i64 y] w fun e w' => e = .returned (.bool true) ∧ Below w.heap.size w w' := by
  have K := hid (Kb.new w N E D)
  obtain ⟨c0, c1, c2⟩ := K.out.cells
  go_enter Try.func7, Try.ntmps7
  go_wp2_with (first
    | (go_at_call 8; refine (cX _).mono ?_; clear cX; rintro e w1 ⟨rfl, hB1⟩; have K1 := hid (K.out.below hB1); obtain ⟨d0, d1, d2⟩ := K1.out.cells; clear hB1)
    | (go_at_call 8; refine (cY _).mono ?_; clear cY; rintro e w2 ⟨rfl, hB2⟩; have K2 := hid (K1.out.below hB2); obtain ⟨e0, e1, e2⟩ := K2.out.cells; clear hB2))
  go_ret
  exact ⟨rfl, K2.out.2⟩

set_option maxRecDepth 100000 in
set_option maxHeartbeats 4000000 in
theorem walkC (N E x y a b u c v : Nat) (D : Int) (hN1 : 1 ≤ N) (hN : N ≤ 1048576) (hx : x < N) (hy : y < N) (ha : a < N) (hb : b < N)
    (hu : ((x : Int) * (y : Int)).tmod (N : Int) = (u : Int)) (hc : ((a : Int) * (b : Int)).tmod (N : Int) = (c : Int)) (hv : (1 : Int).tmod (N : Int) = (v : Int))
    (cX : ∀ w, Calls Try.prog 8 #[.agg #[.int .i64 (N : Int), .int .i64 (E : Int), .int .i64 D], .int .i64 (x : Int)] w fun e w' => e = .returned (.tuple #[.int .i64 (a : Int), .int .i64 0]) ∧ Below w.heap.size w w')
    (cY : ∀ w, Calls Try.prog 8 #[.agg #[.int .i64 (N : Int), .int .i64 (E : Int), .int .i64 D], .int .i64 (y : Int)] w fun e w' => e = .returned (.tuple #[.int .i64 (b : Int), .int .i64 0]) ∧ Below w.heap.size w w')
    (cU : ∀ w, Calls Try.prog 8 #[.agg #[.int .i64 (N : Int), .int .i64 (E : Int), .int .i64 D], .int .i64 (u : Int)] w fun e w' => e = .returned (.tuple #[.int .i64 (c : Int), .int .i64 0]) ∧ Below w.heap.size w w')
    (cV : ∀ w, Calls Try.prog 8 #[.agg #[.int .i64 (N : Int), .int .i64 (E : Int), .int .i64 D], .int .i64 (v : Int)] w fun e w' => e = .returned (.tuple #[.int .i64 (v : Int), .int .i64 0]) ∧ Below w.heap.size w w') (w : World) :
    Calls Try.prog 7 #[.agg #[.int .i64 (N : Int), .int .i64 (E : Int), .int .i64 D], .int .i64 (x : Int), .int .i64 (y : Int)] w fun e w' => e = .returned (.bool true) ∧ Below w.heap.size w w' := by
  have K := hid (Kb.new w (N : Int) (E : Int) D)
  obtain ⟨c0, c1, c2⟩ := K.out.cells
  obtain ⟨m1, m2⟩ := mul_bds hN hx hy
  obtain ⟨m3, m4⟩ := mul_bds hN ha hb
  have w1' : IntKind.i64.wrap ((x : Int) * (y : Int)) = (x : Int) * (y : Int) := wrap_in _ (by omega) (by omega)
  have n0 : ¬ (N : Int) = 0 := by omega
  have n1 : ¬ N = 0 := by omega
  have n2 : ¬ (N : Int) < 1 := by omega
  have n3 : ¬ N < 1 := by omega
  have hv2 : (1 : Int) % (N : Int) = (v : Int) := by rw [← hv, Int.tmod_eq_emod_of_nonneg (by omega)]
  clear hx hy ha hb
  go_enter Try.func7, Try.ntmps7
  go_wp2_with (first
    | (go_at_call 8; refine (cX _).mono ?_; clear cX; rintro e w1 ⟨rfl, hB1⟩; have K1 := hid (K.out.below hB1); obtain ⟨d0, d1, d2⟩ := K1.out.cells; clear hB1)
    | (go_at_call 8; refine (cY _).mono ?_; clear cY; rintro e w2 ⟨rfl, hB2⟩; have K2 := hid (K1.out.below hB2); obtain ⟨e0, e1, e2⟩ := K2.out.cells; clear hB2))
  go_region_held3 (fun w' => w'.cell? ⟨w.heap.size, 0, none⟩ = some (.int .i64 (N : Int)) ∧ w'.cell? ⟨w.heap.size, 1, none⟩ = some (.int .i64 (E : Int)) ∧ w'.cell? ⟨w.heap.size, 2, none⟩ = some (.int .i64 D)) (first | exact ⟨f0, f1, f2⟩ | exact K2.out.cells | exact K2.out.drew.cells)
    (first | (go_at_call 8; refine (cU _).mono ?_; rintro e w3 ⟨rfl, hB3⟩; have K3 := hid (show Kb w w3 _ _ _ by first | exact K2.out.below hB3 | exact K2.out.drew.below hB3); obtain ⟨f0, f1, f2⟩ := K3.out.cells; clear hB3))
  go_wp2
  go_region_held3 (fun w' => w'.cell? ⟨w.heap.size, 0, none⟩ = some (.int .i64 (N : Int)) ∧ w'.cell? ⟨w.heap.size, 1, none⟩ = some (.int .i64 (E : Int)) ∧ w'.cell? ⟨w.heap.size, 2, none⟩ = some (.int .i64 D)) (first | exact ⟨k0, k1, k2⟩ | exact K3.out.cells | exact K3.out.drew.cells)
    (first | (go_at_call 8; refine (cV _).mono ?_; rintro e w4 ⟨rfl, hB4⟩; have K4 := hid (show Kb w w4 _ _ _ by first | exact K3.out.below hB4 | exact K3.out.drew.below hB4); obtain ⟨k0, k1, k2⟩ := K4.out.cells; clear hB4))
  go_wp2
  go_ret
  exact ⟨by simp, K4.out.2⟩

theorem walk (N E D : Int) (wN : (Lit.int .i64 N).wf = true) (wE : (Lit.int .i64 E).wf = true) (wD : (Lit.int .i64 D).wf = true) (x y : Int) (w : World) :
    Calls Try.prog 7 #[.agg #[.int .i64 N, .int .i64 E, .int .i64 D], .int .i64 x, .int .i64 y] w fun e w' => e = .returned (.bool true) ∧ Below w.heap.size w w' := by
  by_cases hx : Cr x E D N
  · obtain ⟨a, e, d, n, rfl, rfl, rfl, rfl⟩ := hx.nat
    have cX := fun w => Lock_yes n e d a hx w
    by_cases hy : Cr y (e : Int) (d : Int) (n : Int)
    · obtain ⟨b, _, _, _, rfl, _, _, _⟩ := hy.nat
      have cY := fun w => Lock_yes n e d b hy w
      have hn1 : 1 ≤ n := by have := hx.1.1; omega
      have hn2 : n ≤ 1048576 := by have := hx.1.2; omega
      have ha : a < n := by have := hx.2.2.2.2; omega
      have hb : b < n := by have := hy.2.2.2.2; omega
      have cr : ∀ z : Nat, z < n → Cr (z : Int) (e : Int) (d : Int) (n : Int) := fun z hz => ⟨hx.1, hx.2.1, hx.2.2.1, by omega, by omega⟩
      have l : ∀ z : Nat, z % n < n := fun z => Nat.mod_lt _ (by omega)
      have cU := fun w => Lock_yes n e d (a * b % n) (cr _ (l _)) w
      have cV := fun w => Lock_yes n e d (1 % n) (cr _ (l _)) w
      rw [rsa_muls] at cU
      rw [one_pow_mod] at cV
      exact walkC n e a b (a ^ e % n) (b ^ e % n) (a * b % n) _ (1 % n) (d : Int) hn1 hn2 ha hb (l _) (l _) (mul_tmod _ _ _) (mul_tmod _ _ _) rfl cX cY cU cV w
    · exact walkB _ _ _ _ y _ cX (fun w => Lock_bad _ _ _ y hy w) w
  · have cX := fun w => Lock_bad N E D x hx w
    by_cases hy : Cr y E D N
    · obtain ⟨a, e, d, n, rfl, rfl, rfl, rfl⟩ := hy.nat
      exact walkA _ _ _ x _ _ 0 cX (fun w => Lock_yes n e d a hy w) w
    · exact walkA N E D x y 0 2 cX (fun w => Lock_bad N E D y hy w) w

set_option maxRecDepth 100000 in
theorem lifted (os : Os) (started : os.Started) (H : Type) (enc : TypeId × Value → H) :
    ReturnsInHanded {} Try.checked os 7 .any (Rows.rsaMulsSpec.pre6 enc Try.prog Try.f7 Rows.rsaMulsRow.domain false) (Rows.rsaMulsSpec.post enc Try.prog Try.f7 false true false false) := by
  refine returnsInHanded_of_change (C := Try.checked) own started (by kernel_rfl) Try.func7
    (ChangeSpec.witness6 (enc := enc) (C := Try.checked) false ⟨#[], #[.agg #[.int .i64 0, .int .i64 0, .int .i64 0], .int .i64 0, .int .i64 0], []⟩ 8 (by kernel_rfl) (by kernel_rfl) (by kernel_rfl) (by kernel_rfl)) ?_
  intro W base args ds gs before hval0 hW hcnd _
  have hval : ∀ (j : Nat) t v, Try.f7.params[j]? = some t → args[j]? = some v → Value.okWide Try.prog W .any base t v := hval0
  have hW' := hW
  obtain ⟨p, q, hA0, hV, rfl, _, _⟩ := hW
  have hA : DataW.TrodAll enc Try.prog W 0 (fun _ => true) true Try.f7.params.toList args.toList ds p := hA0
  rw [Try.params7] at hA hval
  obtain ⟨v0, v1, v2, d0, d1, d2, p0, p1, p2, rfl, rfl, rfl, h0, h1, h2⟩ := trodAll_three hA
  obtain ⟨rfl, rfl⟩ := trodVars_none hV
  have hsv0 := hval 0 23 v0 rfl rfl
  obtain ⟨a1, rfl, rfl, rfl, w1⟩ := open_int Try.underlying2 (hval 1 2 v1 rfl rfl) h1
  obtain ⟨a2, rfl, rfl, rfl, w2⟩ := open_int Try.underlying2 (hval 2 2 v2 rfl rfl) h2
  clear hA0 hval0
  simp only [List.append_nil] at hW'
  have hlt0 : ∀ x ∈ p0, x.block < W.heap.size := fun x hx => by simpa using hW'.lt x (by simp [hx])
  have harg0 : ∀ (W' : World), Below W.heap.size W W' → DataW.Trod enc Try.prog W' 0 (fun b => decide (b < W.heap.size)) true 23 v0 d0 p0 :=
    fun W' hn => Below.trod laidOut (by kernel_rfl) (of_decide_eq_true (by kernel_rfl)) h0 hn hlt0
  obtain ⟨x0a, x0b, x0c, rfl, w0a, w0b, w0c⟩ := struct3_view Try.underlying23 cells_K rfl rfl rfl ⟨cells2, Try.underlying2⟩ ⟨cells2, Try.underlying2⟩ ⟨cells2, Try.underlying2⟩ h0 hsv0
  refine (walk x0a x0b x0c w0a w0b w0c a1 a2 W ).mono fun e W' ⟨he, hg⟩ => ?_
  subst he
  refine ⟨_, rfl, _, _, _, [], p0 ++ (([] : List MemPlace) ++ (([] : List MemPlace))), [], hW', ?_, ?_, rfl, hg.frame _, fun h => by cases h⟩
  · exact trodAll_mk1 (shut_bool Try.underlying4 true)
  · exact trodAll_mk3 (harg0 _ hg) (shut_int Try.underlying2 w1) (shut_int Try.underlying2 w2)

theorem over : Rows.rsaMulsRow.holds Try.pinned (OpenSpec.ofChange Rows.rsaMulsSpec) :=
  OpenClaim.holds_of_wide 7 Try.f7 rfl rfl rfl rfl rfl rfl rfl ⟨rfl, rfl, rfl, rfl, rfl⟩ rfl rfl rfl rfl rfl (by kernel_rfl) Try.func7 (by kernel_rfl)
    (of_decide_eq_true (by kernel_rfl)) (by unfold Func.isWrapper; first | (rw [if_pos (by decide +kernel)]; kernel_rfl) | (rw [if_neg (by decide +kernel)]; exact ⟨rfl, rfl⟩))
    (fun os started H enc _ => lifted os started H enc)

/-- ████ THE STATEMENT ████ -/
theorem proved : Rows.RsaMulsSaid :=
  over

end Go.Proofs.Ytoohnfcikapmlaa.rsaMuls
