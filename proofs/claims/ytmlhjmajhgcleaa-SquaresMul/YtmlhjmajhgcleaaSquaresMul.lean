/-
  For all numbers a and b from -46340 to 46340 and all odd m and n whose product is in range: what Jacobi has of a product is the product of what it has of both, above and below; of 1 it has 1.
-/
import Derived.Test.YtmlhjmajhgcleaaRows
import Derived.Test.YtmlhjmajhgcleaaCalls30
import Derived.Test.YtmlhjmajhgcleaaCalls31
import Derived.WalkKit
import Derived.ProofKit
import Derived.OpenShut
namespace Go.Proofs.Ytmlhjmajhgcleaa.squaresMul
open Go.Proofs.Ytmlhjmajhgcleaa.Num Go.Proofs.Ytmlhjmajhgcleaa.Num9 Go.Proofs.Ytmlhjmajhgcleaa.Num10 Go.Proofs.Ytmlhjmajhgcleaa.Num13 Go.Proofs.Ytmlhjmajhgcleaa.Num29 Go.Proofs.Ytmlhjmajhgcleaa.Calls8 Go.Proofs.Ytmlhjmajhgcleaa.Calls9 Go.Proofs.Ytmlhjmajhgcleaa.Calls11 Go.Proofs.Ytmlhjmajhgcleaa.Calls19 Go.Proofs.Ytmlhjmajhgcleaa.Calls20 Go.Proofs.Ytmlhjmajhgcleaa.Calls29 Go.Proofs.Ytmlhjmajhgcleaa.Calls30 Go.Proofs.Ytmlhjmajhgcleaa.Calls31
open Go.ChangeShapes Go.WideShapes Go.ChangeAt Go.RowKit
set_option linter.unusedVariables false      -- a walk need not use every 'w<i>' (that an integer argument fits its kind)

theorem own : ownKnob Try.prog.godebug = none := by kernel_rfl

theorem mn_bd {x y : Nat} (hx : 1 ≤ x) (hx2 : x ≤ 1048576) (hy : 1 ≤ y) (hy2 : y ≤ 1048576) : 0 ≤ (x : Int) * (y : Int) ∧ (x : Int) * (y : Int) ≤ 1099511627776 := by
  have h : x * y ≤ 1048576 * 1048576 := Nat.mul_le_mul (by omega) (by omega)
  have h2 : ((x * y : Nat) : Int) = (x : Int) * (y : Int) := by simp
  omega

theorem ab_bd {a b : Int} (h1 : -46340 ≤ a) (h2 : a ≤ 46340) (h3 : -46340 ≤ b) (h4 : b ≤ 46340) : -2147483648 ≤ a * b ∧ a * b ≤ 2147483648 := by
  have h : (a * b).natAbs ≤ 46340 * 46340 := by
    rw [Int.natAbs_mul]; exact Nat.mul_le_mul (by omega) (by omega)
  omega

set_option maxHeartbeats 4000000 in
theorem walk (a0 : Int) (a1 : Int) (a2 : Int) (a3 : Int) (w0 : (Lit.int .i64 a0).wf = true) (w1 : (Lit.int .i64 a1).wf = true) (w2 : (Lit.int .i64 a2).wf = true) (w3 : (Lit.int .i64 a3).wf = true) (w : World) :
    Calls Try.prog 7 #[.int .i64 a0, .int .i64 a1, .int .i64 a2, .int .i64 a3] w fun e w' => e = .returned (.bool true) ∧ Below w.heap.size w w' := by
  by_cases hM : Md a2
  rotate_left
  · have cM := fun w => kmodulus_no a2 hM w
    clear hM
    go_enter Try.func7, Try.ntmps7
    go_wp2_with (first | (go_at_call 18; refine (cM _).mono ?_; rintro e w' ⟨rfl, hw⟩; subst w'))
    go_ret
    exact ⟨rfl, Below.refl _ _⟩
  obtain ⟨u1, u2⟩ := hM
  obtain ⟨m, rfl⟩ : ∃ m : Nat, a2 = (m : Int) := ⟨a2.toNat, by omega⟩
  have cM := fun w => kmodulus_yes (m : Int) u1 u2 w
  by_cases hN : Md a3
  rotate_left
  · have cN := fun w => kmodulus_no a3 hN w
    clear hN
    go_enter Try.func7, Try.ntmps7
    go_wp2_with (first | (go_at_call 18; refine (cM _).mono ?_; rintro e w' ⟨rfl, hw⟩; subst w'; clear cM) | (go_at_call 18; refine (cN _).mono ?_; rintro e w' ⟨rfl, hw⟩; subst w'; clear cN))
    go_ret
    exact ⟨rfl, Below.refl _ _⟩
  obtain ⟨v1, v2⟩ := hN
  obtain ⟨n, rfl⟩ : ∃ n : Nat, a3 = (n : Int) := ⟨a3.toNat, by omega⟩
  have cN := fun w => kmodulus_yes (n : Int) v1 v2 w
  have hm1 : 1 ≤ m := by omega
  have hn1 : 1 ≤ n := by omega
  have hm2 : m ≤ 1048576 := by omega
  have hn2 : n ≤ 1048576 := by omega
  obtain ⟨p1, p2⟩ := mn_bd hm1 hm2 hn1 hn2
  by_cases hmo : m % 2 = 1
  rotate_left
  · have o1 := beq_t (show (m : Int) % 2 = 0 by omega)
    clear hmo
    go_enter Try.func7, Try.ntmps7
    go_wp2_with (first | (go_at_call 18; refine (cM _).mono ?_; rintro e w' ⟨rfl, hw⟩; subst w'; clear cM) | (go_at_call 18; refine (cN _).mono ?_; rintro e w' ⟨rfl, hw⟩; subst w'; clear cN))
    go_ret
    exact ⟨rfl, Below.refl _ _⟩
  have o1 := beq_f (show ¬ (m : Int) % 2 = 0 by omega)
  by_cases hno : n % 2 = 1
  rotate_left
  · have o2 := beq_t (show (n : Int) % 2 = 0 by omega)
    clear hno
    go_enter Try.func7, Try.ntmps7
    go_wp2_with (first | (go_at_call 18; refine (cM _).mono ?_; rintro e w' ⟨rfl, hw⟩; subst w'; clear cM) | (go_at_call 18; refine (cN _).mono ?_; rintro e w' ⟨rfl, hw⟩; subst w'; clear cN))
    go_ret
    exact ⟨rfl, Below.refl _ _⟩
  have o2 := beq_f (show ¬ (n : Int) % 2 = 0 by omega)
  by_cases hmn : (m : Int) * (n : Int) ≤ 1048576
  rotate_left
  · go_enter Try.func7, Try.ntmps7
    go_wp2_with (first | (go_at_call 18; refine (cM _).mono ?_; rintro e w' ⟨rfl, hw⟩; subst w'; clear cM) | (go_at_call 18; refine (cN _).mono ?_; rintro e w' ⟨rfl, hw⟩; subst w'; clear cN))
    go_ret
    exact ⟨rfl, Below.refl _ _⟩
  by_cases l0 : a0 < -46340
  · go_enter Try.func7, Try.ntmps7
    go_wp2_with (first | (go_at_call 18; refine (cM _).mono ?_; rintro e w' ⟨rfl, hw⟩; subst w'; clear cM) | (go_at_call 18; refine (cN _).mono ?_; rintro e w' ⟨rfl, hw⟩; subst w'; clear cN))
    go_ret
    exact ⟨rfl, Below.refl _ _⟩
  by_cases l1 : a1 < -46340
  · go_enter Try.func7, Try.ntmps7
    go_wp2_with (first | (go_at_call 18; refine (cM _).mono ?_; rintro e w' ⟨rfl, hw⟩; subst w'; clear cM) | (go_at_call 18; refine (cN _).mono ?_; rintro e w' ⟨rfl, hw⟩; subst w'; clear cN))
    go_ret
    exact ⟨rfl, Below.refl _ _⟩
  by_cases l2 : 46340 < a0
  · go_enter Try.func7, Try.ntmps7
    go_wp2_with (first | (go_at_call 18; refine (cM _).mono ?_; rintro e w' ⟨rfl, hw⟩; subst w'; clear cM) | (go_at_call 18; refine (cN _).mono ?_; rintro e w' ⟨rfl, hw⟩; subst w'; clear cN))
    go_ret
    exact ⟨rfl, Below.refl _ _⟩
  by_cases l3 : 46340 < a1
  · go_enter Try.func7, Try.ntmps7
    go_wp2_with (first | (go_at_call 18; refine (cM _).mono ?_; rintro e w' ⟨rfl, hw⟩; subst w'; clear cM) | (go_at_call 18; refine (cN _).mono ?_; rintro e w' ⟨rfl, hw⟩; subst w'; clear cN))
    go_ret
    exact ⟨rfl, Below.refl _ _⟩
  obtain ⟨x, hx⟩ := JJ.ex a0 hn1
  obtain ⟨y, hy⟩ := JJ.ex a1 hn1
  obtain ⟨u, hu⟩ := JJ.ex a0 hm1
  have hz := JJ.mul hno hx hy
  have hv := JJ.low hm1 hn1 hu hx
  obtain ⟨q1, q2⟩ := ab_bd (a := a0) (b := a1) (by omega) (by omega) (by omega) (by omega)
  have hmno : m * n % 2 = 1 := by rw [Nat.mul_mod, hmo, hno]
  have hmnl : m * n ≤ 1048576 := by
    have e : ((m * n : Nat) : Int) = (m : Int) * (n : Int) := by simp
    omega
  have c1 := fun w => Jacobi_yes a0 n x ⟨by omega, by omega⟩ hno hn2 hx w
  have c2 := fun w => Jacobi_yes a1 n y ⟨by omega, by omega⟩ hno hn2 hy w
  have c3 := fun w => Jacobi_yes (a0 * a1) n (x * y) ⟨by omega, by omega⟩ hno hn2 hz w
  have c4 := fun w => Jacobi_yes a0 m u ⟨by omega, by omega⟩ hmo hm2 hu w
  have c5 := fun w => Jacobi_yes a0 (m * n) (u * x) ⟨by omega, by omega⟩ hmno hmnl hv w
  rw [show ((m * n : Nat) : Int) = (m : Int) * (n : Int) by simp] at c5
  have c6 := fun w => Jacobi_yes 1 n 1 ⟨by omega, by omega⟩ hno hn2 (JJ.one hn1) w
  have tx := hx.three
  have tu := hu.three
  obtain ⟨b1, b2⟩ := three_mul (x := x) (y := y) (by omega) hy.three
  obtain ⟨b3, b4⟩ := three_mul (x := u) (y := x) (by omega) tx
  clear hx hy hu hz hv hmno hmnl hmo hno tx tu
  go_enter Try.func7, Try.ntmps7
  go_wp2_with (first | (go_at_call 18; refine (cM _).mono ?_; rintro e w' ⟨rfl, hw⟩; subst w'; clear cM) | (go_at_call 18; refine (cN _).mono ?_; rintro e w' ⟨rfl, hw⟩; subst w'; clear cN) | (go_at_call 9; refine (c1 _).mono ?_; rintro e w' ⟨rfl, hw⟩; subst w'; clear c1) | (go_at_call 9; refine (c2 _).mono ?_; rintro e w' ⟨rfl, hw⟩; subst w'; clear c2) | (go_at_call 9; refine (c3 _).mono ?_; rintro e w' ⟨rfl, hw⟩; subst w'; clear c3) | (go_at_call 9; refine (c4 _).mono ?_; rintro e w' ⟨rfl, hw⟩; subst w'; clear c4) | (go_at_call 9; refine (c5 _).mono ?_; rintro e w' ⟨rfl, hw⟩; subst w'; clear c5) | (go_at_call 9; refine (c6 _).mono ?_; rintro e w' ⟨rfl, hw⟩; subst w'; clear c6))
  go_ret
  exact ⟨rfl, Below.refl _ _⟩

/-! ### THE ROW's STEP: WRITTEN OUT: LEAVE IT -/
set_option maxRecDepth 100000 in
theorem lifted (os : Os) (started : os.Started) (H : Type) (enc : TypeId × Value → H) :
    ReturnsInHanded {} Try.checked os 7 .any (Rows.squaresMulSpec.pre6 enc Try.prog Try.f7 Rows.squaresMulRow.domain false) (Rows.squaresMulSpec.post enc Try.prog Try.f7 false true false false) := by
  refine returnsInHanded_of_change (C := Try.checked) own started (by kernel_rfl) Try.func7
    (ChangeSpec.witness6 (enc := enc) (C := Try.checked) false ⟨#[], #[.int .i64 0, .int .i64 0, .int .i64 0, .int .i64 0], []⟩ 8 (by kernel_rfl) (by kernel_rfl) (by kernel_rfl) (by kernel_rfl)) ?_
  intro W base args ds gs before hval0 hW hcnd _
  have hval : ∀ (j : Nat) t v, Try.f7.params[j]? = some t → args[j]? = some v → Value.okWide Try.prog W .any base t v := hval0
  have hW' := hW
  obtain ⟨p, q, hA0, hV, rfl, hfz, hnd⟩ := hW
  have hA : DataW.TrodAll enc Try.prog W 0 (fun _ => true) true Try.f7.params.toList args.toList ds p := hA0
  rw [Try.params7] at hA hval
  obtain ⟨v0, vs0, d0, ds0, p0, q0, hargs, rfl, rfl, h0, r0⟩ := trodAll_cons hA
  obtain ⟨v1, vs1, d1, ds1, p1, q1, rfl, rfl, rfl, h1, r1⟩ := trodAll_cons r0
  obtain ⟨v2, vs2, d2, ds2, p2, q2, rfl, rfl, rfl, h2, r2⟩ := trodAll_cons r1
  obtain ⟨v3, vs3, d3, ds3, p3, q3, rfl, rfl, rfl, h3, r3⟩ := trodAll_cons r2
  obtain ⟨rfl, rfl, rfl⟩ := trodAll_nil r3
  obtain rfl : args = #[v0, v1, v2, v3] := by cases args; simp_all
  obtain ⟨rfl, rfl⟩ := trodVars_none hV
  obtain ⟨a0, rfl, rfl, rfl, w0⟩ := open_int Try.underlying2 (hval 0 2 v0 rfl rfl) h0
  obtain ⟨a1, rfl, rfl, rfl, w1⟩ := open_int Try.underlying2 (hval 1 2 v1 rfl rfl) h1
  obtain ⟨a2, rfl, rfl, rfl, w2⟩ := open_int Try.underlying2 (hval 2 2 v2 rfl rfl) h2
  obtain ⟨a3, rfl, rfl, rfl, w3⟩ := open_int Try.underlying2 (hval 3 2 v3 rfl rfl) h3
  clear hA0 hval0
  simp only [List.append_nil] at hW'
  refine (walk a0 a1 a2 a3 w0 w1 w2 w3 W).mono fun e W' ⟨he, hg⟩ => ?_
  subst he
  exact ⟨_, rfl, post_of_kept (pa := []) (pv := []) hW' (fun _ _ _ => (trodAll_cons_mk (shut_bool Try.underlying4 _) trodAll_mk0)) (fun sp _ => (trodAll_cons_mk (shut_int Try.underlying2 w0) (trodAll_cons_mk (shut_int Try.underlying2 w1) (trodAll_cons_mk (shut_int Try.underlying2 w2) (trodAll_cons_mk (shut_int Try.underlying2 w3) trodAll_mk0))))) (fun _ _ => rfl) rfl
    (hg.frame _)⟩

theorem over : Rows.squaresMulRow.holds Try.pinned (OpenSpec.ofChange Rows.squaresMulSpec) :=
  OpenClaim.holds_of_wide 7 Try.f7 rfl rfl rfl rfl rfl rfl rfl ⟨rfl, rfl, rfl, rfl, rfl⟩ rfl rfl rfl rfl rfl (by kernel_rfl) Try.func7 (by kernel_rfl)
    (of_decide_eq_true (by kernel_rfl)) (by unfold Func.isWrapper; first | (rw [if_pos (by decide +kernel)]; kernel_rfl) | (rw [if_neg (by decide +kernel)]; exact ⟨rfl, rfl⟩))
    (fun os started H enc _ => lifted os started H enc)

/-- ████ THE STATEMENT ████ -/
theorem proved : Rows.SquaresMulSaid :=
  over
end Go.Proofs.Ytmlhjmajhgcleaa.squaresMul
