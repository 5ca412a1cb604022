/-
  BEZOUT: for any polynomial and any number: what is left of it, divided by x less the number, is what it is there: with no condition.
-/
import Derived.Test.YtiaabkadonimjabRows
import Derived.Test.YtiaabkadonimjabCalls67
import Derived.Test.YtiaabkadonimjabCalls68
import Derived.WalkKit
import Derived.ProofKit
import Derived.OpenShut
import Derived.Carry
namespace Go.Proofs.Ytiaabkadonimjab.polyFactor
open Go.ChangeShapes Go.WideShapes Go.ChangeAt Go.RowKit Go.Deep Go.Proofs.Ytiaabkadonimjab.Base Go.Proofs.Ytiaabkadonimjab.Base2 Go.Proofs.Ytiaabkadonimjab.Num Go.Proofs.Ytiaabkadonimjab.Num7 Go.Proofs.Ytiaabkadonimjab.Num13 Go.Proofs.Ytiaabkadonimjab.Num16 Go.Proofs.Ytiaabkadonimjab.Num17 Go.Proofs.Ytiaabkadonimjab.Num34 Go.Proofs.Ytiaabkadonimjab.Num35 Go.Proofs.Ytiaabkadonimjab.Base4 Go.Proofs.Ytiaabkadonimjab.Calls56 Go.Proofs.Ytiaabkadonimjab.Calls57 Go.Proofs.Ytiaabkadonimjab.Calls60 Go.Proofs.Ytiaabkadonimjab.Calls62 Go.Proofs.Ytiaabkadonimjab.Calls63 Go.Proofs.Ytiaabkadonimjab.Calls67 Go.Proofs.Ytiaabkadonimjab.Calls68
set_option linter.unusedVariables false

theorem own : ownKnob Try.prog.godebug = none := by kernel_rfl

theorem laidOut : laidOutB Try.prog = true := by kernel_rfl

theorem cells2 : Try.prog.cellsOf 2 = 1 := by kernel_rfl

theorem al {w W : World} (h : Below w.heap.size w W) (o : Obj) : Below w.heap.size w (W.alloc o) := h.alloc h.size o

open Go.Proofs.Ytiaabkadonimjab.Calls9 (near_any)

open Go.Proofs.Ytiaabkadonimjab.Calls19 (refMod_at)

theorem irow_one (W : World) (x : Int) : IRow (W.alloc (.cells #[.int .i64 x] 2)) (some ⟨W.heap.size, 0, none⟩) [x] := by
  refine ⟨fun e => (by cases e), fun ad e j hj => ?_⟩
  obtain rfl : (⟨W.heap.size, 0, none⟩ : Addr) = ad := by simpa using e
  obtain rfl : j = 0 := by simpa using hj
  simp [co, zero_add_addr]

theorem irow_two (W : World) (x y : Int) : IRow (W.alloc (.cells #[.int .i64 x, .int .i64 y] 2)) (some ⟨W.heap.size, 0, none⟩) [x, y] := by
  refine ⟨fun e => (by cases e), fun ad e j hj => ?_⟩
  obtain rfl : (⟨W.heap.size, 0, none⟩ : Addr) = ad := by simpa using e
  have : j = 0 ∨ j = 1 := by simp at hj; omega
  rcases this with rfl | rfl <;> simp [co, zero_add_addr]

theorem q_two {P : Nat} (hp : 1 ≤ P) (x : Int) : Q P [-x, 1] [(rs (-x) P : Int), 1] := fun i => by
  match i with
  | 0 => rw [co_zero, co_zero]; exact cong_sy (rs_cong hp (-x))
  | i + 1 => rw [co_succ, co_succ]; simp

theorem fac_div {P : Nat} (hP : Pr P) {a : List Int} (x : Int) : DivIs P a [(rs (-x) P : Int), 1] (nm P (qt x a)) (nm P [ev a x]) := by
  have hp1 : 1 ≤ P := by have := hP.1; omega
  refine ⟨nm_cn hp1 _, nm_cn hp1 _, ?_, ?_⟩
  · have := nm_length P [ev a x]
    simp at this ⊢
    omega
  · refine (Eqv.q (factor x a)).trans ?_
    exact ((nm_q hp1 _).symm.pmul (q_two hp1 x)).padd (nm_q hp1 _).symm

theorem nm_one {P : Nat} (hp : 1 ≤ P) (z : Int) : nm P [z] = if (rs z P : Int) = 0 then [] else [(rs z P : Int)] := by
  have h1 : tr [(rs z P : Int)] = nm P [z] := nm_tr hp (fun y hy => by
      obtain rfl : y = (rs z P : Int) := (by simpa using hy)
      exact rs_bd hp z) (fun i => by
    match i with
    | 0 => rw [co_zero, co_zero]; exact rs_cong hp z
    | i + 1 => rw [co_succ, co_succ]; simp)
  rw [← h1]
  by_cases h : (rs z P : Int) = 0
  · rw [if_pos h, h]; simp [tr]
  · rw [if_neg h]
    exact tr_last_ne _ (fun _ => by simpa [co] using h)

theorem rs_one {P : Nat} (hP : Pr P) (x : Int) : rs (ev [1] x) P = 1 := by
  have := hP.1
  rw [ev_one]
  have h := rs_self (p := P) (x := 1) (by omega) ⟨by omega, by omega⟩
  omega

set_option maxRecDepth 100000 in
set_option maxHeartbeats 1000000 in
theorem walk_yes (P : Nat) (hP : Pr P) (hP2 : P ≤ 251) (ao : Option Addr) (ca : Nat) (a : List Int) (ha : a.length ≤ 13) (hca : Cn P a) (x : Int) (hx : -2147483648 ≤ x ∧ x ≤ 2147483648) (w : World) (ra : IRow w ao a) :
    Calls Try.prog 7 #[.int .i64 (P : Int), .slice ao a.length ca, .int .i64 x] w fun e w' => e = .returned (.bool true) ∧ Below w.heap.size w w' := by
  have hp1 : 1 ≤ P := by have := hP.1; omega
  have cS := sound1 (P : Int) ao ca a (by omega) 0 (PC.of hP hP2 ha hca) true (by simp) w ra
  have cN := fun w => near_any x w
  simp only [decide_eq_true hx] at cN
  have cA := fun w' (hB : Below w.heap.size w w') => At_yes P hP hP2 ao ca a ha hca x hx w' (irow_below ra hB (Nat.le_refl _))
  have cM := fun w => refMod_at (-x) P w hp1 (by omega)
  have cD := fun w' (o : Option Addr) (c : Nat) (hB : Below w.heap.size w w') (hr : IRow w' o [(rs (-x) P : Int), 1]) => Div_yes P hP hP2 ao o ca c a [(rs (-x) P : Int), 1] ha (by simp) (by simp) hca (cn_two hP.1 _) w' (irow_below ra hB (Nat.le_refl _)) hr
  simp only [show ∀ u v : Int, [u, v].length = 2 from fun _ _ => rfl] at cD
  have HU : Hid (∀ q r, DivIs P a [(rs (-x) P : Int), 1] q r → r = if (rs (ev a x) P : Int) = 0 then [] else [(rs (ev a x) P : Int)]) := fun q r h => by
    rw [← nm_one hp1]
    exact (h.uniq hP (cn_two hP.1 _) (by simp) (fac_div hP x)).2
  have cO := fun w' (o : Option Addr) (c : Nat) (hr : IRow w' o [1]) => At_yes P hP hP2 o c [1] (by simp) (cn_one hP.1) x hx w' hr
  simp only [rs_one hP x, show ([1] : List Int).length = 1 from rfl] at cO
  have HAB := hid (al (Below.refl _ w) (.cells #[.slice ao a.length ca] 23))
  have hy := rs_bd hp1 (ev a x)
  generalize (rs (ev a x) P : Int) = y at *
  generalize a.length = na at *
  obtain ⟨z, hz⟩ : ∃ z, z = (rs (-x) P : Int) := ⟨_, rfl⟩
  simp only [← hz] at cM cD HU
  have hy2 : decide ((P : Int) ≤ y) = false := by simp; omega
  have hy3 : decide (y < 0) = false := by simp; omega
  obtain ⟨hx1, hx2⟩ := hx
  clear hca ra hz hy
  by_cases h0 : y = 0
  · subst h0
    have HU0 : Hid (∀ q r, DivIs P a [z, 1] q r → r = []) := fun q r h => by have := HU.out q r h; simpa using this
    go_enter Try.func7, Try.ntmps7
    go_wp2_with (first
      | (go_at_call 14; refine cS.mono ?_; rintro e w2 ⟨rfl, hw⟩; subst w2)
      | (go_at_call 20; refine (cN _).mono ?_; rintro e w2 ⟨rfl, hw⟩; subst w2)
      | (go_at_call 19; refine (cA _ HAB.out).mono ?_; rintro e w3 ⟨rfl, hB3⟩; have hB3' := below_trans HAB.out hB3; clear cA)
      | (go_at_call 22; refine (cM _).mono ?_; rintro e w2 ⟨rfl, hw⟩; subst w2)
      | (go_at_call 21; refine (cD _ _ _ (al hB3' _) (irow_two _ _ _)).mono ?_; rintro e w4 ⟨⟨q, r, hD, o1, c1, o2, c2, rfl, hc1, hr1, hc2, hr2⟩, hB4⟩; have hr := HU0.out q r hD; subst hr; clear hD hr1 hr2; have hB4' := below_trans (al hB3' _) hB4)
      | (go_at_call 19; refine (cO _ _ _ (irow_one _ _)).mono ?_; rintro e w5 ⟨rfl, hB5⟩; have hB5' := below_trans (al hB4' _) hB5))
    go_ret
    exact ⟨rfl, hB5'⟩
  · have h1 : (y == 0) = false := by simpa using h0
    have h2 : (y != 0) = true := by simpa using h0
    go_enter Try.func7, Try.ntmps7
    go_wp2_with (first
      | (go_at_call 14; refine cS.mono ?_; rintro e w2 ⟨rfl, hw⟩; subst w2)
      | (go_at_call 20; refine (cN _).mono ?_; rintro e w2 ⟨rfl, hw⟩; subst w2)
      | (go_at_call 19; refine (cA _ HAB.out).mono ?_; rintro e w3 ⟨rfl, hB3⟩; have hB3' := below_trans HAB.out hB3; clear cA)
      | (go_at_call 22; refine (cM _).mono ?_; rintro e w2 ⟨rfl, hw⟩; subst w2)
      | (go_at_call 21; refine (cD _ _ _ (al hB3' _) (irow_two _ _ _)).mono ?_; rintro e w4 ⟨⟨q, r, hD, o1, c1, o2, c2, rfl, hc1, hr1, hc2, hr2⟩, hB4⟩; have hr := HU.out q r hD; rw [if_neg h0] at hr; subst hr; have H2 := hid hr2; clear hD hr1 hr2; have hB4' := below_trans (al hB3' _) hB4; obtain ⟨ad, rfl⟩ : ∃ ad, o2 = some ad := (by
          cases o2 with
          | none => exact (irow_none H2.out (j := 0) (by simp)).elim
          | some ad => exact ⟨ad, rfl⟩))
      | (go_at_call 19; refine (cO _ _ _ (irow_one _ _)).mono ?_; rintro e w5 ⟨rfl, hB5⟩; have hB5' := below_trans (al hB4' _) hB5; have d1 := (irow_below H2.out (below_trans ((Below.refl _ w4).alloc (Nat.le_refl _) _) hB5) (Nat.le_refl _)).2 ad rfl 0 (by simp); rw [co_zero] at d1; have d2 := d1; rw [show ad.add 0 = ad by simp [Addr.add]] at d2))
    go_ret
    exact ⟨rfl, hB5'⟩

theorem walk (p : Int) (ao : Option Addr) (ca : Nat) (a : List Int) (ka : a.length ≤ ca) (ma : a.length ≤ 9223372036854775807) (x : Int) (w : World) (ra : IRow w ao a) :
    Calls Try.prog 7 #[.int .i64 p, .slice ao a.length ca, .int .i64 x] w fun e w' => e = .returned (.bool true) ∧ Below w.heap.size w w' := by
  obtain ⟨c, hc⟩ := pc_ex p a
  have HAB := hid (al (Below.refl _ w) (.cells #[.slice ao a.length ca] 23))
  by_cases h0 : c = 0
  · subst h0
    obtain ⟨P, rfl, hP, hP2, ha, hca⟩ := hc.ok
    by_cases hx : -2147483648 ≤ x ∧ x ≤ 2147483648
    · exact walk_yes P hP hP2 ao ca a ha hca x hx w ra
    · have cS := sound1 (P : Int) ao ca a ma 0 hc true (by simp) w ra
      have cN := fun w => near_any x w
      simp only [decide_eq_false hx] at cN
      have cA := At_far P hP hP2 ao ca a ha hca x (by omega) _ (irow_below ra HAB.out (Nat.le_refl _))
      generalize a.length = na at *
      clear hc ra hca hx
      go_enter Try.func7, Try.ntmps7
      go_wp2_with (first
        | (go_at_call 14; refine cS.mono ?_; rintro e w2 ⟨rfl, hw⟩; subst w2)
        | (go_at_call 20; refine (cN _).mono ?_; rintro e w2 ⟨rfl, hw⟩; subst w2)
        | (go_at_call 19; refine cA.mono ?_; rintro e w3 ⟨rfl, hB3⟩))
      go_ret
      exact ⟨rfl, below_trans HAB.out hB3⟩
  · have cS := sound1 p ao ca a ma c hc false (by simp [h0]) w ra
    have cA := At_bad p ao ca a ma x c hc h0 _ (irow_below ra HAB.out (Nat.le_refl _))
    generalize a.length = na at *
    have h1 : (c != 0) = true := by simpa using h0
    have h2 : (c == 0) = false := by simpa using h0
    clear hc ra
    go_enter Try.func7, Try.ntmps7
    go_wp2_with (first
      | (go_at_call 14; refine cS.mono ?_; rintro e w2 ⟨rfl, hw⟩; subst w2)
      | (go_at_call 19; refine cA.mono ?_; rintro e w3 ⟨rfl, hB3⟩))
    go_ret
    exact ⟨rfl, below_trans HAB.out hB3⟩

set_option maxRecDepth 100000 in
theorem lifted (os : Os) (started : os.Started) (H : Type) (enc : TypeId × Value → H) :
    ReturnsInHanded {} Try.checked os 7 .any (Rows.polyFactorSpec.pre6 enc Try.prog Try.f7 Rows.polyFactorRow.domain false) (Rows.polyFactorSpec.post enc Try.prog Try.f7 false true false false) := by
  refine returnsInHanded_of_change (C := Try.checked) own started (by kernel_rfl) Try.func7
    (ChangeSpec.witness6 (enc := enc) (C := Try.checked) false ⟨#[], #[.int .i64 0, .slice none 0 0, .int .i64 0], []⟩ 8 (by kernel_rfl) (by kernel_rfl) (by kernel_rfl) (by kernel_rfl)) ?_
  intro W base args ds gs before hval0 hW hcnd _
  have hval : ∀ (j : Nat) t v, Try.f7.params[j]? = some t → args[j]? = some v → Value.okWide Try.prog W .any base t v := hval0
  have hW' := hW
  obtain ⟨p, q, hA0, hV, rfl, _, _⟩ := hW
  have hA : DataW.TrodAll enc Try.prog W 0 (fun _ => true) true Try.f7.params.toList args.toList ds p := hA0
  rw [Try.params7] at hA hval
  obtain ⟨v0, v1, v2, d0, d1, d2, p0, p1, p2, rfl, rfl, rfl, h0, h1, h2⟩ := trodAll_three hA
  obtain ⟨rfl, rfl⟩ := trodVars_none hV
  obtain ⟨a0, rfl, rfl, rfl, w0⟩ := open_int Try.underlying2 (hval 0 2 v0 rfl rfl) h0
  have hsl1 := okWide_slice Try.underlying23 (hval 1 23 v1 rfl rfl)
  obtain ⟨a2, rfl, rfl, rfl, w2⟩ := open_int Try.underlying2 (hval 2 2 v2 rfl rfl) h2
  clear hA0 hval0
  simp only [List.append_nil, List.nil_append] at hW'
  have hlt1 : ∀ x ∈ p1, x.block < W.heap.size := fun x hx => by simpa using hW'.lt x (by simp [hx])
  have harg1 : ∀ (W' : World), Below W.heap.size W W' → DataW.Trod enc Try.prog W' 0 (fun b => decide (b < W.heap.size)) true 23 v1 d1 p1 :=
    fun W' hn => Below.trod laidOut (by kernel_rfl) (of_decide_eq_true (by kernel_rfl)) h1 hn hlt1
  obtain ⟨o1, c1, l1, rfl, r1, k1, m1⟩ := longs_view Try.underlying23 cells2 Try.underlying2 h1 hsl1
  refine (walk a0 o1 c1 l1 k1 m1 a2 W r1).mono fun e W' ⟨he, hg⟩ => ?_
  subst he
  refine ⟨_, rfl, _, _, _, [], ([] : List MemPlace) ++ (p1 ++ (([] : List MemPlace))), [], hW', ?_, ?_, rfl, hg.frame _, fun h => by cases h⟩
  · exact trodAll_mk1 (shut_bool Try.underlying4 true)
  · exact trodAll_mk3 (shut_int Try.underlying2 w0) (harg1 _ hg) (shut_int Try.underlying2 w2)

theorem over : Rows.polyFactorRow.holds Try.pinned (OpenSpec.ofChange Rows.polyFactorSpec) :=
  OpenClaim.holds_of_wide 7 Try.f7 rfl rfl rfl rfl rfl rfl rfl ⟨rfl, rfl, rfl, rfl, rfl⟩ rfl rfl rfl rfl rfl (by kernel_rfl) Try.func7 (by kernel_rfl)
    (of_decide_eq_true (by kernel_rfl)) (by unfold Func.isWrapper; first | (rw [if_pos (by decide +kernel)]; kernel_rfl) | (rw [if_neg (by decide +kernel)]; exact ⟨rfl, rfl⟩))
    (fun os started H enc _ => lifted os started H enc)

/-- ████ THE STATEMENT ████ -/
theorem proved : Rows.PolyFactorSaid :=
  over

end Go.Proofs.Ytiaabkadonimjab.polyFactor
