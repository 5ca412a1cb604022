/-
  PEDERSEN: for any group and any two pairs to which one is bound alike: which power the one is of the other is told: for every group of four int64 and all int64 m, r, n and s.
-/
import Derived.Test.YtlpbohkjiddelaaRows
import Derived.Test.YtlpbohkjiddelaaCalls166
import Derived.Test.YtlpbohkjiddelaaBase10
import Derived.WalkKit
import Derived.ProofKit
import Derived.OpenShut
import Derived.Carry
namespace Go.Proofs.Ytlpbohkjiddelaa.commitBinds
open Go.ChangeShapes Go.WideShapes Go.ChangeAt Go.RowKit Go.Deep Go.Proofs.Ytlpbohkjiddelaa.Base Go.Proofs.Ytlpbohkjiddelaa.Base2 Go.Proofs.Ytlpbohkjiddelaa.Base4 Go.Proofs.Ytlpbohkjiddelaa.Base10 Go.Proofs.Ytlpbohkjiddelaa.Num Go.Proofs.Ytlpbohkjiddelaa.Num56 Go.Proofs.Ytlpbohkjiddelaa.Calls157 Go.Proofs.Ytlpbohkjiddelaa.Calls158 Go.Proofs.Ytlpbohkjiddelaa.Calls160 Go.Proofs.Ytlpbohkjiddelaa.Num68 Go.Proofs.Ytlpbohkjiddelaa.Calls159 Go.Proofs.Ytlpbohkjiddelaa.Calls162 Go.Proofs.Ytlpbohkjiddelaa.Calls163 Go.Proofs.Ytlpbohkjiddelaa.Calls165 Go.Proofs.Ytlpbohkjiddelaa.Calls166
set_option linter.unusedVariables false

theorem own : ownKnob Try.prog.godebug = none := by kernel_rfl

theorem laidOut : laidOutB Try.prog = true := by kernel_rfl

theorem cells2 : Try.prog.cellsOf 2 = 1 := by kernel_rfl

theorem cells_G : Try.prog.cellsOf 23 = 4 := by kernel_rfl

set_option maxRecDepth 100000 in
set_option maxHeartbeats 2000000 in
theorem walkF (P Q G H m r n s x y c d b f : Int) (hf : f ≠ 0)
    (cA : ∀ w, Calls Try.prog 9 #[.agg #[.int .i64 P, .int .i64 Q, .int .i64 G, .int .i64 H], .int .i64 m, .int .i64 r] w fun e w' => e = .returned (.tuple #[.int .i64 x, .int .i64 c]) ∧ Below w.heap.size w w')
    (cB : ∀ w, Calls Try.prog 9 #[.agg #[.int .i64 P, .int .i64 Q, .int .i64 G, .int .i64 H], .int .i64 n, .int .i64 s] w fun e w' => e = .returned (.tuple #[.int .i64 y, .int .i64 d]) ∧ Below w.heap.size w w')
    (cR : ∀ w, Calls Try.prog 14 #[.agg #[.int .i64 P, .int .i64 Q, .int .i64 G, .int .i64 H], .int .i64 m, .int .i64 r, .int .i64 n, .int .i64 s] w fun e w' => e = .returned (.tuple #[.int .i64 b, .int .i64 f]) ∧ Below w.heap.size w w')
    (cP : ∀ wr, Calls Try.prog 15 #[.agg #[.int .i64 P, .int .i64 Q, .int .i64 G, .int .i64 H], .slice (some ⟨wr.heap.size, 0, none⟩) 4 4] (wr.alloc (.cells #[.int .i64 m, .int .i64 r, .int .i64 n, .int .i64 s] 2)) fun e w' => e = .returned (.bool false) ∧ Below wr.heap.size wr w') (w : World) :
    Calls Try.prog 7 #[.agg #[.int .i64 P, .int .i64 Q, .int .i64 G, .int .i64 H], .int .i64 m, .int .i64 r, .int .i64 n, .int .i64 s] w fun e w' => e = .returned (.bool true) ∧ Below w.heap.size w w' := by
  have h1 : (f != 0) = true := by simpa using hf
  have K := hid (Gb.new w P Q G H)
  obtain ⟨c0, c1, c2, c3⟩ := K.out.cells
  go_enter Try.func7, Try.ntmps7
  go_wp2_with (first
    | (go_at_call 9; refine (cA _).mono ?_; clear cA; rintro e w1 ⟨rfl, hB1⟩; have K1 := hid (K.out.below hB1); obtain ⟨d0, d1, d2, d3⟩ := K1.out.cells; clear hB1)
    | (go_at_call 9; refine (cB _).mono ?_; clear cB; rintro e w1 ⟨rfl, hB1⟩; have K2 := hid (K1.out.below hB1); obtain ⟨e0, e1, e2, e3⟩ := K2.out.cells; clear hB1)
    | (go_at_call 14; refine (cR _).mono ?_; clear cR; rintro e w1 ⟨rfl, hB1⟩; have K3 := hid (K2.out.below hB1); obtain ⟨f0, f1, f2, f3⟩ := K3.out.cells; clear hB1)
    | (go_at_call 15; refine (cP _).mono ?_; clear cP; rintro e w1 ⟨rfl, hB1⟩; have K4 := hid (K3.out.below hB1); obtain ⟨g0, g1, g2, g3⟩ := K4.out.cells; clear hB1))
  go_ret
  exact ⟨by simp, K4.out.2⟩

set_option maxRecDepth 100000 in
set_option maxHeartbeats 2000000 in
theorem walkS (P Q G H m r n s x y f : Int) (hf : f ≠ 0) (hx : 1 ≤ x) (hxy : x ≠ y ∨ (x = y ∧ m = n ∧ r = s))
    (cA : ∀ w, Calls Try.prog 9 #[.agg #[.int .i64 P, .int .i64 Q, .int .i64 G, .int .i64 H], .int .i64 m, .int .i64 r] w fun e w' => e = .returned (.tuple #[.int .i64 x, .int .i64 0]) ∧ Below w.heap.size w w')
    (cB : ∀ w, Calls Try.prog 9 #[.agg #[.int .i64 P, .int .i64 Q, .int .i64 G, .int .i64 H], .int .i64 n, .int .i64 s] w fun e w' => e = .returned (.tuple #[.int .i64 y, .int .i64 0]) ∧ Below w.heap.size w w')
    (cR : ∀ w, Calls Try.prog 14 #[.agg #[.int .i64 P, .int .i64 Q, .int .i64 G, .int .i64 H], .int .i64 m, .int .i64 r, .int .i64 n, .int .i64 s] w fun e w' => e = .returned (.tuple #[.int .i64 0, .int .i64 f]) ∧ Below w.heap.size w w')
    (cP : ∀ wr, Calls Try.prog 15 #[.agg #[.int .i64 P, .int .i64 Q, .int .i64 G, .int .i64 H], .slice (some ⟨wr.heap.size, 0, none⟩) 4 4] (wr.alloc (.cells #[.int .i64 m, .int .i64 r, .int .i64 n, .int .i64 s] 2)) fun e w' => e = .returned (.bool true) ∧ Below wr.heap.size wr w') (w : World) :
    Calls Try.prog 7 #[.agg #[.int .i64 P, .int .i64 Q, .int .i64 G, .int .i64 H], .int .i64 m, .int .i64 r, .int .i64 n, .int .i64 s] w fun e w' => e = .returned (.bool true) ∧ Below w.heap.size w w' := by
  have h1 : (f != 0) = true := by simpa using hf
  have h2 : decide (x < 1) = false := by simpa using hx
  have h3 : ¬ x < 1 := by omega
  have hh : (x != y) = true ∨ ((x != y) = false ∧ (m == n) = true ∧ (r == s) = true) := by
    rcases hxy with e | ⟨rfl, rfl, rfl⟩
    · exact .inl (by simpa using e)
    · exact .inr ⟨bne_self_eq_false _, beq_self_eq_true _, beq_self_eq_true _⟩
  clear hxy
  have K := hid (Gb.new w P Q G H)
  obtain ⟨c0, c1, c2, c3⟩ := K.out.cells
  rcases hh with e1 | ⟨e1, e2, e3⟩
  all_goals
    go_enter Try.func7, Try.ntmps7
    go_wp2_with (first
      | (go_at_call 9; refine (cA _).mono ?_; clear cA; rintro e w1 ⟨rfl, hB1⟩; have K1 := hid (K.out.below hB1); obtain ⟨d0, d1, d2, d3⟩ := K1.out.cells; clear hB1)
      | (go_at_call 9; refine (cB _).mono ?_; clear cB; rintro e w1 ⟨rfl, hB1⟩; have K2 := hid (K1.out.below hB1); obtain ⟨e0, e1, e2, e3⟩ := K2.out.cells; clear hB1)
      | (go_at_call 14; refine (cR _).mono ?_; clear cR; rintro e w1 ⟨rfl, hB1⟩; have K3 := hid (K2.out.below hB1); obtain ⟨f0, f1, f2, f3⟩ := K3.out.cells; clear hB1)
      | (go_at_call 15; refine (cP _).mono ?_; clear cP; rintro e w1 ⟨rfl, hB1⟩; have K4 := hid (K3.out.below hB1); obtain ⟨g0, g1, g2, g3⟩ := K4.out.cells; clear hB1))
    go_ret
    exact ⟨by simp, K4.out.2⟩

set_option maxRecDepth 100000 in
set_option maxHeartbeats 2000000 in
theorem walkY (P Q G H m r n s x b : Int) (hx : 1 ≤ x) (hmn : (m == n) = true ∧ (r == s) = false ∨ (m == n) = false)
    (cA : ∀ w, Calls Try.prog 9 #[.agg #[.int .i64 P, .int .i64 Q, .int .i64 G, .int .i64 H], .int .i64 m, .int .i64 r] w fun e w' => e = .returned (.tuple #[.int .i64 x, .int .i64 0]) ∧ Below w.heap.size w w')
    (cB : ∀ w, Calls Try.prog 9 #[.agg #[.int .i64 P, .int .i64 Q, .int .i64 G, .int .i64 H], .int .i64 n, .int .i64 s] w fun e w' => e = .returned (.tuple #[.int .i64 x, .int .i64 0]) ∧ Below w.heap.size w w')
    (cR : ∀ w, Calls Try.prog 14 #[.agg #[.int .i64 P, .int .i64 Q, .int .i64 G, .int .i64 H], .int .i64 m, .int .i64 r, .int .i64 n, .int .i64 s] w fun e w' => e = .returned (.tuple #[.int .i64 b, .int .i64 0]) ∧ Below w.heap.size w w')
    (cP : ∀ wr, Calls Try.prog 15 #[.agg #[.int .i64 P, .int .i64 Q, .int .i64 G, .int .i64 H], .slice (some ⟨wr.heap.size, 0, none⟩) 4 4] (wr.alloc (.cells #[.int .i64 m, .int .i64 r, .int .i64 n, .int .i64 s] 2)) fun e w' => e = .returned (.bool true) ∧ Below wr.heap.size wr w')
    (cQ : ∀ w, Calls Try.prog 13 #[.int .i64 G, .int .i64 b, .int .i64 P] w fun e w' => e = .returned (.int .i64 H) ∧ w' = w) (w : World) :
    Calls Try.prog 7 #[.agg #[.int .i64 P, .int .i64 Q, .int .i64 G, .int .i64 H], .int .i64 m, .int .i64 r, .int .i64 n, .int .i64 s] w fun e w' => e = .returned (.bool true) ∧ Below w.heap.size w w' := by
  have h2 : decide (x < 1) = false := by simpa using hx
  have h3 : ¬ x < 1 := by omega
  have e0 : (x != x) = false := bne_self_eq_false _
  have e9 : (H == H) = true := beq_self_eq_true _
  have K := hid (Gb.new w P Q G H)
  obtain ⟨c0, c1, c2, c3⟩ := K.out.cells
  rcases hmn with ⟨e1, e2⟩ | e1
  all_goals
    go_enter Try.func7, Try.ntmps7
    go_wp2_with (first
      | (go_at_call 9; refine (cA _).mono ?_; clear cA; rintro e w1 ⟨rfl, hB1⟩; have K1 := hid (K.out.below hB1); obtain ⟨d0, d1, d2, d3⟩ := K1.out.cells; clear hB1)
      | (go_at_call 9; refine (cB _).mono ?_; clear cB; rintro e w1 ⟨rfl, hB1⟩; have K2 := hid (K1.out.below hB1); obtain ⟨e0, e1, e2, e3⟩ := K2.out.cells; clear hB1)
      | (go_at_call 14; refine (cR _).mono ?_; clear cR; rintro e w1 ⟨rfl, hB1⟩; have K3 := hid (K2.out.below hB1); obtain ⟨f0, f1, f2, f3⟩ := K3.out.cells; clear hB1)
      | (go_at_call 15; refine (cP _).mono ?_; clear cP; rintro e w1 ⟨rfl, hB1⟩; have K4 := hid (K3.out.below hB1); obtain ⟨g0, g1, g2, g3⟩ := K4.out.cells; clear hB1))
    go_region_held3 (fun w' => w'.cell? ⟨w.heap.size, 0, none⟩ = some (.int .i64 P) ∧ w'.cell? ⟨w.heap.size, 1, none⟩ = some (.int .i64 Q) ∧ w'.cell? ⟨w.heap.size, 2, none⟩ = some (.int .i64 G) ∧ w'.cell? ⟨w.heap.size, 3, none⟩ = some (.int .i64 H)) (first | exact ⟨g0, g1, g2, g3⟩)
      (first
        | (go_at_call 13; refine (cQ _).mono ?_; rintro e w5 ⟨rfl, hw⟩; subst w5; have K4 := hid (show Gb w _ _ _ _ _ by first | exact K4.out | exact K4.out.drew); obtain ⟨g0, g1, g2, g3⟩ := K4.out.cells))
    all_goals
      go_wp2
      go_ret
      exact ⟨by simp, by first | exact K4.out.2 | exact K4.out.drew.2⟩

theorem walk (P Q G H : Int) (wP : (Lit.int .i64 P).wf = true) (wQ : (Lit.int .i64 Q).wf = true) (wG : (Lit.int .i64 G).wf = true) (wH : (Lit.int .i64 H).wf = true) (m r n s : Int) (w : World) :
    Calls Try.prog 7 #[.agg #[.int .i64 P, .int .i64 Q, .int .i64 G, .int .i64 H], .int .i64 m, .int .i64 r, .int .i64 n, .int .i64 s] w fun e w' => e = .returned (.bool true) ∧ Below w.heap.size w w' := by
  obtain ⟨v, hv⟩ := bool_of (aC P Q G H [m, r, n, s] [] = 0)
  have cP := fun wr => pk4 P Q G H m r n s v hv wr
  by_cases h : aC P Q G H [m, r, n, s] [] = 0
  · obtain rfl : v = true := hv.2 h
    obtain ⟨p, q, g, k, rfl, rfl, rfl, rfl, hG, h1, _⟩ := aC_zero h
    obtain ⟨m, rfl, hm⟩ := h1 m (by simp)
    obtain ⟨r, rfl, hr⟩ := h1 r (by simp)
    obtain ⟨n, rfl, hn⟩ := h1 n (by simp)
    obtain ⟨s, rfl, hs⟩ := h1 s (by simp)
    have p3 := hG.p3
    have pb := hG.big
    have ql := hG.qlt
    have cA := fun w => Commit_yes p q g k m r hG hm hr w
    have cB := fun w => Commit_yes p q g k n s hG hn hs w
    have hx : 1 ≤ bd p g k m r := (bd_mem hG.g hG.h.mem _ _).1
    by_cases hsm : m = n ∧ r = s
    · obtain ⟨rfl, rfl⟩ := hsm
      exact walkS _ _ _ _ _ _ _ _ _ _ 4 (by decide) (by omega) (.inr ⟨rfl, rfl, rfl⟩) cA cB (fun w => Break_form p q g k m r m r hG hm hr hm hr (.inl ⟨rfl, rfl⟩) w) cP w
    · by_cases he : bd p g k m r = bd p g k n s
      · obtain ⟨b, ⟨hb, eb⟩, cR⟩ := Break_yes p q g k m r n s hG hm hr hn hs hsm he
        rw [← he] at cB
        have cQ := fun w => refPow_nat g b p (by omega) pb (by omega) w
        rw [eb] at cQ
        refine walkY _ _ _ _ _ _ _ _ _ _ (by omega) ?_ cA cB cR cP cQ w
        by_cases hmn : m = n
        · exact .inl ⟨i64_eq hmn, i64_ne fun e => hsm ⟨hmn, e⟩⟩
        · exact .inr (i64_ne hmn)
      · exact walkS _ _ _ _ _ _ _ _ _ _ 4 (by decide) (by omega) (.inl fun e => he (by exact_mod_cast e)) cA cB (fun w => Break_form p q g k m r n s hG hm hr hn hs (.inr he) w) cP w
  · obtain rfl : v = false := by
      cases v with
      | false => rfl
      | true => exact absurd (hv.1 rfl) h
    obtain ⟨x, cA⟩ := Commit_any P Q G H m r
    obtain ⟨y, cB⟩ := Commit_any P Q G H n s
    exact walkF P Q G H m r n s x y _ _ 0 _ h cA cB (fun w => Break_bad P Q G H m r n s h w) cP w

theorem trodAll_five {H : Type} {enc : TypeId × Value → H} {P : Program} {w : World} {base : Nat} {spare : Nat → Bool} {held : Bool} {t0 t1 t2 t3 t4 : TypeId} {args : Array Value} {ds : List (DataW H)} {ps : List MemPlace} (h : DataW.TrodAll enc P w base spare held [t0, t1, t2, t3, t4] args.toList ds ps) :
    ∃ v0 v1 v2 v3 v4 d0 d1 d2 d3 d4 p0 p1 p2 p3 p4, args = #[v0, v1, v2, v3, v4] ∧ ds = [d0, d1, d2, d3, d4] ∧ ps = p0 ++ p1 ++ p2 ++ p3 ++ p4 ∧ DataW.Trod enc P w base spare held t0 v0 d0 p0 ∧ DataW.Trod enc P w base spare held t1 v1 d1 p1 ∧ DataW.Trod enc P w base spare held t2 v2 d2 p2 ∧ DataW.Trod enc P w base spare held t3 v3 d3 p3 ∧ DataW.Trod enc P w base spare held t4 v4 d4 p4 := by
  obtain ⟨v0, vs0, d0, ds0, p0, q0, hargs, rfl, rfl, hd0, hrest0⟩ := trodAll_cons h
  obtain ⟨v1, vs1, d1, ds1, p1, q1, rfl, rfl, rfl, hd1, hrest1⟩ := trodAll_cons hrest0
  obtain ⟨v2, vs2, d2, ds2, p2, q2, rfl, rfl, rfl, hd2, hrest2⟩ := trodAll_cons hrest1
  obtain ⟨v3, vs3, d3, ds3, p3, q3, rfl, rfl, rfl, hd3, hrest3⟩ := trodAll_cons hrest2
  obtain ⟨v4, vs4, d4, ds4, p4, q4, rfl, rfl, rfl, hd4, hrest4⟩ := trodAll_cons hrest3
  obtain ⟨rfl, rfl, rfl⟩ := trodAll_nil hrest4
  exact ⟨v0, v1, v2, v3, v4, d0, d1, d2, d3, d4, p0, p1, p2, p3, p4, by cases args; simp_all, rfl, by simp, hd0, hd1, hd2, hd3, hd4⟩

theorem trodAll_mk5 {H : Type} {enc : TypeId × Value → H} {P : Program} {w : World} {base : Nat} {spare : Nat → Bool} {held : Bool} {t0 t1 t2 t3 t4 : TypeId} {v0 v1 v2 v3 v4 : Value} {d0 d1 d2 d3 d4 : DataW H} {p0 p1 p2 p3 p4 : List MemPlace} (h0 : DataW.Trod enc P w base spare held t0 v0 d0 p0) (h1 : DataW.Trod enc P w base spare held t1 v1 d1 p1) (h2 : DataW.Trod enc P w base spare held t2 v2 d2 p2) (h3 : DataW.Trod enc P w base spare held t3 v3 d3 p3) (h4 : DataW.Trod enc P w base spare held t4 v4 d4 p4) : DataW.TrodAll enc P w base spare held [t0, t1, t2, t3, t4] [v0, v1, v2, v3, v4] [d0, d1, d2, d3, d4] (p0 ++ (p1 ++ (p2 ++ (p3 ++ (p4))))) := ⟨p0, p1 ++ (p2 ++ (p3 ++ (p4))), h0, trodAll_mk4 h1 h2 h3 h4, rfl⟩

set_option maxRecDepth 100000 in
theorem lifted (os : Os) (started : os.Started) (H : Type) (enc : TypeId × Value → H) :
    ReturnsInHanded {} Try.checked os 7 .any (Rows.commitBindsSpec.pre6 enc Try.prog Try.f7 Rows.commitBindsRow.domain false) (Rows.commitBindsSpec.post enc Try.prog Try.f7 false true false false) := by
  refine returnsInHanded_of_change (C := Try.checked) own started (by kernel_rfl) Try.func7
    (ChangeSpec.witness6 (enc := enc) (C := Try.checked) false ⟨#[], #[.agg #[.int .i64 0, .int .i64 0, .int .i64 0, .int .i64 0], .int .i64 0, .int .i64 0, .int .i64 0, .int .i64 0], []⟩ 8 (by kernel_rfl) (by kernel_rfl) (by kernel_rfl) (by kernel_rfl)) ?_
  intro W base args ds gs before hval0 hW hcnd _
  have hval : ∀ (j : Nat) t v, Try.f7.params[j]? = some t → args[j]? = some v → Value.okWide Try.prog W .any base t v := hval0
  have hW' := hW
  obtain ⟨p, q, hA0, hV, rfl, _, _⟩ := hW
  have hA : DataW.TrodAll enc Try.prog W 0 (fun _ => true) true Try.f7.params.toList args.toList ds p := hA0
  rw [Try.params7] at hA hval
  obtain ⟨v0, v1, v2, v3, v4, d0, d1, d2, d3, d4, p0, p1, p2, p3, p4, rfl, rfl, rfl, h0, h1, h2, h3, h4⟩ := trodAll_five hA
  obtain ⟨rfl, rfl⟩ := trodVars_none hV
  have hsv0 := hval 0 23 v0 rfl rfl
  obtain ⟨a1, rfl, rfl, rfl, w1⟩ := open_int Try.underlying2 (hval 1 2 v1 rfl rfl) h1
  obtain ⟨a2, rfl, rfl, rfl, w2⟩ := open_int Try.underlying2 (hval 2 2 v2 rfl rfl) h2
  obtain ⟨a3, rfl, rfl, rfl, w3⟩ := open_int Try.underlying2 (hval 3 2 v3 rfl rfl) h3
  obtain ⟨a4, rfl, rfl, rfl, w4⟩ := open_int Try.underlying2 (hval 4 2 v4 rfl rfl) h4
  clear hA0 hval0
  simp only [List.append_nil] at hW'
  have hlt0 : ∀ x ∈ p0, x.block < W.heap.size := fun x hx => by simpa using hW'.lt x (by simp [hx])
  have harg0 : ∀ (W' : World), Below W.heap.size W W' → DataW.Trod enc Try.prog W' 0 (fun b => decide (b < W.heap.size)) true 23 v0 d0 p0 :=
    fun W' hn => Below.trod laidOut (by kernel_rfl) (of_decide_eq_true (by kernel_rfl)) h0 hn hlt0
  obtain ⟨x0a, x0b, x0c, x0d, rfl, w0a, w0b, w0c, w0d⟩ := struct4_view Try.underlying23 cells_G rfl rfl rfl rfl ⟨cells2, Try.underlying2⟩ ⟨cells2, Try.underlying2⟩ ⟨cells2, Try.underlying2⟩ ⟨cells2, Try.underlying2⟩ h0 hsv0
  refine (walk x0a x0b x0c x0d w0a w0b w0c w0d a1 a2 a3 a4 W ).mono fun e W' ⟨he, hg⟩ => ?_
  subst he
  refine ⟨_, rfl, _, _, _, [], p0 ++ (([] : List MemPlace) ++ (([] : List MemPlace) ++ (([] : List MemPlace) ++ (([] : List MemPlace))))), [], hW', ?_, ?_, rfl, hg.frame _, fun h => by cases h⟩
  · exact trodAll_mk1 (shut_bool Try.underlying4 true)
  · exact trodAll_mk5 (harg0 _ hg) (shut_int Try.underlying2 w1) (shut_int Try.underlying2 w2) (shut_int Try.underlying2 w3) (shut_int Try.underlying2 w4)

theorem over : Rows.commitBindsRow.holds Try.pinned (OpenSpec.ofChange Rows.commitBindsSpec) :=
  OpenClaim.holds_of_wide 7 Try.f7 rfl rfl rfl rfl rfl rfl rfl ⟨rfl, rfl, rfl, rfl, rfl⟩ rfl rfl rfl rfl rfl (by kernel_rfl) Try.func7 (by kernel_rfl)
    (of_decide_eq_true (by kernel_rfl)) (by unfold Func.isWrapper; first | (rw [if_pos (by decide +kernel)]; kernel_rfl) | (rw [if_neg (by decide +kernel)]; exact ⟨rfl, rfl⟩))
    (fun os started H enc _ => lifted os started H enc)

/-- ████ THE STATEMENT ████ -/
theorem proved : Rows.CommitBindsSaid :=
  over

end Go.Proofs.Ytlpbohkjiddelaa.commitBinds
