/-
  For any two primes, whatever is public, and any message: what was locked is opened, also by parts, and what was opened is locked.
-/
import Derived.Test.YtoohnfcikapmlaaRows
import Derived.Test.YtoohnfcikapmlaaCalls155
import Derived.Test.YtoohnfcikapmlaaBase10
import Derived.WalkKit
import Derived.ProofKit
import Derived.OpenShut
import Derived.Carry
namespace Go.Proofs.Ytoohnfcikapmlaa.rsaOpens
open Go.ChangeShapes Go.WideShapes Go.ChangeAt Go.RowKit Go.Deep Go.Proofs.Ytoohnfcikapmlaa.Base Go.Proofs.Ytoohnfcikapmlaa.Base2 Go.Proofs.Ytoohnfcikapmlaa.Base10 Go.Proofs.Ytoohnfcikapmlaa.Num Go.Proofs.Ytoohnfcikapmlaa.Num56 Go.Proofs.Ytoohnfcikapmlaa.Calls150 Go.Proofs.Ytoohnfcikapmlaa.Calls151 Go.Proofs.Ytoohnfcikapmlaa.Calls152 Go.Proofs.Ytoohnfcikapmlaa.Calls153 Go.Proofs.Ytoohnfcikapmlaa.Calls154 Go.Proofs.Ytoohnfcikapmlaa.Calls155
set_option linter.unusedVariables false

theorem own : ownKnob Try.prog.godebug = none := by kernel_rfl

theorem laidOut : laidOutB Try.prog = true := by kernel_rfl

theorem cells2 : Try.prog.cellsOf 2 = 1 := by kernel_rfl

set_option maxRecDepth 100000 in
theorem walkN (p q n x : Int) (c : Int) (h0 : c ≠ 0) (cM : ∀ w, Calls Try.prog 15 #[.int .i64 p, .int .i64 q, .int .i64 n] w fun e w' => e = .returned (.tuple #[.agg #[.int .i64 0, .int .i64 0, .int .i64 0], .int .i64 c]) ∧ Below w.heap.size w w') (w : World) :
    Calls Try.prog 6 #[.int .i64 p, .int .i64 q, .int .i64 n, .int .i64 x] w fun e w' => e = .returned (.bool true) ∧ Below w.heap.size w w' := by
  have h1 : (c != 0) = true := by simpa using h0
  have h2 : (c == 0) = false := by simpa using h0
  go_enter Try.func6, Try.ntmps6
  go_wp2_with (go_at_call 15; refine (cM _).mono ?_; rintro e w1 ⟨rfl, hB1⟩; obtain ⟨c0, c1, c2⟩ := key_cells w1 (.int .i64 0) (.int .i64 0) (.int .i64 0))
  go_ret
  exact ⟨rfl, hB1.alloc hB1.size _⟩

set_option maxRecDepth 100000 in
theorem walkF (P Q n d N : Nat) (x : Int) (he : (P : Int) * (Q : Int) = (N : Int)) (hN : N ≤ 1048576) (hx : ¬ (0 ≤ x ∧ x < (N : Int))) (cM : ∀ w, Calls Try.prog 15 #[.int .i64 (P : Int), .int .i64 (Q : Int), .int .i64 (n : Int)] w fun e w' => e = .returned (.tuple #[.agg #[.int .i64 (N : Int), .int .i64 (n : Int), .int .i64 (d : Int)], .int .i64 0]) ∧ Below w.heap.size w w') (w : World) :
    Calls Try.prog 6 #[.int .i64 (P : Int), .int .i64 (Q : Int), .int .i64 (n : Int), .int .i64 x] w fun e w' => e = .returned (.bool true) ∧ Below w.heap.size w w' := by
  have cL := fun w => Lock_bad (N : Int) (n : Int) (d : Int) x (fun h => hx h.2.2.2) w
  have hx2 : x < 0 ∨ (¬ x < 0 ∧ ¬ x < (N : Int)) := by omega
  clear he hN hx
  rcases hx2 with hx | ⟨hx, hx'⟩
  · go_enter Try.func6, Try.ntmps6
    go_wp2_with (first
      | (go_at_call 15; refine (cM _).mono ?_; rintro e w1 ⟨rfl, hB1⟩; have K := hid (BoxC.new w1 23 #[.int .i64 (N : Int), .int .i64 (n : Int), .int .i64 (d : Int)]); obtain ⟨c0, c1, c2⟩ := key_cells w1 (.int .i64 (N : Int)) (.int .i64 (n : Int)) (.int .i64 (d : Int)); have HB1 := hid (hB1.alloc hB1.size (.cells #[.int .i64 (N : Int), .int .i64 (n : Int), .int .i64 (d : Int)] 23)))
      | (go_at_call 8; refine (cL _).mono ?_; rintro e w2 ⟨rfl, hB2⟩; have K2 := hid (K.out.below hB2 (by simp)); have d0 := K2.out.cell 0; simp at d0))
    go_ret
    exact ⟨rfl, below_trans HB1.out hB2⟩
  · go_enter Try.func6, Try.ntmps6
    go_wp2_with (first
      | (go_at_call 15; refine (cM _).mono ?_; rintro e w1 ⟨rfl, hB1⟩; have K := hid (BoxC.new w1 23 #[.int .i64 (N : Int), .int .i64 (n : Int), .int .i64 (d : Int)]); obtain ⟨c0, c1, c2⟩ := key_cells w1 (.int .i64 (N : Int)) (.int .i64 (n : Int)) (.int .i64 (d : Int)); have HB1 := hid (hB1.alloc hB1.size (.cells #[.int .i64 (N : Int), .int .i64 (n : Int), .int .i64 (d : Int)] 23)))
      | (go_at_call 8; refine (cL _).mono ?_; rintro e w2 ⟨rfl, hB2⟩; have K2 := hid (K.out.below hB2 (by simp)); have d0 := K2.out.cell 0; simp at d0))
    go_ret
    exact ⟨rfl, below_trans HB1.out hB2⟩

set_option maxRecDepth 100000 in
set_option maxHeartbeats 4000000 in
theorem walkY (P Q n d N x y s : Nat) (he : (P : Int) * (Q : Int) = (N : Int)) (hN : N ≤ 1048576) (hx : x < N)
    (cM : ∀ w, Calls Try.prog 15 #[.int .i64 (P : Int), .int .i64 (Q : Int), .int .i64 (n : Int)] w fun e w' => e = .returned (.tuple #[.agg #[.int .i64 (N : Int), .int .i64 (n : Int), .int .i64 (d : Int)], .int .i64 0]) ∧ Below w.heap.size w w')
    (cL1 : ∀ w, Calls Try.prog 8 #[.agg #[.int .i64 (N : Int), .int .i64 (n : Int), .int .i64 (d : Int)], .int .i64 (x : Int)] w fun e w' => e = .returned (.tuple #[.int .i64 (y : Int), .int .i64 0]) ∧ Below w.heap.size w w')
    (cO1 : ∀ w, Calls Try.prog 11 #[.agg #[.int .i64 (N : Int), .int .i64 (n : Int), .int .i64 (d : Int)], .int .i64 (y : Int)] w fun e w' => e = .returned (.tuple #[.int .i64 (x : Int), .int .i64 0]) ∧ Below w.heap.size w w')
    (cP : ∀ w, Calls Try.prog 12 #[.int .i64 (P : Int), .int .i64 (Q : Int), .agg #[.int .i64 (N : Int), .int .i64 (n : Int), .int .i64 (d : Int)], .int .i64 (y : Int)] w fun e w' => e = .returned (.tuple #[.int .i64 (x : Int), .int .i64 0]) ∧ Below w.heap.size w w')
    (cO2 : ∀ w, Calls Try.prog 11 #[.agg #[.int .i64 (N : Int), .int .i64 (n : Int), .int .i64 (d : Int)], .int .i64 (x : Int)] w fun e w' => e = .returned (.tuple #[.int .i64 (s : Int), .int .i64 0]) ∧ Below w.heap.size w w')
    (cL2 : ∀ w, Calls Try.prog 8 #[.agg #[.int .i64 (N : Int), .int .i64 (n : Int), .int .i64 (d : Int)], .int .i64 (s : Int)] w fun e w' => e = .returned (.tuple #[.int .i64 (x : Int), .int .i64 0]) ∧ Below w.heap.size w w') (w : World) :
    Calls Try.prog 6 #[.int .i64 (P : Int), .int .i64 (Q : Int), .int .i64 (n : Int), .int .i64 (x : Int)] w fun e w' => e = .returned (.bool true) ∧ Below w.heap.size w w' := by
  have hx1 : ¬ (x : Int) < 0 := by omega
  have hx2 : (x : Int) < (N : Int) := by omega
  have hx3 : ¬ (N : Int) ≤ (x : Int) := by omega
  go_enter Try.func6, Try.ntmps6
  go_wp2_with (first
    | (go_at_call 15; refine (cM _).mono ?_; rintro e w1 ⟨rfl, hB1⟩; have K := hid (BoxC.new w1 23 #[.int .i64 (N : Int), .int .i64 (n : Int), .int .i64 (d : Int)]); obtain ⟨c0, c1, c2⟩ := key_cells w1 (.int .i64 (N : Int)) (.int .i64 (n : Int)) (.int .i64 (d : Int)); have HB1 := hid (hB1.alloc hB1.size (.cells #[.int .i64 (N : Int), .int .i64 (n : Int), .int .i64 (d : Int)] 23)); clear cM)
    | (go_at_call 8; refine (cL1 _).mono ?_; clear cL1; rintro e w2 ⟨rfl, hB2⟩; have K2 := hid (K.out.below hB2 (by simp)); have s2 := hB2.size; simp at s2; have HB2 := hid (below_trans HB1.out hB2); have d0 := K2.out.cell 0; have d1 := K2.out.cell 1; have d2 := K2.out.cell 2; simp at d0 d1 d2; clear hB2)
    | (go_at_call 11; refine (cO1 _).mono ?_; clear cO1; rintro e w3 ⟨rfl, hB3⟩; have K3 := hid (K2.out.below hB3 (by omega)); have s3 := hB3.size; have HB3 := hid (below_trans HB2.out hB3); have e0 := K3.out.cell 0; have e1 := K3.out.cell 1; have e2 := K3.out.cell 2; simp at e0 e1 e2; clear hB3)
    | (go_at_call 12; refine (cP _).mono ?_; clear cP; rintro e w4 ⟨rfl, hB4⟩; have K4 := hid (K3.out.below hB4 (by omega)); have s4 := hB4.size; have HB4 := hid (below_trans HB3.out hB4); have f0 := K4.out.cell 0; have f1 := K4.out.cell 1; have f2 := K4.out.cell 2; simp at f0 f1 f2; clear hB4)
    | (go_at_call 11; refine (cO2 _).mono ?_; clear cO2; rintro e w5 ⟨rfl, hB5⟩; have K5 := hid (K4.out.below hB5 (by omega)); have s5 := hB5.size; have HB5 := hid (below_trans HB4.out hB5); have g0 := K5.out.cell 0; have g1 := K5.out.cell 1; have g2 := K5.out.cell 2; simp at g0 g1 g2; clear hB5)
    | (go_at_call 8; refine (cL2 _).mono ?_; clear cL2; rintro e w6 ⟨rfl, hB6⟩; have K6 := hid (K5.out.below hB6 (by omega)); have HB6 := hid (below_trans HB5.out hB6); have k0 := K6.out.cell 0; have k1 := K6.out.cell 1; have k2 := K6.out.cell 2; simp at k0 k1 k2; clear hB6))
  go_ret
  exact ⟨by simp, HB6.out⟩

theorem walk (p q n x : Int) (w : World) :
    Calls Try.prog 6 #[.int .i64 p, .int .i64 q, .int .i64 n, .int .i64 x] w fun e w' => e = .returned (.bool true) ∧ Below w.heap.size w w' := by
  by_cases h0 : mkC p q n = 0
  · obtain ⟨P, Q, m, rfl, rfl, rfl, hP, hQ, hne, hPQ, h1, h2⟩ := mkC_zero h0
    have p2 := hP.1
    have q2 := hQ.1
    have he : (P : Int) * (Q : Int) = ((P * Q : Nat) : Int) := by simp
    by_cases hno : (P = 2 ∨ Q = 2) ∨ Nat.gcd m (lm P Q) ≠ 1
    · exact walkN _ _ _ x 5 (by omega) (fun w => Make_none P Q m hP hQ hne hPQ h1 h2 hno w) w
    · have hP3 : P ≠ 2 := fun e => hno (.inl (.inl e))
      have hQ3 : Q ≠ 2 := fun e => hno (.inl (.inr e))
      have hg : Nat.gcd m (lm P Q) = 1 := Decidable.byContradiction fun e => hno (.inr e)
      have hl := lm_le p2 q2
      obtain ⟨d, hd1, hd2, hd3⟩ := inv_ex h1 (lm_two (by omega) (by omega)) hg
      have cM := fun w => Make_key P Q m d hP hQ hne hPQ h1 h2 hP3 hQ3 hg hd2 hd3 w
      by_cases hx : 0 ≤ x ∧ x < ((P * Q : Nat) : Int)
      · obtain ⟨y, rfl⟩ : ∃ y : Nat, x = (y : Int) := ⟨x.toNat, by omega⟩
        have hxN : y < P * Q := by omega
        have o1 := rsa_opens hP hQ hne h1 hd1 hd3 y
        have o2 := rsa_opens hP hQ hne hd1 h1 (by rw [Nat.mul_comm]; exact hd3) y
        rw [Nat.mod_eq_of_lt hxN] at o1 o2
        have hpos : 0 < P * Q := by omega
        have l1 : y ^ m % (P * Q) < P * Q := Nat.mod_lt _ hpos
        have l2 : y ^ d % (P * Q) < P * Q := Nat.mod_lt _ hpos
        have cr : ∀ z : Nat, z < P * Q → Cr (z : Int) (m : Int) (d : Int) ((P * Q : Nat) : Int) := fun z hz => ⟨⟨by omega, by omega⟩, ⟨by omega, by omega⟩, ⟨by omega, by omega⟩, by omega, by omega⟩
        have cO1 := fun w => Open_yes (P * Q) m d (y ^ m % (P * Q)) (cr _ l1) w
        have cP := fun w => Parts_yes P Q m d (y ^ m % (P * Q)) hP hQ hne hPQ (cr _ l1) w
        have cL2 := fun w => Lock_yes (P * Q) m d (y ^ d % (P * Q)) (cr _ l2) w
        rw [o1] at cO1 cP
        rw [o2] at cL2
        exact walkY P Q m d (P * Q) y (y ^ m % (P * Q)) (y ^ d % (P * Q)) he hPQ hxN cM (fun w => Lock_yes (P * Q) m d y (cr _ hxN) w) cO1 cP (fun w => Open_yes (P * Q) m d y (cr _ hxN) w) cL2 w
      · exact walkF P Q m d (P * Q) x he hPQ hx cM w
  · exact walkN p q n x (mkC p q n) h0 (fun w => Make_bad p q n h0 w) w

set_option maxRecDepth 100000 in
theorem lifted (os : Os) (started : os.Started) (H : Type) (enc : TypeId × Value → H) :
    ReturnsInHanded {} Try.checked os 6 .any (Rows.rsaOpensSpec.pre6 enc Try.prog Try.f6 Rows.rsaOpensRow.domain false) (Rows.rsaOpensSpec.post enc Try.prog Try.f6 false true false false) := by
  refine returnsInHanded_of_change (C := Try.checked) own started (by kernel_rfl) Try.func6
    (ChangeSpec.witness6 (enc := enc) (C := Try.checked) false ⟨#[], #[.int .i64 0, .int .i64 0, .int .i64 0, .int .i64 0], []⟩ 8 (by kernel_rfl) (by kernel_rfl) (by kernel_rfl) (by kernel_rfl)) ?_
  intro W base args ds gs before hval0 hW hcnd _
  have hval : ∀ (j : Nat) t v, Try.f6.params[j]? = some t → args[j]? = some v → Value.okWide Try.prog W .any base t v := hval0
  have hW' := hW
  obtain ⟨p, q, hA0, hV, rfl, _, _⟩ := hW
  have hA : DataW.TrodAll enc Try.prog W 0 (fun _ => true) true Try.f6.params.toList args.toList ds p := hA0
  rw [Try.params6] at hA hval
  obtain ⟨v0, v1, v2, v3, d0, d1, d2, d3, p0, p1, p2, p3, rfl, rfl, rfl, h0, h1, h2, h3⟩ := trodAll_four hA
  obtain ⟨rfl, rfl⟩ := trodVars_none hV
  obtain ⟨a0, rfl, rfl, rfl, w0⟩ := open_int Try.underlying2 (hval 0 2 v0 rfl rfl) h0
  obtain ⟨a1, rfl, rfl, rfl, w1⟩ := open_int Try.underlying2 (hval 1 2 v1 rfl rfl) h1
  obtain ⟨a2, rfl, rfl, rfl, w2⟩ := open_int Try.underlying2 (hval 2 2 v2 rfl rfl) h2
  obtain ⟨a3, rfl, rfl, rfl, w3⟩ := open_int Try.underlying2 (hval 3 2 v3 rfl rfl) h3
  clear hA0 hval0
  simp only [List.append_nil] at hW'
  refine (walk a0 a1 a2 a3 W ).mono fun e W' ⟨he, hg⟩ => ?_
  subst he
  refine ⟨_, rfl, _, _, _, [], ([] : List MemPlace) ++ (([] : List MemPlace) ++ (([] : List MemPlace) ++ (([] : List MemPlace)))), [], hW', ?_, ?_, rfl, hg.frame _, fun h => by cases h⟩
  · exact trodAll_mk1 (shut_bool Try.underlying4 true)
  · exact trodAll_mk4 (shut_int Try.underlying2 w0) (shut_int Try.underlying2 w1) (shut_int Try.underlying2 w2) (shut_int Try.underlying2 w3)

theorem over : Rows.rsaOpensRow.holds Try.pinned (OpenSpec.ofChange Rows.rsaOpensSpec) :=
  OpenClaim.holds_of_wide 6 Try.f6 rfl rfl rfl rfl rfl rfl rfl ⟨rfl, rfl, rfl, rfl, rfl⟩ rfl rfl rfl rfl rfl (by kernel_rfl) Try.func6 (by kernel_rfl)
    (of_decide_eq_true (by kernel_rfl)) (by unfold Func.isWrapper; first | (rw [if_pos (by decide +kernel)]; kernel_rfl) | (rw [if_neg (by decide +kernel)]; exact ⟨rfl, rfl⟩))
    (fun os started H enc _ => lifted os started H enc)

/-- ████ THE STATEMENT ████ -/
theorem proved : Rows.RsaOpensSaid :=
  over

end Go.Proofs.Ytoohnfcikapmlaa.rsaOpens
