/-
  What is wrong with a group, with exponents, with members, as the document says it.
-/
import Derived.Test.YtpflkihagebmlaaCalls158
namespace Go.Proofs.Ytpflkihagebmlaa.Calls159
set_option linter.unusedVariables false
open Go.ChangeShapes Go.WideShapes Go.ChangeAt Go.RowKit Go.Deep Go.Proofs.Ytpflkihagebmlaa.Base Go.Proofs.Ytpflkihagebmlaa.Base2 Go.Proofs.Ytpflkihagebmlaa.Num Go.Proofs.Ytpflkihagebmlaa.Num13 Go.Proofs.Ytpflkihagebmlaa.Num16 Go.Proofs.Ytpflkihagebmlaa.Num17 Go.Proofs.Ytpflkihagebmlaa.Num34 Go.Proofs.Ytpflkihagebmlaa.Base4 Go.Proofs.Ytpflkihagebmlaa.Num56 Go.Proofs.Ytpflkihagebmlaa.Calls157 Go.Proofs.Ytpflkihagebmlaa.Calls158
open Go.Proofs.Ytpflkihagebmlaa.Calls9 (prB prB_iff refIs_any)

set_option maxRecDepth 100000 in
set_option maxHeartbeats 4000000 in
theorem refCheck_range (P Q G H : Int) (h : ¬ Rg P Q G H) (w : World) :
    Calls Try.prog 23 #[.agg #[.int .i64 P, .int .i64 Q, .int .i64 G, .int .i64 H]] w fun e w' => e = .returned (.int .i64 2) ∧ Below w.heap.size w w' := by
  have K := hid (Gb.new w P Q G H)
  obtain ⟨c0, c1, c2, c3⟩ := K.out.cells
  have hh : P < 3 ∨ (¬ P < 3 ∧ (1048576 < P ∨ (¬ 1048576 < P ∧ (Q < 2 ∨ (¬ Q < 2 ∧ (P ≤ Q ∨ (¬ P ≤ Q ∧ (G < 2 ∨ (¬ G < 2 ∧ (P ≤ G ∨ (¬ P ≤ G ∧ (H < 2 ∨ (¬ H < 2 ∧ P ≤ H))))))))))))) := by
    have := h; unfold Rg at this; omega
  clear h
  rcases hh with n1 | ⟨n1, n2 | ⟨n2, n3 | ⟨n3, n4 | ⟨n4, n5 | ⟨n5, n6 | ⟨n6, n7 | ⟨n7, n8⟩⟩⟩⟩⟩⟩⟩
  all_goals
    go_enter Try.func23, Try.ntmps23
    go_wp2
    go_ret
    exact ⟨rfl, K.out.2⟩

set_option maxRecDepth 100000 in
set_option maxHeartbeats 2000000 in
theorem refCheck_in (P Q G H : Nat) (h : Rg (P : Int) (Q : Int) (G : Int) (H : Int)) (c : Int) (hc : c = gC (P : Int) (Q : Int) (G : Int) (H : Int)) (w : World) :
    Calls Try.prog 23 #[.agg #[.int .i64 (P : Int), .int .i64 (Q : Int), .int .i64 (G : Int), .int .i64 (H : Int)]] w fun e w' => e = .returned (.int .i64 c) ∧ Below w.heap.size w w' := by
  have K := hid (Gb.new w (P : Int) (Q : Int) (G : Int) (H : Int))
  obtain ⟨c0, c1, c2, c3⟩ := K.out.cells
  have hr := h
  obtain ⟨⟨r1, r2⟩, ⟨r3, r4⟩, ⟨r5, r6⟩, r7, r8⟩ := h
  have cP := fun w => refIs_any P (by omega) w
  have cQ := fun w => refIs_any Q (by omega) w
  have cG := fun w => refPow_nat G Q P (by omega) (by omega) (by omega) w
  have cH := fun w => refPow_nat H Q P (by omega) (by omega) (by omega) w
  have n1 : ¬ (P : Int) < 3 := by omega
  have n2 : ¬ 1048576 < (P : Int) := by omega
  have n3 : ¬ (Q : Int) < 2 := by omega
  have n4 : ¬ (P : Int) ≤ (Q : Int) := by omega
  have n5 : ¬ (G : Int) < 2 := by omega
  have n6 : ¬ (P : Int) ≤ (G : Int) := by omega
  have n7 : ¬ (H : Int) < 2 := by omega
  have n8 : ¬ (P : Int) ≤ (H : Int) := by omega
  have n9 : ¬ (Q : Int) = 0 := by omega
  have n10 : ¬ Q = 0 := by omega
  have hw : IntKind.i64.wrap ((P : Int) - 1) = (P : Int) - 1 := wrap_in _ (by omega) (by omega)
  have hm : ((P : Int) - 1).tmod (Q : Int) = (((P - 1) % Q : Nat) : Int) := by
    have e : (P : Int) - 1 = ((P - 1 : Nat) : Int) := by omega
    rw [e, ← Int.ofNat_tmod]
  have hg : gC (P : Int) (Q : Int) (G : Int) (H : Int) = if gB P Q G H = true then 0 else 3 := by
    unfold gC; rw [if_pos ((rgB_iff _ _ _ _).2 hr)]; simp
  rw [hg] at hc
  have hcb : c = 3 ∨ c = 0 ∧ gB P Q G H = true := by
    by_cases hb : gB P Q G H = true
    · rw [if_pos hb] at hc; exact .inr ⟨hc, hb⟩
    · rw [if_neg hb] at hc; exact .inl hc
  by_cases hD : (P - 1) % Q = 0
  · rw [hD] at hm
    have hm2 : (((P : Int) - 1).tmod (Q : Int) != 0) = false := by rw [hm]; rfl
    rw [Int.tmod_eq_emod_of_nonneg (by omega)] at hm
    have hm3 : (((P : Int) - 1) % (Q : Int) != 0) = false := by rw [hm]; rfl
    have hc2 : c = if (prB P && prB Q && !(((G ^ Q % P : Nat) : Int) != 1) && !(((H ^ Q % P : Nat) : Int) != 1)) = true then 0 else 3 := by
      have e : ∀ n : Nat, (!(((n : Nat) : Int) != 1)) = decide (n = 1) := fun n => by
        by_cases h : n = 1
        · subst h; rfl
        · rw [decide_eq_false h, Bool.not_eq_false', bne_iff_ne]; omega
      rw [e, e]; exact hc
    clear hc hg hD hr r1 r2 r3 r4 r5 r6 r7 r8 hm hcb
    generalize prB P = bp at *
    generalize prB Q = bq at *
    generalize G ^ Q % P = yg at *
    generalize H ^ Q % P = yh at *
    cases bp
    · obtain rfl : c = 3 := by simpa using hc2
      clear hc2
      go_enter Try.func23, Try.ntmps23
      go_wp2_with (go_at_call 36; refine (cP _).mono ?_; rintro e w' ⟨rfl, hw⟩; subst w')
      go_ret
      exact ⟨rfl, K.out.2⟩
    · cases bq
      · obtain rfl : c = 3 := by simpa using hc2
        clear hc2
        go_enter Try.func23, Try.ntmps23
        go_wp2_with (first
          | (go_at_call 36; refine (cP _).mono ?_; clear cP; rintro e w' ⟨rfl, hw⟩; subst w')
          | (go_at_call 36; refine (cQ _).mono ?_; clear cQ; rintro e w' ⟨rfl, hw⟩; subst w'))
        go_ret
        exact ⟨rfl, K.out.2⟩
      · cases hyg : ((yg : Int) != 1) with
        | true =>
          obtain rfl : c = 3 := by rw [hyg] at hc2; simpa using hc2
          clear hc2
          go_enter Try.func23, Try.ntmps23
          go_wp2_with (first
            | (go_at_call 36; refine (cP _).mono ?_; clear cP; rintro e w' ⟨rfl, hw⟩; subst w')
            | (go_at_call 36; refine (cQ _).mono ?_; clear cQ; rintro e w' ⟨rfl, hw⟩; subst w')
            | (go_at_call 11; refine (cG _).mono ?_; clear cG; rintro e w' ⟨rfl, hw⟩; subst w'))
          go_ret
          exact ⟨rfl, K.out.2⟩
        | false =>
          cases hyh : ((yh : Int) != 1) with
          | true =>
            obtain rfl : c = 3 := by rw [hyh] at hc2; simpa using hc2
            clear hc2
            go_enter Try.func23, Try.ntmps23
            go_wp2_with (first
              | (go_at_call 36; refine (cP _).mono ?_; clear cP; rintro e w' ⟨rfl, hw⟩; subst w')
              | (go_at_call 36; refine (cQ _).mono ?_; clear cQ; rintro e w' ⟨rfl, hw⟩; subst w')
              | (go_at_call 11; refine (cG _).mono ?_; clear cG; rintro e w' ⟨rfl, hw⟩; subst w')
              | (go_at_call 11; refine (cH _).mono ?_; clear cH; rintro e w' ⟨rfl, hw⟩; subst w'))
            go_ret
            exact ⟨rfl, K.out.2⟩
          | false =>
            obtain rfl : c = 0 := by rw [hyg, hyh] at hc2; simpa using hc2
            clear hc2
            go_enter Try.func23, Try.ntmps23
            go_wp2_with (first
              | (go_at_call 36; refine (cP _).mono ?_; clear cP; rintro e w' ⟨rfl, hw⟩; subst w')
              | (go_at_call 36; refine (cQ _).mono ?_; clear cQ; rintro e w' ⟨rfl, hw⟩; subst w')
              | (go_at_call 11; refine (cG _).mono ?_; clear cG; rintro e w' ⟨rfl, hw⟩; subst w')
              | (go_at_call 11; refine (cH _).mono ?_; clear cH; rintro e w' ⟨rfl, hw⟩; subst w'))
            go_ret
            exact ⟨rfl, K.out.2⟩
  · obtain rfl : c = 3 := by
      rcases hcb with h | ⟨_, hb⟩
      · exact h
      · exact absurd (gp_dvd (Grp.of hr hb).g) hD
    have hm2 : (((P : Int) - 1).tmod (Q : Int) != 0) = true := by
      rw [hm, bne_iff_ne]; omega
    rw [Int.tmod_eq_emod_of_nonneg (by omega)] at hm
    have hm3 : (((P : Int) - 1) % (Q : Int) != 0) = true := by
      rw [hm, bne_iff_ne]; omega
    clear hc hg hD hr r1 r2 r3 r4 r5 r6 r7 r8 hm hcb cG cH
    generalize prB P = bp at *
    generalize prB Q = bq at *
    cases bp
    · go_enter Try.func23, Try.ntmps23
      go_wp2_with (go_at_call 36; refine (cP _).mono ?_; clear cP; rintro e w' ⟨rfl, hw⟩; subst w')
      go_ret
      exact ⟨rfl, K.out.2⟩
    · cases bq
      all_goals
        go_enter Try.func23, Try.ntmps23
        go_wp2_with (first
          | (go_at_call 36; refine (cP _).mono ?_; clear cP; rintro e w' ⟨rfl, hw⟩; subst w')
          | (go_at_call 36; refine (cQ _).mono ?_; clear cQ; rintro e w' ⟨rfl, hw⟩; subst w'))
        go_ret
        exact ⟨rfl, K.out.2⟩

theorem refCheck_any (P Q G H : Int) (w : World) :
    Calls Try.prog 23 #[.agg #[.int .i64 P, .int .i64 Q, .int .i64 G, .int .i64 H]] w fun e w' => e = .returned (.int .i64 (gC P Q G H)) ∧ Below w.heap.size w w' := by
  by_cases h : Rg P Q G H
  · obtain ⟨p, q, g, k, rfl, rfl, rfl, rfl⟩ := h.nat
    exact refCheck_in p q g k h _ rfl w
  · have e : gC P Q G H = 2 := by unfold gC; rw [if_neg (fun e => h ((rgB_iff _ _ _ _).1 e))]
    rw [e]
    exact refCheck_range P Q G H h w

set_option maxRecDepth 100000 in
theorem refMember_any (P Q : Nat) (G H x : Int) (h1 : 1 ≤ P) (hP : P ≤ 1048576) (hQ : Q ≤ 1048576) (w : World) :
    Calls Try.prog 17 #[.agg #[.int .i64 (P : Int), .int .i64 (Q : Int), .int .i64 G, .int .i64 H], .int .i64 x] w fun e w' => e = .returned (.bool (!noM (P : Int) (Q : Int) x)) ∧ Below w.heap.size w w' := by
  have K := hid (Gb.new w (P : Int) (Q : Int) G H)
  obtain ⟨c0, c1, c2, c3⟩ := K.out.cells
  by_cases h : x < 1
  · have e : Hid (noM (P : Int) (Q : Int) x = true) := by show _ = _; unfold noM; rw [decide_eq_true h]; simp
    have h' : ¬ 1 ≤ x := by omega
    go_enter Try.func17, Try.ntmps17
    go_wp2
    go_ret
    exact ⟨ret_bool (by rw [e.out]; rfl), K.out.2⟩
  · have h' : 1 ≤ x := by omega
    by_cases h2 : (P : Int) ≤ x
    · have e : Hid (noM (P : Int) (Q : Int) x = true) := by show _ = _; unfold noM; rw [decide_eq_true h2]; simp
      have h3 : ¬ x < (P : Int) := by omega
      go_enter Try.func17, Try.ntmps17
      go_wp2
      go_ret
      exact ⟨ret_bool (by rw [e.out]; rfl), K.out.2⟩
    · have h3 : x < (P : Int) := by omega
      obtain ⟨n, rfl⟩ : ∃ n : Nat, x = (n : Int) := ⟨x.toNat, by omega⟩
      have hp' : decide ((P : Int) ≤ (n : Int)) = false := by simpa using h2
      have h4 : decide ((n : Int) < 1) = false := by simpa using h
      have e : noM (P : Int) (Q : Int) (n : Int) = !decide (n ^ Q % P = 1) := by unfold noM; rw [h4, hp']; simp
      have e2 : Hid ((!noM (P : Int) (Q : Int) (n : Int)) = (((n ^ Q % P : Nat) : Int) == 1)) := by
        show _ = _
        rw [e]
        by_cases h3 : n ^ Q % P = 1
        · rw [decide_eq_true h3, h3]; rfl
        · rw [decide_eq_false h3]
          rw [show (((n ^ Q % P : Nat) : Int) == 1) = false from beq_eq_false_iff_ne.2 (by omega)]; rfl
      have cR := fun w => refPow_nat n Q P h1 hP (by omega) w
      clear e h1 hP hQ hp' h4
      generalize n ^ Q % P = y at *
      go_enter Try.func17, Try.ntmps17
      go_wp2_with (go_at_call 11; refine (cR _).mono ?_; rintro e w' ⟨rfl, hw⟩; subst w')
      go_ret
      exact ⟨ret_bool e2.out.symm, K.out.2⟩

set_option maxRecDepth 100000 in
theorem refAsk_bad (P Q G H : Int) (lo mo : Option Addr) (n1 n2 lc mc : Nat) (h0 : gC P Q G H ≠ 0) (w : World) :
    Calls Try.prog 10 #[.agg #[.int .i64 P, .int .i64 Q, .int .i64 G, .int .i64 H], .slice lo n1 lc, .slice mo n2 mc] w fun e w' => e = .returned (.int .i64 (gC P Q G H)) ∧ Below w.heap.size w w' := by
  have cC := fun w => refCheck_any P Q G H w
  have K := hid (Gb.new w P Q G H)
  obtain ⟨c0, c1, c2, c3⟩ := K.out.cells
  generalize gC P Q G H = c at *
  have h1 : (c != 0) = true := by simpa using h0
  go_enter Try.func10, Try.ntmps10
  go_wp2_with (go_at_call 23; refine (cC _).mono ?_; clear cC; rintro e w1 ⟨rfl, hB1⟩; have K1 := hid (K.out.below hB1); obtain ⟨d0, d1, d2, d3⟩ := K1.out.cells; clear hB1)
  go_ret
  exact ⟨rfl, K1.out.2⟩

set_option maxRecDepth 100000 in
theorem refAsk_exp (P Q G H : Nat) (hG : Grp P Q G H) (lo mo : Option Addr) (lc mc n2 : Nat) (le : List Int) (hl : le.length ≤ 1048576) (hx : le.any (exB (Q : Int)) = true) (w : World) (lrow : IRow w lo le) :
    Calls Try.prog 10 #[.agg #[.int .i64 (P : Int), .int .i64 (Q : Int), .int .i64 (G : Int), .int .i64 (H : Int)], .slice lo le.length lc, .slice mo n2 mc] w fun e w' => e = .returned (.int .i64 2) ∧ Below w.heap.size w w' := by
  have cC := fun w => refCheck_any (P : Int) (Q : Int) (G : Int) (H : Int) w
  rw [hG.code] at cC
  have K := hid (Gb.new w (P : Int) (Q : Int) (G : Int) (H : Int))
  obtain ⟨c0, c1, c2, c3⟩ := K.out.cells
  obtain ⟨N, hN⟩ : ∃ N, N = le.length := ⟨_, rfl⟩
  have HN : Hid (N = le.length) := hN
  have HX := hid hx
  rw [← hN] at hl ⊢
  clear hN hG hx
  go_enter Try.func10, Try.ntmps10
  go_wp2_with (go_at_call 23; refine (cC _).mono ?_; clear cC; rintro e w1 ⟨rfl, hB1⟩; have K1 := hid (K.out.below hB1); obtain ⟨d0, d1, d2, d3⟩ := K1.out.cells; clear hB1)
  go_loopw [19] (fun i wr => ∃ k : Nat, i = .int .i64 (k : Int) ∧ k ≤ N ∧ Hid (∀ j, j < k → exB (Q : Int) (co le j) = false) ∧ Hid (Gb w wr (P : Int) (Q : Int) (G : Int) (H : Int))) (fun i wr => ((N : Int) - intOf i).toNat)
  case atStart => exact ⟨0, rfl, by omega, fun j hj => by omega, K1⟩
  case round =>
    obtain ⟨k, rfl, hk, hnot, KR⟩ := hrel
    obtain ⟨e0, e1, e2, e3⟩ := KR.out.cells
    by_cases hgo : k < N
    · have hgo' : (k : Int) < (N : Int) := by omega
      have hkl : Hid (k < le.length) := by have := HN.out; show k < le.length; omega
      rcases lo with _ | ad
      · exact (irow_none lrow hkl.out).elim
      · have c := (ib lrow KR.out.2).2 ad rfl k hkl.out
        obtain ⟨x, hxe⟩ : ∃ x, co le k = x := ⟨_, rfl⟩
        rw [hxe] at c
        have HE := hid hxe
        clear hxe
        by_cases hx0 : x < 0
        · go_wp2
          go_ret
          exact ⟨rfl, KR.out.2⟩
        · have hx0' : decide (x < 0) = false := by simpa using hx0
          by_cases hxQ : (Q : Int) ≤ x
          · go_wp2
            go_ret
            exact ⟨rfl, KR.out.2⟩
          · have hn : Hid (∀ j, j < k + 1 → exB (Q : Int) (co le j) = false) := fun j hj => by
              by_cases e : j = k
              · subst e; rw [HE.out, exB_iff]; omega
              · exact hnot.out j (by omega)
            go_wp2
            go_roundw
            case rel => exact ⟨k + 1, by simp, by omega, hn, KR⟩
            case measure => exact measK hgo
    · exfalso
      obtain ⟨x, h1, h2⟩ := List.any_eq_true.1 HX.out
      obtain ⟨j, hj, e⟩ := List.getElem_of_mem h1
      have := hnot.out j (by have := HN.out; omega)
      have e2 : co le j = x := by simp [co, List.getD, hj, e]
      rw [e2, h2] at this
      cases this

set_option maxRecDepth 100000 in
set_option maxHeartbeats 1000000 in
theorem refAsk_mem (P Q G H : Nat) (hG : Grp P Q G H) (lo mo : Option Addr) (lc mc : Nat) (le lm : List Int) (hl : le.length ≤ 1048576) (hm : lm.length ≤ 1048576) (hx : le.any (exB (Q : Int)) = false) (c : Int) (hc : c = if lm.any (noM (P : Int) (Q : Int)) = true then 4 else 0) (w : World) (lrow : IRow w lo le) (mrow : IRow w mo lm) :
    Calls Try.prog 10 #[.agg #[.int .i64 (P : Int), .int .i64 (Q : Int), .int .i64 (G : Int), .int .i64 (H : Int)], .slice lo le.length lc, .slice mo lm.length mc] w fun e w' => e = .returned (.int .i64 c) ∧ Below w.heap.size w w' := by
  have cC := fun w => refCheck_any (P : Int) (Q : Int) (G : Int) (H : Int) w
  rw [hG.code] at cC
  have K := hid (Gb.new w (P : Int) (Q : Int) (G : Int) (H : Int))
  obtain ⟨c0, c1, c2, c3⟩ := K.out.cells
  obtain ⟨N, hN⟩ : ∃ N, N = le.length := ⟨_, rfl⟩
  have HN : Hid (N = le.length) := hN
  obtain ⟨M, hM⟩ : ∃ M, M = lm.length := ⟨_, rfl⟩
  have HM : Hid (M = lm.length) := hM
  have HX : Hid (∀ k, k < N → 0 ≤ co le k ∧ co le k < (Q : Int)) := fun k hk => by
    rw [← exB_iff]
    cases e : exB (Q : Int) (co le k) with
    | false => rfl
    | true =>
      have := List.any_eq_true.2 ⟨co le k, co_mem (by rw [← hN]; exact hk), e⟩
      rw [hx] at this; cases this
  have H4 : Hid ((∃ k, k < M ∧ noM (P : Int) (Q : Int) (co lm k) = true) → c = 4) := fun ⟨k, hk, e⟩ => by
    rw [hc, if_pos (List.any_eq_true.2 ⟨co lm k, co_mem (by rw [← hM]; exact hk), e⟩)]
  have H0 : Hid ((∀ k, k < M → noM (P : Int) (Q : Int) (co lm k) = false) → c = 0) := fun hall => by
    rw [hc, if_neg]
    intro h
    obtain ⟨x, h1, h2⟩ := List.any_eq_true.1 h
    obtain ⟨j, hj, e⟩ := List.getElem_of_mem h1
    have := hall j (by omega)
    have e2 : co lm j = x := by simp [co, List.getD, hj, e]
    rw [e2, h2] at this
    cases this
  have p3 := hG.p3
  have pb := hG.big
  have ql := hG.qlt
  have cM := fun x w => refMember_any P Q (G : Int) (H : Int) x (by omega) (by omega) (by omega) w
  rw [← hN] at hl ⊢
  rw [← hM] at hm ⊢
  clear hN hM hG hx hc p3 pb ql
  go_enter Try.func10, Try.ntmps10
  go_wp2_with (go_at_call 23; refine (cC _).mono ?_; clear cC; rintro e w1 ⟨rfl, hB1⟩; have K1 := hid (K.out.below hB1); obtain ⟨d0, d1, d2, d3⟩ := K1.out.cells; clear hB1)
  go_loopw [19] (fun i wr => ∃ k : Nat, i = .int .i64 (k : Int) ∧ k ≤ N ∧ Hid (Gb w wr (P : Int) (Q : Int) (G : Int) (H : Int))) (fun i wr => ((N : Int) - intOf i).toNat)
  case atStart => exact ⟨0, rfl, by omega, K1⟩
  case round =>
    obtain ⟨k, rfl, hk, KR⟩ := hrel
    obtain ⟨e0, e1, e2, e3⟩ := KR.out.cells
    by_cases hgo : k < N
    · have hgo' : (k : Int) < (N : Int) := by omega
      have hkl : Hid (k < le.length) := by have := HN.out; show k < le.length; omega
      rcases lo with _ | ad
      · exact (irow_none lrow hkl.out).elim
      · have c := (ib lrow KR.out.2).2 ad rfl k hkl.out
        obtain ⟨hx1, hx2⟩ := HX.out k hgo
        generalize co le k = x at *
        have hx1' : ¬ x < 0 := by omega
        have hx2' : ¬ (Q : Int) ≤ x := by omega
        go_wp2
        go_roundw
        case rel => exact ⟨k + 1, by simp, by omega, KR⟩
        case measure => exact measK hgo
    · have hgo' : ¬ (k : Int) < (N : Int) := by omega
      go_wp2
      go_loopw [34] (fun i wr => ∃ k : Nat, i = .int .i64 (k : Int) ∧ k ≤ M ∧ Hid (∀ j, j < k → noM (P : Int) (Q : Int) (co lm j) = false) ∧ Hid (Gb w wr (P : Int) (Q : Int) (G : Int) (H : Int))) (fun i wr => ((M : Int) - intOf i).toNat)
      case atStart => exact ⟨0, rfl, by omega, fun j hj => by omega, KR⟩
      case round =>
        obtain ⟨k, rfl, hk, hnot, KS⟩ := hrel
        obtain ⟨f0, f1, f2, f3⟩ := KS.out.cells
        by_cases hgo : k < M
        · have hgo' : (k : Int) < (M : Int) := by omega
          have hkl : Hid (k < lm.length) := by have := HM.out; show k < lm.length; omega
          rcases mo with _ | ad
          · exact (irow_none mrow hkl.out).elim
          · have c := (ib mrow KS.out.2).2 ad rfl k hkl.out
            obtain ⟨x, hxe⟩ : ∃ x, co lm k = x := ⟨_, rfl⟩
            rw [hxe] at c
            have HE := hid hxe
            clear hxe
            have cX := cM x
            cases hb : noM (P : Int) (Q : Int) x with
            | true =>
              have hc4 := hid (H4.out ⟨k, hgo, by rw [HE.out]; exact hb⟩)
              rw [hb] at cX
              clear hb
              go_wp2_with (go_at_call 17; refine (cX _).mono ?_; rintro e w2 ⟨rfl, hB2⟩; have K2 := hid (KS.out.below hB2); clear hB2)
              go_ret
              exact ⟨ret_int (by rw [hc4.out]), K2.out.2⟩
            | false =>
              have hn : Hid (∀ j, j < k + 1 → noM (P : Int) (Q : Int) (co lm j) = false) := fun j hj => by
                by_cases e : j = k
                · subst e; rw [HE.out]; exact hb
                · exact hnot.out j (by omega)
              rw [hb] at cX
              clear hb
              go_wp2_with (go_at_call 17; refine (cX _).mono ?_; rintro e w2 ⟨rfl, hB2⟩; have K2 := hid (KS.out.below hB2); clear hB2)
              go_roundw
              case rel => exact ⟨k + 1, by simp, by omega, hn, K2⟩
              case measure => exact measK hgo
        · have hgo' : ¬ (k : Int) < (M : Int) := by omega
          have hc0 := hid (H0.out (fun j hj => hnot.out j (by omega)))
          go_wp2
          go_ret
          exact ⟨ret_int (by rw [hc0.out]), KS.out.2⟩

theorem refAsk_any (P Q G H : Int) (lo mo : Option Addr) (lc mc : Nat) (le lm : List Int) (hl : le.length ≤ 1048576) (hm : lm.length ≤ 1048576) (w : World) (lrow : IRow w lo le) (mrow : IRow w mo lm) :
    Calls Try.prog 10 #[.agg #[.int .i64 P, .int .i64 Q, .int .i64 G, .int .i64 H], .slice lo le.length lc, .slice mo lm.length mc] w fun e w' => e = .returned (.int .i64 (aC P Q G H le lm)) ∧ Below w.heap.size w w' := by
  by_cases h0 : gC P Q G H = 0
  · obtain ⟨p, q, g, k, rfl, rfl, rfl, rfl, hG⟩ := gC_zero h0
    unfold aC
    rw [if_pos h0]
    by_cases hx : le.any (exB (q : Int)) = true
    · rw [if_pos hx]
      exact refAsk_exp p q g k hG lo mo lc mc _ le hl hx w lrow
    · rw [if_neg hx]
      exact refAsk_mem p q g k hG lo mo lc mc le lm hl hm (by simpa using hx) _ rfl w lrow mrow
  · unfold aC
    rw [if_neg h0]
    exact refAsk_bad P Q G H lo mo _ _ lc mc h0 w

end Go.Proofs.Ytpflkihagebmlaa.Calls159
