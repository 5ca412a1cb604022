/-
  What is wrong with a group, with exponents, with members, as the document says it.
-/
import Derived.Test.YtpflkihagebmlabCalls158
namespace Go.Proofs.Ytpflkihagebmlab.Calls159
set_option linter.unusedVariables false
open Go.ChangeShapes Go.WideShapes Go.ChangeAt Go.RowKit Go.Deep Go.Proofs.Ytpflkihagebmlab.Base Go.Proofs.Ytpflkihagebmlab.Base2 Go.Proofs.Ytpflkihagebmlab.Num Go.Proofs.Ytpflkihagebmlab.Num13 Go.Proofs.Ytpflkihagebmlab.Num16 Go.Proofs.Ytpflkihagebmlab.Num17 Go.Proofs.Ytpflkihagebmlab.Num34 Go.Proofs.Ytpflkihagebmlab.Base4 Go.Proofs.Ytpflkihagebmlab.Num56 Go.Proofs.Ytpflkihagebmlab.Calls157 Go.Proofs.Ytpflkihagebmlab.Calls158
open Go.Proofs.Ytpflkihagebmlab.Calls9 (prB prB_iff refIs_any)

set_option maxRecDepth 100000 in
set_option maxHeartbeats 4000000 in
theorem refCheck_range (P Q G H : Int) (h : ¬ Rg P Q G H) (w : World) :
    Calls Try.prog 29 #[.agg #[.int .i64 P, .int .i64 Q, .int .i64 G, .int .i64 H]] w fun e w' => e = .returned (.int .i64 2) ∧ Below w.heap.size w w' := by
  have K := hid (Gb.new w P Q G H)
  obtain ⟨c0, c1, c2, c3⟩ := K.out.cells
  have hh : P < 3 ∨ (¬ P < 3 ∧ (1048576 < P ∨ (¬ 1048576 < P ∧ (Q < 2 ∨ (¬ Q < 2 ∧ (P ≤ Q ∨ (¬ P ≤ Q ∧ (G < 2 ∨ (¬ G < 2 ∧ (P ≤ G ∨ (¬ P ≤ G ∧ (H < 2 ∨ (¬ H < 2 ∧ P ≤ H))))))))))))) := by
    have := h; unfold Rg at this; omega
  clear h
  rcases hh with n1 | ⟨n1, n2 | ⟨n2, n3 | ⟨n3, n4 | ⟨n4, n5 | ⟨n5, n6 | ⟨n6, n7 | ⟨n7, n8⟩⟩⟩⟩⟩⟩⟩
  all_goals
    go_enter Try.func29, Try.ntmps29
    go_wp2
    go_ret
    exact ⟨rfl, K.out.2⟩

set_option maxRecDepth 100000 in
set_option maxHeartbeats 2000000 in
theorem refCheck_in (P Q G H : Nat) (h : Rg (P : Int) (Q : Int) (G : Int) (H : Int)) (c : Int) (hc : c = gC (P : Int) (Q : Int) (G : Int) (H : Int)) (w : World) :
    Calls Try.prog 29 #[.agg #[.int .i64 (P : Int), .int .i64 (Q : Int), .int .i64 (G : Int), .int .i64 (H : Int)]] w fun e w' => e = .returned (.int .i64 c) ∧ Below w.heap.size w w' := by
  have K := hid (Gb.new w (P : Int) (Q : Int) (G : Int) (H : Int))
  obtain ⟨c0, c1, c2, c3⟩ := K.out.cells
  have hr := h
  obtain ⟨⟨r1, r2⟩, ⟨r3, r4⟩, ⟨r5, r6⟩, r7, r8⟩ := h
  have cP := fun w => refIs_any P (by omega) w
  have cQ := fun w => refIs_any Q (by omega) w
  have cG := fun w => refPow_nat G Q P (by omega) (by omega) (by omega) w
  have cH := fun w => refPow_nat H Q P (by omega) (by omega) (by omega) w
  have n1 : ¬ (P : Int) < 3 := by omega
  have n2 : ¬ 1048576 < (P : Int) := by omega
  have n3 : ¬ (Q : Int) < 2 := by omega
  have n4 : ¬ (P : Int) ≤ (Q : Int) := by omega
  have n5 : ¬ (G : Int) < 2 := by omega
  have n6 : ¬ (P : Int) ≤ (G : Int) := by omega
  have n7 : ¬ (H : Int) < 2 := by omega
  have n8 : ¬ (P : Int) ≤ (H : Int) := by omega
  have n9 : ¬ (Q : Int) = 0 := by omega
  have n10 : ¬ Q = 0 := by omega
  have hw : IntKind.i64.wrap ((P : Int) - 1) = (P : Int) - 1 := wrap_in _ (by omega) (by omega)
  have hm : ((P : Int) - 1).tmod (Q : Int) = (((P - 1) % Q : Nat) : Int) := by
    have e : (P : Int) - 1 = ((P - 1 : Nat) : Int) := by omega
    rw [e, ← Int.ofNat_tmod]
  have hg : gC (P : Int) (Q : Int) (G : Int) (H : Int) = if gB P Q G H = true then 0 else 3 := by
    unfold gC; rw [if_pos ((rgB_iff _ _ _ _).2 hr)]; simp
  rw [hg] at hc
  have hcb : c = 3 ∨ c = 0 ∧ gB P Q G H = true := by
    by_cases hb : gB P Q G H = true
    · rw [if_pos hb] at hc; exact .inr ⟨hc, hb⟩
    · rw [if_neg hb] at hc; exact .inl hc
  by_cases hD : (P - 1) % Q = 0
  · rw [hD] at hm
    have hm2 : (((P : Int) - 1).tmod (Q : Int) != 0) = false := by rw [hm]; rfl
    rw [Int.tmod_eq_emod_of_nonneg (by omega)] at hm
    have hm3 : (((P : Int) - 1) % (Q : Int) != 0) = false := by rw [hm]; rfl
    have hc2 : c = if (prB P && prB Q && !(((G ^ Q % P : Nat) : Int) != 1) && !(((H ^ Q % P : Nat) : Int) != 1)) = true then 0 else 3 := by
      have e : ∀ n : Nat, (!(((n : Nat) : Int) != 1)) = decide (n = 1) := fun n => by
        by_cases h : n = 1
        · subst h; rfl
        · rw [decide_eq_false h, Bool.not_eq_false', bne_iff_ne]; omega
      rw [e, e]; exact hc
    clear hc hg hD hr r1 r2 r3 r4 r5 r6 r7 r8 hm hcb
    generalize prB P = bp at *
    generalize prB Q = bq at *
    generalize G ^ Q % P = yg at *
    generalize H ^ Q % P = yh at *
    cases bp
    · obtain rfl : c = 3 := by simpa using hc2
      clear hc2
      go_enter Try.func29, Try.ntmps29
      go_wp2_with (go_at_call 42; refine (cP _).mono ?_; rintro e w' ⟨rfl, hw⟩; subst w')
      go_ret
      exact ⟨rfl, K.out.2⟩
    · cases bq
      · obtain rfl : c = 3 := by simpa using hc2
        clear hc2
        go_enter Try.func29, Try.ntmps29
        go_wp2_with (first
          | (go_at_call 42; refine (cP _).mono ?_; clear cP; rintro e w' ⟨rfl, hw⟩; subst w')
          | (go_at_call 42; refine (cQ _).mono ?_; clear cQ; rintro e w' ⟨rfl, hw⟩; subst w'))
        go_ret
        exact ⟨rfl, K.out.2⟩
      · cases hyg : ((yg : Int) != 1) with
        | true =>
          obtain rfl : c = 3 := by rw [hyg] at hc2; simpa using hc2
          clear hc2
          go_enter Try.func29, Try.ntmps29
          go_wp2_with (first
            | (go_at_call 42; refine (cP _).mono ?_; clear cP; rintro e w' ⟨rfl, hw⟩; subst w')
            | (go_at_call 42; refine (cQ _).mono ?_; clear cQ; rintro e w' ⟨rfl, hw⟩; subst w')
            | (go_at_call 43; refine (cG _).mono ?_; clear cG; rintro e w' ⟨rfl, hw⟩; subst w'))
          go_ret
          exact ⟨rfl, K.out.2⟩
        | false =>
          cases hyh : ((yh : Int) != 1) with
          | true =>
            obtain rfl : c = 3 := by rw [hyh] at hc2; simpa using hc2
            clear hc2
            go_enter Try.func29, Try.ntmps29
            go_wp2_with (first
              | (go_at_call 42; refine (cP _).mono ?_; clear cP; rintro e w' ⟨rfl, hw⟩; subst w')
              | (go_at_call 42; refine (cQ _).mono ?_; clear cQ; rintro e w' ⟨rfl, hw⟩; subst w')
              | (go_at_call 43; refine (cG _).mono ?_; clear cG; rintro e w' ⟨rfl, hw⟩; subst w')
              | (go_at_call 43; refine (cH _).mono ?_; clear cH; rintro e w' ⟨rfl, hw⟩; subst w'))
            go_ret
            exact ⟨rfl, K.out.2⟩
          | false =>
            obtain rfl : c = 0 := by rw [hyg, hyh] at hc2; simpa using hc2
            clear hc2
            go_enter Try.func29, Try.ntmps29
            go_wp2_with (first
              | (go_at_call 42; refine (cP _).mono ?_; clear cP; rintro e w' ⟨rfl, hw⟩; subst w')
              | (go_at_call 42; refine (cQ _).mono ?_; clear cQ; rintro e w' ⟨rfl, hw⟩; subst w')
              | (go_at_call 43; refine (cG _).mono ?_; clear cG; rintro e w' ⟨rfl, hw⟩; subst w')
              | (go_at_call 43; refine (cH _).mono ?_; clear cH; rintro e w' ⟨rfl, hw⟩; subst w'))
            go_ret
            exact ⟨rfl, K.out.2⟩
  · obtain rfl : c = 3 := by
      rcases hcb with h | ⟨_, hb⟩
      · exact h
      · exact absurd (gp_dvd (Grp.of hr hb).g) hD
    have hm2 : (((P : Int) - 1).tmod (Q : Int) != 0) = true := by
      rw [hm, bne_iff_ne]; omega
    rw [Int.tmod_eq_emod_of_nonneg (by omega)] at hm
    have hm3 : (((P : Int) - 1) % (Q : Int) != 0) = true := by
      rw [hm, bne_iff_ne]; omega
    clear hc hg hD hr r1 r2 r3 r4 r5 r6 r7 r8 hm hcb cG cH
    generalize prB P = bp at *
    generalize prB Q = bq at *
    cases bp
    · go_enter Try.func29, Try.ntmps29
      go_wp2_with (go_at_call 42; refine (cP _).mono ?_; clear cP; rintro e w' ⟨rfl, hw⟩; subst w')
      go_ret
      exact ⟨rfl, K.out.2⟩
    · cases bq
      all_goals
        go_enter Try.func29, Try.ntmps29
        go_wp2_with (first
          | (go_at_call 42; refine (cP _).mono ?_; clear cP; rintro e w' ⟨rfl, hw⟩; subst w')
          | (go_at_call 42; refine (cQ _).mono ?_; clear cQ; rintro e w' ⟨rfl, hw⟩; subst w'))
        go_ret
        exact ⟨rfl, K.out.2⟩

theorem refCheck_any (P Q G H : Int) (w : World) :
    Calls Try.prog 29 #[.agg #[.int .i64 P, .int .i64 Q, .int .i64 G, .int .i64 H]] w fun e w' => e = .returned (.int .i64 (gC P Q G H)) ∧ Below w.heap.size w w' := by
  by_cases h : Rg P Q G H
  · obtain ⟨p, q, g, k, rfl, rfl, rfl, rfl⟩ := h.nat
    exact refCheck_in p q g k h _ rfl w
  · have e : gC P Q G H = 2 := by unfold gC; rw [if_neg (fun e => h ((rgB_iff _ _ _ _).1 e))]
    rw [e]
    exact refCheck_range P Q G H h w

end Go.Proofs.Ytpflkihagebmlab.Calls159
