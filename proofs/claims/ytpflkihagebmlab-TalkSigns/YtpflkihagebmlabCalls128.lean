/-
  The sum of a text: package hash's Sum, the document's.
-/
import Derived.Test.YtpflkihagebmlabCalls125
import Derived.Test.YtpflkihagebmlabCalls127
namespace Go.Proofs.Ytpflkihagebmlab.Calls128
set_option linter.unusedVariables false
open Go.ChangeShapes Go.WideShapes Go.ChangeAt Go.RowKit Go.Deep Go.Proofs.Ytpflkihagebmlab.Base Go.Proofs.Ytpflkihagebmlab.Base2 Go.Proofs.Ytpflkihagebmlab.Base7 Go.Proofs.Ytpflkihagebmlab.Base8 Go.Proofs.Ytpflkihagebmlab.Num55 Go.Proofs.Ytpflkihagebmlab.Calls125 Go.Proofs.Ytpflkihagebmlab.Calls126 Go.Proofs.Ytpflkihagebmlab.Calls127

theorem run_take {P : List Nat} {k : Nat} (h : k < P.length) : run 0 (P.take (k + 1)) = stp (run 0 (P.take k)) (yb P k) := by
  rw [ytake_succ h, run_snoc]

theorem run_lt32 (P : List Nat) (k : Nat) : run 0 (P.take k) < 65536 := run_lt (by decide) _

theorem sum_lt (l : List Nat) : sum l < 65536 := run_lt (by decide) _

set_option maxRecDepth 100000 in
theorem Sum_large (o : Option Addr) (n c : Nat) (hn : 4096 < n) (w : World) :
    Calls Try.prog 36 #[.slice o n c] w fun e w' => e = .returned (.tuple #[.int .u32 0, .int .i64 1]) ∧ w' = w := by
  have h1 : (4096 : Int) < (n : Int) := by omega
  go_enter Try.func36, Try.ntmps36
  go_wp2
  go_ret2
  exact ⟨rfl, rfl⟩

set_option maxRecDepth 100000 in
set_option maxHeartbeats 1000000 in
theorem Sum_any (o : Option Addr) (c : Nat) (l : List Nat) (hl : l.length ≤ 4096) (hb : Byt l) (w : World) (r : YRow w o l) :
    Calls Try.prog 36 #[.slice o l.length c] w fun e w' => e = .returned (.tuple #[.int .u32 ((sum l : Nat) : Int), .int .i64 0]) ∧ Below w.heap.size w w' := by
  have cC := counted_any o c l hl w r
  have hsum : sum l = run 0 (pad l) := rfl
  have hpl := pad_length l
  have hpb := hid (pad_byt hb)
  rw [hsum]
  obtain ⟨P, hP⟩ : ∃ P, P = pad l := ⟨_, rfl⟩
  rw [← hP] at cC hpl hpb ⊢
  obtain ⟨N, hN⟩ : ∃ N, N = P.length := ⟨_, rfl⟩
  have HN := hid hN
  unfold RetY at cC
  rw [← hN] at hpl cC
  obtain ⟨n, hn⟩ : ∃ n, n = l.length := ⟨_, rfl⟩
  rw [← hn] at cC hl hpl ⊢
  have hN2 : N ≤ 4100 := by omega
  have h1 : ¬ (4096 : Int) < (n : Int) := by omega
  clear hn hN hpl hP hsum r hb
  go_enter Try.func36, Try.ntmps36
  go_wp2_with (go_at_call 52; refine cC.mono ?_; rintro e W ⟨⟨bo, cb, rfl, hcb, hr⟩, hB⟩; have HR := hid hr; have HB := hid hB; clear hr hB)
  clear cC
  go_loop [4, 13] (fun h i => ∃ k q : Nat, h = .int .u32 (q : Int) ∧ i = .int .i64 (k : Int) ∧ k ≤ N ∧ q < 65536 ∧ Hid (q = run 0 (P.take k))) (fun h i => ((N : Int) - intOf i).toNat)
  case atStart => exact ⟨0, 0, rfl, rfl, by omega, by omega, rfl⟩
  case round =>
    obtain ⟨k, q, rfl, rfl, hk, hq, HQ⟩ := hrel
    by_cases hgo : k < N
    · have hgo' : (k : Int) < (N : Int) := by omega
      rcases bo with _ | ad
      · exact (yrow_none HR.out (j := k) (by rw [← HN.out]; exact hgo)).elim
      have c1 := yrow_cell HR.out (j := k) (by rw [← HN.out]; exact hgo)
      have hbk := hpb.out _ (yb_mem (l := P) (j := k) (by rw [← HN.out]; exact hgo))
      have hst := hid (run_take (P := P) (k := k) (by rw [← HN.out]; exact hgo))
      have cS := Step_any q (yb P k) (by omega) hbk W
      have hsl := stp_lt q (yb P k)
      have HQ2 : Hid (stp q (yb P k) = run 0 (P.take (k + 1))) := by show _ = _; rw [hst.out, HQ.out]
      clear HQ hst
      generalize stp q (yb P k) = s at *
      generalize yb P k = b at *
      go_wp2_with (go_at_call 53; refine cS.mono ?_; rintro e w' ⟨rfl, hw⟩; subst w')
      go_round
      case rel => exact ⟨k + 1, s, rfl, by simp, by omega, by omega, HQ2⟩
      case measure => exact measK hgo
    · have e : Hid (q = run 0 P) := by
        show _ = _
        rw [HQ.out, List.take_of_length_le (by rw [← HN.out]; omega)]
      have hgo' : ¬ (k : Int) < (N : Int) := by omega
      clear HQ
      go_wp2
      go_ret2
      exact ⟨by rw [← e.out]; rfl, HB.out⟩

set_option maxRecDepth 100000 in
set_option maxHeartbeats 1000000 in
theorem refSum_any (o : Option Addr) (c : Nat) (l : List Nat) (hl : l.length ≤ 4096) (hb : Byt l) (w : World) (r : YRow w o l) :
    Calls Try.prog 25 #[.slice o l.length c] w fun e w' => e = .returned (.int .i64 ((sum l : Nat) : Int)) ∧ Below w.heap.size w w' := by
  have cC := refPadded_any o c l hl w r
  have hsum : sum l = run 0 (pad l) := rfl
  have hpl := pad_length l
  have hpb := hid (pad_byt hb)
  rw [hsum]
  obtain ⟨P, hP⟩ : ∃ P, P = pad l := ⟨_, rfl⟩
  rw [← hP] at cC hpl hpb ⊢
  obtain ⟨N, hN⟩ : ∃ N, N = P.length := ⟨_, rfl⟩
  have HN := hid hN
  unfold RetY at cC
  rw [← hN] at hpl cC
  obtain ⟨n, hn⟩ : ∃ n, n = l.length := ⟨_, rfl⟩
  rw [← hn] at cC hl hpl ⊢
  have hN2 : N ≤ 4100 := by omega
  clear hn hN hpl hP hsum r hb
  go_enter Try.func25, Try.ntmps25
  go_wp2_with (go_at_call 37; refine cC.mono ?_; rintro e W ⟨⟨bo, cb, rfl, hcb, hr⟩, hB⟩; have HR := hid hr; have HB := hid hB; clear hr hB)
  clear cC
  go_loop [3, 9] (fun h i => ∃ k q : Nat, h = .int .i64 (q : Int) ∧ i = .int .i64 (k : Int) ∧ k ≤ N ∧ q < 65536 ∧ Hid (q = run 0 (P.take k))) (fun h i => ((N : Int) - intOf i).toNat)
  case atStart => exact ⟨0, 0, rfl, rfl, by omega, by omega, rfl⟩
  case round =>
    obtain ⟨k, q, rfl, rfl, hk, hq, HQ⟩ := hrel
    by_cases hgo : k < N
    · have hgo' : (k : Int) < (N : Int) := by omega
      rcases bo with _ | ad
      · exact (yrow_none HR.out (j := k) (by rw [← HN.out]; exact hgo)).elim
      have c1 := yrow_cell HR.out (j := k) (by rw [← HN.out]; exact hgo)
      have hbk := hpb.out _ (yb_mem (l := P) (j := k) (by rw [← HN.out]; exact hgo))
      have hst := hid (run_take (P := P) (k := k) (by rw [← HN.out]; exact hgo))
      have cS := refStep_any q (yb P k) (by omega) hbk W
      have hsl := stp_lt q (yb P k)
      have HQ2 : Hid (stp q (yb P k) = run 0 (P.take (k + 1))) := by show _ = _; rw [hst.out, HQ.out]
      clear HQ hst
      generalize stp q (yb P k) = s at *
      generalize yb P k = b at *
      go_wp2_with (go_at_call 38; refine cS.mono ?_; rintro e w' ⟨rfl, hw⟩; subst w')
      go_round
      case rel => exact ⟨k + 1, s, rfl, by simp, by omega, by omega, HQ2⟩
      case measure => exact measK hgo
    · have e : Hid (q = run 0 P) := by
        show _ = _
        rw [HQ.out, List.take_of_length_le (by rw [← HN.out]; omega)]
      have hgo' : ¬ (k : Int) < (N : Int) := by omega
      clear HQ
      go_wp2
      go_ret
      exact ⟨by rw [← e.out]; rfl, HB.out⟩

end Go.Proofs.Ytpflkihagebmlab.Calls128
