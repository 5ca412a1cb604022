/-
  What a message becomes, by a cipher that can be read, is found to have been it.
-/
import Derived.Test.YtcdlbdicfldlaabRows
import Derived.Test.YtcdlbdicfldlaabCalls100
import Derived.WalkKit
import Derived.ProofKit
import Derived.OpenShut
import Derived.Carry
namespace Go.Proofs.Ytcdlbdicfldlaab.padFinds
open Go.ChangeShapes Go.WideShapes Go.ChangeAt Go.RowKit Go.Deep Go.Proofs.Ytcdlbdicfldlaab.Base Go.Proofs.Ytcdlbdicfldlaab.Base2 Go.Proofs.Ytcdlbdicfldlaab.Num16 Go.Proofs.Ytcdlbdicfldlaab.Num17 Go.Proofs.Ytcdlbdicfldlaab.Num34 Go.Proofs.Ytcdlbdicfldlaab.Num40 Go.Proofs.Ytcdlbdicfldlaab.Base4 Go.Proofs.Ytcdlbdicfldlaab.Base5 Go.Proofs.Ytcdlbdicfldlaab.Calls96 Go.Proofs.Ytcdlbdicfldlaab.Calls97 Go.Proofs.Ytcdlbdicfldlaab.Calls98 Go.Proofs.Ytcdlbdicfldlaab.Calls99 Go.Proofs.Ytcdlbdicfldlaab.Calls100
set_option linter.unusedVariables false

theorem own : ownKnob Try.prog.godebug = none := by kernel_rfl

theorem laidOut : laidOutB Try.prog = true := by kernel_rfl

theorem cells2 : Try.prog.cellsOf 2 = 1 := by kernel_rfl

theorem cellsR : Try.prog.cellsOf 27 = 1 := by kernel_rfl

theorem cells3 : Try.prog.cellsOf 3 = 1 := by kernel_rfl

set_option maxRecDepth 100000 in
set_option maxHeartbeats 2000000 in
theorem walk_in (ad : Addr) (cap : Nat) (L : List (List Int)) (ml : L.length ≤ 9223372036854775807) (hc : CiC L 0) (b : Bool) (hb : b = true ↔ PlainL L) (q p : Nat) (hq : q < L.length) (hp : p < (rw' L q).length) (w : World) (hrow : RRow w (some ad) L) :
    Calls Try.prog 3 #[.slice (some ad) L.length cap, .int .i64 (q : Int), .int .i64 (p : Int)] w fun e w' => e = .returned (.bool true) ∧ Below w.heap.size w w' := by
  have cR := fun w' (hB : Below w.heap.size w w') => refCipher_any (some ad) cap L 0 hc ml w' (rb hrow hB)
  have cP := Plain_yes (some ad) cap L hc b hb ml w hrow
  obtain ⟨v, hv⟩ := fstI_ex (co (rw' L q) p) (rw' L q)
  have hci := hc.ok
  have hM := ci_small hci _ (rw_mem hq)
  obtain ⟨i, hi, hie, hin, rfl⟩ : ∃ i : Nat, i < (rw' L q).length ∧ co (rw' L q) i = co (rw' L q) p ∧ (∀ j, j < i → co (rw' L q) j ≠ co (rw' L q) p) ∧ v = (i : Int) := by
    rcases hv with h | ⟨h, _⟩
    · exact h
    · exact absurd rfl (h p hp)
  have hip : i ≤ p := Classical.byContradiction fun h => hin p (by omega) rfl
  have hbi : b = true → i = p := fun h => (twB_inj _).1 (hb.1 h _ (rw_mem hq)) i p hi hp hie
  have cF : ∀ w', Below w.heap.size w w' → Calls Try.prog 6 #[.slice (some ad) L.length cap, .int .i64 (q : Int), .int .i64 (co (rw' L q) p)] w' fun e w'' => e = .returned (.tuple #[.int .i64 (i : Int), .int .i64 0]) ∧ Below w'.heap.size w' w'' := fun w' hB =>
    (Find_in (some ad) cap L q _ (i : Int) hc hq hv ml w' (rb hrow hB)).mono fun e w1 h => ⟨by
      rcases h.1 with ⟨h1, _⟩ | ⟨_, h⟩
      · omega
      · exact h, h.2⟩
  have CI : Hid (∀ w', Below w.heap.size w w' → ∃ bd cc, w'.cell? (ad.add q) = some (.slice (some bd) (rw' L q).length cc) ∧ w'.cell? (bd.add i) = some (.int .i64 (co (rw' L q) p)) ∧ w'.cell? (bd.add p) = some (.int .i64 (co (rw' L q) p))) := fun w' hB => by
    obtain ⟨bo, cc, h1, h2, _, _⟩ := (rb hrow hB).2 ad rfl q hq
    rcases bo with _ | bd
    · exact (irow_none h2 hp).elim
    · have h3 := h2.2 bd rfl i hi
      rw [hie] at h3
      exact ⟨bd, cc, h1, h3, h2.2 bd rfl p hp⟩
  generalize co (rw' L q) p = x at *
  generalize (rw' L q).length = M at *
  generalize L.length = n at *
  have hk1 : ¬ (n : Int) ≤ (q : Int) := by omega
  have hk2 : (q : Int) < (n : Int) := by omega
  have hk3 : decide ((n : Int) ≤ (q : Int)) = false := by simpa using hk1
  have hm1 : ¬ (M : Int) ≤ (p : Int) := by omega
  have hm2 : (p : Int) < (M : Int) := by omega
  have hm3 : decide ((M : Int) ≤ (p : Int)) = false := by simpa using hm1
  have hi2 : (i : Int) < (M : Int) := by omega
  have hip2 : (i : Int) ≤ (p : Int) := by omega
  clear hc hrow hb hv hci hie hin
  cases b with
  | true =>
    obtain rfl : i = p := hbi rfl
    clear hbi
    obtain ⟨bd, cc, e1, e2, e3⟩ := CI.out w (Below.refl _ _)
    go_enter Try.func3, Try.ntmps3
    go_wp2_with (first
      | (go_at_call 4; refine cP.mono ?_; rintro e w1 ⟨rfl, hB⟩)
      | (go_at_call 5; refine (cR _ hB).mono ?_; rintro e w2 ⟨rfl, hw⟩; subst w2; obtain ⟨bd, cc, e1, e2, e3⟩ := CI.out w1 hB)
      | (go_at_call 6; refine (cF _ hB).mono ?_; rintro e w3 ⟨rfl, hB3⟩; obtain ⟨bd', cc', f1, f2, f3⟩ := CI.out w3 (below_trans hB hB3)))
    go_quiet (fail)
    go_wp2
    go_ret
    exact ⟨rfl, below_drewN (below_trans hB hB3) _⟩
  | false =>
    clear hbi
    go_enter Try.func3, Try.ntmps3
    go_wp2_with (first
      | (go_at_call 4; refine cP.mono ?_; rintro e w1 ⟨rfl, hB⟩)
      | (go_at_call 5; refine (cR _ hB).mono ?_; rintro e w2 ⟨rfl, hw⟩; subst w2; obtain ⟨bd, cc, e1, e2, e3⟩ := CI.out w1 hB)
      | (go_at_call 6; refine (cF _ hB).mono ?_; rintro e w3 ⟨rfl, hB3⟩; obtain ⟨bd', cc', f1, f2, f3⟩ := CI.out w3 (below_trans hB hB3)))
    go_quiet (fail)
    go_wp2
    go_ret
    exact ⟨rfl, below_drewN (below_trans hB hB3) _⟩

set_option maxRecDepth 100000 in
set_option maxHeartbeats 1000000 in
theorem walk (ao : Option Addr) (cap : Nat) (L : List (List Int)) (kl : L.length ≤ cap) (ml : L.length ≤ 9223372036854775807) (k : Int) (wk : (Lit.int .i64 k).wf = true) (m : Int) (wm : (Lit.int .i64 m).wf = true) (w : World) (hrow : RRow w ao L) :
    Calls Try.prog 3 #[.slice ao L.length cap, .int .i64 k, .int .i64 m] w fun e w' => e = .returned (.bool true) ∧ Below w.heap.size w w' := by
  obtain ⟨c, hc⟩ := cic_ex L
  have cR := fun w' (hB : Below w.heap.size w w') => refCipher_any ao cap L c hc ml w' (rb hrow hB)
  clear wk wm
  by_cases h0 : c = 0
  · subst h0
    obtain ⟨b, hb⟩ := bool_of (PlainL L)
    have cP := Plain_yes ao cap L hc b hb ml w hrow
    by_cases hk : k < 0 ∨ (L.length : Int) ≤ k
    · have cF := fun w' (hB : Below w.heap.size w w') => Find_arg ao cap L k 0 hc hk ml w' (rb hrow hB)
      generalize L.length = n at *
      clear hc hrow hb
      by_cases h1 : k < 0
      · go_enter Try.func3, Try.ntmps3
        go_wp2_with (first
          | (go_at_call 4; refine cP.mono ?_; rintro e w1 ⟨rfl, hB⟩)
          | (go_at_call 5; refine (cR _ hB).mono ?_; rintro e w2 ⟨rfl, hw⟩; subst w2)
          | (go_at_call 6; refine (cF _ hB).mono ?_; rintro e w3 ⟨rfl, hB3⟩))
        go_ret
        exact ⟨rfl, below_trans hB hB3⟩
      · have h2 : (n : Int) ≤ k := by omega
        have h1' : decide (k < 0) = false := by simpa using h1
        have h3 : 0 ≤ k := by omega
        have h4 : ¬ k < (n : Int) := by omega
        clear hk
        go_enter Try.func3, Try.ntmps3
        go_wp2_with (first
          | (go_at_call 4; refine cP.mono ?_; rintro e w1 ⟨rfl, hB⟩)
          | (go_at_call 5; refine (cR _ hB).mono ?_; rintro e w2 ⟨rfl, hw⟩; subst w2)
          | (go_at_call 6; refine (cF _ hB).mono ?_; rintro e w3 ⟨rfl, hB3⟩))
        go_ret
        exact ⟨rfl, below_trans hB hB3⟩
    · obtain ⟨q, rfl⟩ : ∃ q : Nat, k = (q : Int) := ⟨k.toNat, by omega⟩
      have hq : q < L.length := by omega
      rcases ao with _ | ad
      · exact (rrow_none hrow hq).elim
      by_cases hm : m < 0 ∨ ((rw' L q).length : Int) ≤ m
      · obtain ⟨v, hv⟩ := fstI_ex 0 (rw' L q)
        have cF : ∀ w', Below w.heap.size w w' → Calls Try.prog 6 #[.slice (some ad) L.length cap, .int .i64 (q : Int), .int .i64 0] w' fun e w'' => (∃ y z, e = .returned (.tuple #[.int .i64 y, .int .i64 z])) ∧ Below w'.heap.size w' w'' := fun w' hB =>
          (Find_in (some ad) cap L q 0 v hc hq hv ml w' (rb hrow hB)).mono fun e w1 h => ⟨by
            rcases h.1 with ⟨_, h⟩ | ⟨_, h⟩
            · exact ⟨_, _, h⟩
            · exact ⟨_, _, h⟩, h.2⟩
        have CI : Hid (∀ w', Below w.heap.size w w' → ∃ bo cc, w'.cell? (ad.add q) = some (.slice bo (rw' L q).length cc)) := fun w' hB => by
          obtain ⟨bo, cc, h1, _⟩ := (rb hrow hB).2 ad rfl q hq
          exact ⟨bo, cc, h1⟩
        generalize (rw' L q).length = M at *
        generalize L.length = n at *
        have hk1 : ¬ (n : Int) ≤ (q : Int) := by omega
        have hk2 : (q : Int) < (n : Int) := by omega
        have hk3 : decide ((n : Int) ≤ (q : Int)) = false := by simpa using hk1
        clear hc hrow hb hv hk
        by_cases h1 : m < 0
        · go_enter Try.func3, Try.ntmps3
          go_wp2_with (first
            | (go_at_call 4; refine cP.mono ?_; rintro e w1 ⟨rfl, hB⟩)
            | (go_at_call 5; refine (cR _ hB).mono ?_; rintro e w2 ⟨rfl, hw⟩; subst w2; obtain ⟨bo, cc, e1⟩ := CI.out w1 hB)
            | (go_at_call 6; refine (cF _ hB).mono ?_; rintro e w3 ⟨⟨y, z, rfl⟩, hB3⟩))
          go_ret
          exact ⟨rfl, below_trans hB hB3⟩
        · have h2 : (M : Int) ≤ m := by omega
          have h1' : decide (m < 0) = false := by simpa using h1
          clear hm
          go_enter Try.func3, Try.ntmps3
          go_wp2_with (first
            | (go_at_call 4; refine cP.mono ?_; rintro e w1 ⟨rfl, hB⟩)
            | (go_at_call 5; refine (cR _ hB).mono ?_; rintro e w2 ⟨rfl, hw⟩; subst w2; obtain ⟨bo, cc, e1⟩ := CI.out w1 hB)
            | (go_at_call 6; refine (cF _ hB).mono ?_; rintro e w3 ⟨⟨y, z, rfl⟩, hB3⟩))
          go_ret
          exact ⟨rfl, below_trans hB hB3⟩
      · obtain ⟨p, rfl⟩ : ∃ p : Nat, m = (p : Int) := ⟨m.toNat, by omega⟩
        exact walk_in ad cap L ml hc b hb q p hq (by omega) w hrow
  · have cP := Plain_bad ao cap L c hc h0 ml w hrow
    have h1 : (c != 0) = true := by simpa using h0
    have h2 : (c == 0) = false := by simpa using h0
    generalize L.length = n at *
    clear hc hrow
    go_enter Try.func3, Try.ntmps3
    go_wp2_with (first
      | (go_at_call 4; refine cP.mono ?_; rintro e w1 ⟨rfl, hB⟩)
      | (go_at_call 5; refine (cR _ hB).mono ?_; rintro e w2 ⟨rfl, hw⟩; subst w2))
    go_ret
    exact ⟨by simp, hB⟩

set_option maxRecDepth 100000 in
theorem lifted (os : Os) (started : os.Started) (H : Type) (enc : TypeId × Value → H) :
    ReturnsInHanded {} Try.checked os 3 .any (Rows.padFindsSpec.pre6 enc Try.prog Try.f3 Rows.padFindsRow.domain false) (Rows.padFindsSpec.post enc Try.prog Try.f3 false true false false) := by
  refine returnsInHanded_of_change (C := Try.checked) own started (by kernel_rfl) Try.func3
    (ChangeSpec.witness6 (enc := enc) (C := Try.checked) false ⟨#[], #[.slice none 0 0, .int .i64 0, .int .i64 0], []⟩ 8 (by kernel_rfl) (by kernel_rfl) (by kernel_rfl) (by kernel_rfl)) ?_
  intro W base args ds gs before hval0 hW hcnd _
  have hval : ∀ (j : Nat) t v, Try.f3.params[j]? = some t → args[j]? = some v → Value.okWide Try.prog W .any base t v := hval0
  have hW' := hW
  obtain ⟨p, q, hA0, hV, rfl, _, _⟩ := hW
  have hA : DataW.TrodAll enc Try.prog W 0 (fun _ => true) true Try.f3.params.toList args.toList ds p := hA0
  rw [Try.params3] at hA hval
  obtain ⟨v0, v1, v2, d0, d1, d2, p0, p1, p2, rfl, rfl, rfl, h0, h1, h2⟩ := trodAll_three hA
  obtain ⟨rfl, rfl⟩ := trodVars_none hV
  have hsl0 := okWide_slice Try.underlying22 (hval 0 22 v0 rfl rfl)
  obtain ⟨a1, rfl, rfl, rfl, w1⟩ := open_int Try.underlying3 (hval 1 3 v1 rfl rfl) h1
  obtain ⟨a2, rfl, rfl, rfl, w2⟩ := open_int Try.underlying3 (hval 2 3 v2 rfl rfl) h2
  clear hA0 hval0
  simp only [List.append_nil] at hW'
  have hlt0 : ∀ x ∈ p0, x.block < W.heap.size := fun x hx => by simpa using hW'.lt x (by simp [hx])
  have harg0 : ∀ (W' : World), Below W.heap.size W W' → DataW.Trod enc Try.prog W' 0 (fun b => decide (b < W.heap.size)) true 22 v0 d0 p0 :=
    fun W' hn => Below.trod laidOut (by kernel_rfl) (of_decide_eq_true (by kernel_rfl)) h0 hn hlt0
  obtain ⟨o0, c0, l0, rfl, r0, k0, m0⟩ := rows_view Try.underlying22 cellsR Try.underlying27 cells3 Try.underlying3 h0 hsl0
  refine (walk o0 c0 l0 k0 m0 a1 w1 a2 w2 W r0).mono fun e W' ⟨he, hg⟩ => ?_
  subst he
  refine ⟨_, rfl, _, _, _, [], p0 ++ (([] : List MemPlace) ++ (([] : List MemPlace))), [], hW', ?_, ?_, rfl, hg.frame _, fun h => by cases h⟩
  · exact trodAll_mk1 (shut_bool Try.underlying4 true)
  · exact trodAll_mk3 (harg0 _ hg) (shut_int Try.underlying3 w1) (shut_int Try.underlying3 w2)

theorem over : Rows.padFindsRow.holds Try.pinned (OpenSpec.ofChange Rows.padFindsSpec) :=
  OpenClaim.holds_of_wide 3 Try.f3 rfl rfl rfl rfl rfl rfl rfl ⟨rfl, rfl, rfl, rfl, rfl⟩ rfl rfl rfl rfl rfl (by kernel_rfl) Try.func3 (by kernel_rfl)
    (of_decide_eq_true (by kernel_rfl)) (by unfold Func.isWrapper; first | (rw [if_pos (by decide +kernel)]; kernel_rfl) | (rw [if_neg (by decide +kernel)]; exact ⟨rfl, rfl⟩))
    (fun os started H enc _ => lifted os started H enc)

/-- ████ THE STATEMENT ████ -/
theorem proved : Rows.PadFindsSaid :=
  over

end Go.Proofs.Ytcdlbdicfldlaab.padFinds
