/-
  For any cipher and any two numbers package pad tells which message it was.
-/
import Derived.Test.YtcdlbdicfldlaaaRows
import Derived.Test.YtcdlbdicfldlaaaCalls100
import Derived.WalkKit
import Derived.ProofKit
import Derived.OpenShut
import Derived.Carry
namespace Go.Proofs.Ytcdlbdicfldlaaa.padSeeks
open Go.ChangeShapes Go.WideShapes Go.ChangeAt Go.RowKit Go.Deep Go.Proofs.Ytcdlbdicfldlaaa.Base Go.Proofs.Ytcdlbdicfldlaaa.Base2 Go.Proofs.Ytcdlbdicfldlaaa.Num16 Go.Proofs.Ytcdlbdicfldlaaa.Num17 Go.Proofs.Ytcdlbdicfldlaaa.Num34 Go.Proofs.Ytcdlbdicfldlaaa.Num40 Go.Proofs.Ytcdlbdicfldlaaa.Base4 Go.Proofs.Ytcdlbdicfldlaaa.Base5 Go.Proofs.Ytcdlbdicfldlaaa.Calls96 Go.Proofs.Ytcdlbdicfldlaaa.Calls97 Go.Proofs.Ytcdlbdicfldlaaa.Calls98 Go.Proofs.Ytcdlbdicfldlaaa.Calls99 Go.Proofs.Ytcdlbdicfldlaaa.Calls100
set_option linter.unusedVariables false

theorem own : ownKnob Try.prog.godebug = none := by kernel_rfl

theorem laidOut : laidOutB Try.prog = true := by kernel_rfl

theorem cells2 : Try.prog.cellsOf 2 = 1 := by kernel_rfl

theorem cellsR : Try.prog.cellsOf 30 = 1 := by kernel_rfl

theorem cells3 : Try.prog.cellsOf 3 = 1 := by kernel_rfl

set_option maxRecDepth 100000 in
set_option maxHeartbeats 1000000 in
theorem walk (ao : Option Addr) (cap : Nat) (L : List (List Int)) (kl : L.length ≤ cap) (ml : L.length ≤ 9223372036854775807) (k : Int) (wk : (Lit.int .i64 k).wf = true) (x : Int) (wx : (Lit.int .i64 x).wf = true) (w : World) (hrow : RRow w ao L) :
    Calls Try.prog 6 #[.slice ao L.length cap, .int .i64 k, .int .i64 x] w fun e w' => e = .returned (.bool true) ∧ Below w.heap.size w w' := by
  obtain ⟨c, hc⟩ := cic_ex L
  have cR := fun w' (hB : Below w.heap.size w w') => refCipher_any ao cap L c hc ml w' (rb hrow hB)
  clear wk wx
  by_cases h0 : c = 0
  · subst h0
    by_cases hk : k < 0 ∨ (L.length : Int) ≤ k
    · have cF := Find_arg ao cap L k x hc hk ml w hrow
      generalize L.length = n at *
      clear hc hrow
      by_cases h1 : k < 0
      · go_enter Try.func6, Try.ntmps6
        go_wp2_with (first
          | (go_at_call 15; refine cF.mono ?_; rintro e w1 ⟨rfl, hB⟩)
          | (go_at_call 10; refine (cR _ hB).mono ?_; rintro e w2 ⟨rfl, hw⟩; subst w2))
        go_ret
        exact ⟨rfl, hB⟩
      · have h2 : (n : Int) ≤ k := by omega
        have h1' : decide (k < 0) = false := by simpa using h1
        clear hk
        go_enter Try.func6, Try.ntmps6
        go_wp2_with (first
          | (go_at_call 15; refine cF.mono ?_; rintro e w1 ⟨rfl, hB⟩)
          | (go_at_call 10; refine (cR _ hB).mono ?_; rintro e w2 ⟨rfl, hw⟩; subst w2))
        go_ret
        exact ⟨rfl, hB⟩
    · obtain ⟨q, rfl⟩ : ∃ q : Nat, k = (q : Int) := ⟨k.toNat, by omega⟩
      have hq : q < L.length := by omega
      obtain ⟨v, hv⟩ := fstI_ex x (rw' L q)
      have cF := Find_in ao cap L q x v hc hq hv ml w hrow
      have hci := hc.ok
      have hM := ci_small hci _ (rw_mem hq)
      rcases ao with _ | ad
      · exact (rrow_none hrow hq).elim
      have CI : Hid (∀ w', Below w.heap.size w w' → RAt w' (ad.add q) (rw' L q)) := fun w' hB => (rb hrow hB).2 ad rfl q hq
      have hk0 : decide ((q : Int) < 0) = false := by simp
      have hk1 : ¬ (L.length : Int) ≤ (q : Int) := by omega
      have hk2 : (q : Int) < (L.length : Int) := by omega
      have hk3 : decide ((L.length : Int) ≤ (q : Int)) = false := by simpa using hk1
      obtain ⟨M, hME⟩ : ∃ M, M = (rw' L q).length := ⟨_, rfl⟩
      have HM : Hid (M = (rw' L q).length) := hME
      have HV := hid hv
      rw [← hME] at hM
      generalize L.length = n at *
      clear hc hrow hk hv hci hME
      rcases HV.out with ⟨p, hp, hpx, hpn, rfl⟩ | ⟨hno, rfl⟩
      · have cF2 := cF.mono (R' := fun e w1 => e = .returned (.tuple #[.int .i64 (p : Int), .int .i64 0]) ∧ Below w.heap.size w w1) (fun e w1 h => ⟨by
          rcases h.1 with ⟨h1, _⟩ | ⟨_, h⟩
          · omega
          · exact h, h.2⟩)
        have HP : Hid (p < M) := by show p < M; rw [HM.out]; exact hp
        have HX : Hid (co (rw' L q) p = x) := hpx
        have HN : Hid (∀ j, j < p → co (rw' L q) j ≠ x) := hpn
        clear cF hp hpx hpn
        go_enter Try.func6, Try.ntmps6
        go_wp2_with (first
          | (go_at_call 15; refine cF2.mono ?_; rintro e w1 ⟨rfl, hB⟩)
          | (go_at_call 10; refine (cR _ hB).mono ?_; rintro e w2 ⟨rfl, hw⟩; subst w2))
        obtain ⟨bo, cc, c1, hr, hlc, hlm⟩ := CI.out w1 hB
        rw [← HM.out] at c1 hlm
        have HR1 := hid hr
        clear hr hlc
        go_loop [10] (fun i => ∃ i' : Nat, i = .int .i64 (i' : Int) ∧ i' ≤ p) (fun i => ((M : Int) - intOf i).toNat)
        case atStart => exact ⟨0, rfl, by omega⟩
        case round =>
          obtain ⟨i, rfl, hi⟩ := hrel
          have hiM : (i : Int) < (M : Int) := by have := HP.out; omega
          have hil : Hid (i < (rw' L q).length) := by show i < _; rw [← HM.out]; have := HP.out; omega
          rcases bo with _ | bd
          · exact (irow_none HR1.out hil.out).elim
          have c2 := HR1.out.2 bd rfl i hil.out
          by_cases hip : i = p
          · subst hip
            rw [HX.out] at c2
            go_wp2
            go_ret
            exact ⟨by simp, hB⟩
          · have hne := HN.out i (by omega)
            generalize co (rw' L q) i = y at *
            have hne' : (y == x) = false := by simpa using hne
            go_wp2
            go_round
            case rel => exact ⟨i + 1, by simp, by omega⟩
            case measure => exact measK (by have := HP.out; omega)
      · have cF2 := cF.mono (R' := fun e w1 => e = .returned (.tuple #[.int .i64 0, .int .i64 5]) ∧ Below w.heap.size w w1) (fun e w1 h => ⟨by
          rcases h.1 with ⟨_, h⟩ | ⟨h1, _⟩
          · exact h
          · omega, h.2⟩)
        have HN : Hid (∀ j, j < M → co (rw' L q) j ≠ x) := fun j hj => hno j (by rw [← HM.out]; exact hj)
        clear cF hno
        go_enter Try.func6, Try.ntmps6
        go_wp2_with (first
          | (go_at_call 15; refine cF2.mono ?_; rintro e w1 ⟨rfl, hB⟩)
          | (go_at_call 10; refine (cR _ hB).mono ?_; rintro e w2 ⟨rfl, hw⟩; subst w2))
        obtain ⟨bo, cc, c1, hr, hlc, hlm⟩ := CI.out w1 hB
        rw [← HM.out] at c1 hlm
        have HR1 := hid hr
        clear hr hlc
        go_loop [10] (fun i => ∃ i' : Nat, i = .int .i64 (i' : Int) ∧ i' ≤ M) (fun i => ((M : Int) - intOf i).toNat)
        case atStart => exact ⟨0, rfl, by omega⟩
        case round =>
          obtain ⟨i, rfl, hi⟩ := hrel
          by_cases hgo : i < M
          · have hiM : (i : Int) < (M : Int) := by omega
            have hil : Hid (i < (rw' L q).length) := by show i < _; rw [← HM.out]; exact hgo
            rcases bo with _ | bd
            · exact (irow_none HR1.out hil.out).elim
            have c2 := HR1.out.2 bd rfl i hil.out
            have hne := HN.out i hgo
            generalize co (rw' L q) i = y at *
            have hne' : (y == x) = false := by simpa using hne
            go_wp2
            go_round
            case rel => exact ⟨i + 1, by simp, by omega⟩
            case measure => exact measK hgo
          · have hgo' : ¬ (i : Int) < (M : Int) := by omega
            go_wp2
            go_ret
            exact ⟨rfl, hB⟩
  · have cF := Find_bad ao cap L k x c hc h0 ml w hrow
    have h1 : (c != 0) = true := by simpa using h0
    have h2 : (c == 0) = false := by simpa using h0
    generalize L.length = n at *
    clear hc hrow
    go_enter Try.func6, Try.ntmps6
    go_wp2_with (first
      | (go_at_call 15; refine cF.mono ?_; rintro e w1 ⟨rfl, hB⟩)
      | (go_at_call 10; refine (cR _ hB).mono ?_; rintro e w2 ⟨rfl, hw⟩; subst w2))
    go_ret
    exact ⟨by simp, hB⟩

set_option maxRecDepth 100000 in
theorem lifted (os : Os) (started : os.Started) (H : Type) (enc : TypeId × Value → H) :
    ReturnsInHanded {} Try.checked os 6 .any (Rows.padSeeksSpec.pre6 enc Try.prog Try.f6 Rows.padSeeksRow.domain false) (Rows.padSeeksSpec.post enc Try.prog Try.f6 false true false false) := by
  refine returnsInHanded_of_change (C := Try.checked) own started (by kernel_rfl) Try.func6
    (ChangeSpec.witness6 (enc := enc) (C := Try.checked) false ⟨#[], #[.slice none 0 0, .int .i64 0, .int .i64 0], []⟩ 8 (by kernel_rfl) (by kernel_rfl) (by kernel_rfl) (by kernel_rfl)) ?_
  intro W base args ds gs before hval0 hW hcnd _
  have hval : ∀ (j : Nat) t v, Try.f6.params[j]? = some t → args[j]? = some v → Value.okWide Try.prog W .any base t v := hval0
  have hW' := hW
  obtain ⟨p, q, hA0, hV, rfl, _, _⟩ := hW
  have hA : DataW.TrodAll enc Try.prog W 0 (fun _ => true) true Try.f6.params.toList args.toList ds p := hA0
  rw [Try.params6] at hA hval
  obtain ⟨v0, v1, v2, d0, d1, d2, p0, p1, p2, rfl, rfl, rfl, h0, h1, h2⟩ := trodAll_three hA
  obtain ⟨rfl, rfl⟩ := trodVars_none hV
  have hsl0 := okWide_slice Try.underlying22 (hval 0 22 v0 rfl rfl)
  obtain ⟨a1, rfl, rfl, rfl, w1⟩ := open_int Try.underlying3 (hval 1 3 v1 rfl rfl) h1
  obtain ⟨a2, rfl, rfl, rfl, w2⟩ := open_int Try.underlying3 (hval 2 3 v2 rfl rfl) h2
  clear hA0 hval0
  simp only [List.append_nil] at hW'
  have hlt0 : ∀ x ∈ p0, x.block < W.heap.size := fun x hx => by simpa using hW'.lt x (by simp [hx])
  have harg0 : ∀ (W' : World), Below W.heap.size W W' → DataW.Trod enc Try.prog W' 0 (fun b => decide (b < W.heap.size)) true 22 v0 d0 p0 :=
    fun W' hn => Below.trod laidOut (by kernel_rfl) (of_decide_eq_true (by kernel_rfl)) h0 hn hlt0
  obtain ⟨o0, c0, l0, rfl, r0, k0, m0⟩ := rows_view Try.underlying22 cellsR Try.underlying30 cells3 Try.underlying3 h0 hsl0
  refine (walk o0 c0 l0 k0 m0 a1 w1 a2 w2 W r0).mono fun e W' ⟨he, hg⟩ => ?_
  subst he
  refine ⟨_, rfl, _, _, _, [], p0 ++ (([] : List MemPlace) ++ (([] : List MemPlace))), [], hW', ?_, ?_, rfl, hg.frame _, fun h => by cases h⟩
  · exact trodAll_mk1 (shut_bool Try.underlying4 true)
  · exact trodAll_mk3 (harg0 _ hg) (shut_int Try.underlying3 w1) (shut_int Try.underlying3 w2)

theorem over : Rows.padSeeksRow.holds Try.pinned (OpenSpec.ofChange Rows.padSeeksSpec) :=
  OpenClaim.holds_of_wide 6 Try.f6 rfl rfl rfl rfl rfl rfl rfl ⟨rfl, rfl, rfl, rfl, rfl⟩ rfl rfl rfl rfl rfl (by kernel_rfl) Try.func6 (by kernel_rfl)
    (of_decide_eq_true (by kernel_rfl)) (by unfold Func.isWrapper; first | (rw [if_pos (by decide +kernel)]; kernel_rfl) | (rw [if_neg (by decide +kernel)]; exact ⟨rfl, rfl⟩))
    (fun os started H enc _ => lifted os started H enc)

/-- ████ THE STATEMENT ████ -/
theorem proved : Rows.PadSeeksSaid :=
  over

end Go.Proofs.Ytcdlbdicfldlaaa.padSeeks
