/-
  The way back is the way there by the rounds from the last one on, with halves changed ahead of it and behind, for any rounds and any number; without a condition.
-/
import Derived.Test.YtngdhhhdnkkagaaRows
import Derived.Test.YtngdhhhdnkkagaaCalls107
import Derived.WalkKit
import Derived.ProofKit
import Derived.OpenShut
import Derived.Carry
namespace Go.Proofs.Ytngdhhhdnkkagaa.feistelTurned
open Go.ChangeShapes Go.WideShapes Go.ChangeAt Go.RowKit Go.Deep Go.Proofs.Ytngdhhhdnkkagaa.Base Go.Proofs.Ytngdhhhdnkkagaa.Base2 Go.Proofs.Ytngdhhhdnkkagaa.Num16 Go.Proofs.Ytngdhhhdnkkagaa.Num17 Go.Proofs.Ytngdhhhdnkkagaa.Num34 Go.Proofs.Ytngdhhhdnkkagaa.Num51 Go.Proofs.Ytngdhhhdnkkagaa.Base4 Go.Proofs.Ytngdhhhdnkkagaa.Base5 Go.Proofs.Ytngdhhhdnkkagaa.Calls96 Go.Proofs.Ytngdhhhdnkkagaa.Calls103 Go.Proofs.Ytngdhhhdnkkagaa.Calls104 Go.Proofs.Ytngdhhhdnkkagaa.Calls105 Go.Proofs.Ytngdhhhdnkkagaa.Calls106 Go.Proofs.Ytngdhhhdnkkagaa.Calls107
set_option linter.unusedVariables false

theorem own : ownKnob Try.prog.godebug = none := by kernel_rfl

theorem laidOut : laidOutB Try.prog = true := by kernel_rfl

theorem cells2 : Try.prog.cellsOf 2 = 1 := by kernel_rfl

theorem cellsR : Try.prog.cellsOf 34 = 1 := by kernel_rfl

theorem cells3 : Try.prog.cellsOf 3 = 1 := by kernel_rfl

/-- On the way: the rows so far, and how many are left. -/
def TurnR (w : World) (L : List (List Int)) (N : Nat) (W : World) (v i : Value) : Prop :=
  ∃ (m : Nat) (vs : List Value), i = .int .i64 ((m : Int) - 1) ∧ m ≤ N ∧ Hid (W.ownsRow w.heap.size 34 1 v (N - m) vs) ∧ Hid (RevAt w L N (N - m) vs)

set_option maxRecDepth 100000 in
set_option maxHeartbeats 4000000 in
theorem walk (ao : Option Addr) (cap : Nat) (L : List (List Int)) (kl : L.length ≤ cap) (ml : L.length ≤ 9223372036854775807) (x : Int) (wx : (Lit.int .i64 x).wf = true) (w : World) (hrow : RRow w ao L) :
    Calls Try.prog 7 #[.slice ao L.length cap, .int .i64 x] w fun e w' => e = .returned (.bool true) ∧ Below w.heap.size w w' := by
  obtain ⟨c, hc⟩ := FC.ex L x
  have cR := fun w' (hB : Below w.heap.size w w') => refRounds_any ao cap L x c hc ml w' (rb hrow hB)
  clear wx
  by_cases h0 : c = 0
  · subst h0
    obtain ⟨hl, hR, h1, h2⟩ := hc.ok.1 rfl
    obtain ⟨i1, gi, gz0, gz1, gz2⟩ := infoR_ex
    obtain ⟨q, rfl⟩ : ∃ q : Nat, x = (q : Int) := ⟨x.toNat, by omega⟩
    have hq : q < 256 := by omega
    have c1 := Open_yes ao cap L hR hl q hq w hrow
    have hRr : Ros L.reverse := fun r hr => hR r (List.mem_reverse.mp hr)
    have hlr : L.reverse.length ≤ 64 := by rw [List.length_reverse]; exact hl
    have c2 := fun w' => swapped_any q hq w'
    have hsw := sw_lt hq
    have hsl := sl_lt hRr hsw
    have c3 := fun (bo : Option Addr) (cb : Nat) w' (hr : RRow w' bo L.reverse) => Seal_yes bo cb L.reverse hRr hlr (sw q) hsw w' hr
    have c4 := fun w' => swapped_any (sl L.reverse (sw q)) hsl w'
    rw [← op_turn hR hq] at c4
    have h00 : Hid (L.length = 0 → op L q = q) := fun h => by rw [List.length_eq_zero_iff.mp h]; rfl
    rw [List.length_reverse] at c3
    obtain ⟨N, hN⟩ : ∃ N, N = L.length := ⟨_, rfl⟩
    have HN : Hid (N = L.length) := hN
    rw [← hN] at c1 c3 cR hl ⊢
    clear hN hc h1 h2 hRr hlr ml kl hsl hsw
    generalize op L q = b at *
    generalize sl L.reverse (sw q) = z at *
    generalize sw q = y at *
    go_enter Try.func7, Try.ntmps7
    go_wp2_with (first
      | (go_at_call 12; refine c1.mono ?_; rintro e w1 ⟨rfl, hB1⟩; clear c1)
      | (go_at_call 10; refine (cR _ hB1).mono ?_; rintro e w2 ⟨rfl, hw⟩; subst w2; clear cR))
    go_loopw [7, 8] (fun v i wr => TurnR w L N wr v i ∧ Hid (Below w.heap.size w wr)) (fun v i wr => (intOf i + 1).toNat)
    case atStart => exact ⟨⟨N, [], rfl, Nat.le_refl _, by rw [Nat.sub_self]; exact World.ownsRow_nil _ _ _ _, fun j hj => by omega⟩, hB1⟩
    case round =>
      obtain ⟨⟨m, vs, rfl, hm, HV, HT⟩, HB⟩ := hrel
      match m, hm, HV, HT with
      | 0, hm, HV, HT =>
        have ek : ((0 : Nat) : Int) - 1 = -1 := rfl
        rw [ek]
        obtain ⟨bo, cb, rfl, hrr⟩ := RevAt.row (w := w) (W := wr) (L := L) (base := w.heap.size) (vs := vs) (by have := HT.out; rw [HN.out] at this; exact this) hR (by have := HV.out; rw [HN.out] at this; exact this) HB.out
        rw [← HN.out]
        have c3' := c3 bo cb wr hrr
        clear c3 hrr HV HT
        by_cases hz : N = 0
        · subst hz
          have eb : b = q := h00.out HN.out.symm
          subst eb
          go_wp2_with (first
            | (go_at_call 15; refine (c2 _).mono ?_; rintro e w' ⟨rfl, hw⟩; subst w'; clear c2)
            | (go_at_call 9; refine c3'.mono ?_; rintro e w3 ⟨rfl, hB3⟩; clear c3')
            | (go_at_call 15; refine (c4 _).mono ?_; rintro e w' ⟨rfl, hw⟩; subst w'))
          go_ret
          exact ⟨by simp, below_trans HB.out hB3⟩
        · have hz' : (0 : Int) < (N : Int) := by omega
          have hz2 : decide ((0 : Int) < (N : Int)) = true := by simp; omega
          go_wp2_with (first
            | (go_at_call 15; refine (c2 _).mono ?_; rintro e w' ⟨rfl, hw⟩; subst w'; clear c2)
            | (go_at_call 9; refine c3'.mono ?_; rintro e w3 ⟨rfl, hB3⟩; clear c3')
            | (go_at_call 15; refine (c4 _).mono ?_; rintro e w' ⟨rfl, hw⟩; subst w'))
          go_ret
          exact ⟨by simp, below_trans HB.out hB3⟩
      | m + 1, hm, HV, HT =>
        have ek : ((m + 1 : Nat) : Int) - 1 = (m : Int) := by omega
        rw [ek]
        have hkl : Hid (m < L.length) := by have := HN.out; show m < L.length; omega
        have hmN : (m : Int) < (N : Int) := by omega
        rcases ao with _ | ad
        · exact (rrow_none hrow hkl.out).elim
        obtain ⟨u, hu, d0⟩ := rowv hrow hR hkl.out
        have hu2 := hu
        obtain ⟨_, bd, cb, eu, _, _⟩ := hu2
        rw [eu] at hu d0
        clear eu u
        have d1 := (HB.out.cell (p := ad.add m) (cell_lt d0)).trans d0
        have eN : N - (m + 1) + 1 = N - m := by omega
        have hu' : RowV w L (N - 1 - (N - (m + 1))) (.slice (some bd) 16 cb) := by rw [show N - 1 - (N - (m + 1)) = m by omega]; exact hu
        have HT2 : Hid (RevAt w L N (N - m) (vs ++ [.slice (some bd) 16 cb])) := by show RevAt _ _ _ _ _; rw [← eN]; exact HT.out.snoc (by have := HV.out.1; omega) hu'
        have hBs := HB.out.size
        obtain ⟨k, hk⟩ : ∃ k, k = N - (m + 1) := ⟨_, rfl⟩
        rw [← hk] at HV eN
        have hk64 : k ≤ 64 := by omega
        clear hk d0 hu hu' HT c2 c3 c4
        go_wp2_with (at_builtin; refine wpList_append_own _ rfl _ _ 22 rfl w.heap.size 34 i1 (.slice none 0 0) 1 24 Try.underlying22 gi gz0 gz1 gz2 rfl (by decide) _ k vs rfl (HV.out.alloc _) ⟨wr.heap.size, 0, none⟩ 1 1 [.slice (some bd) 16 cb] rfl rfl one_cell (by simp [Value.oneCell']) (by unfold maxLen; omega) (by omega) (by simp; omega) ?_; intro v' w3 hown' hgrow _; have HO3 := hid hown'; have HB3 := hid (below_snoc HB.out (Nat.le_refl _) HV.out hgrow); clear hown' hgrow)
        go_roundw
        case rel => exact ⟨⟨m, vs ++ [.slice (some bd) 16 cb], rfl, by omega, by show World.ownsRow _ _ _ _ _ _ _; rw [← eN]; exact HO3.out, HT2⟩, HB3⟩
        case measure => show ((m : Int) - 1 + 1).toNat < ((m : Int) + 1).toNat; omega
  · have c1 := Open_bad ao cap L x c hc h0 ml w hrow
    have h1 : (c != 0) = true := by simpa using h0
    have h2 : (c == 0) = false := by simpa using h0
    generalize L.length = n at *
    clear hc hrow
    go_enter Try.func7, Try.ntmps7
    go_wp2_with (first
      | (go_at_call 12; refine c1.mono ?_; rintro e w1 ⟨rfl, hB1⟩)
      | (go_at_call 10; refine (cR _ hB1).mono ?_; rintro e w2 ⟨rfl, hw⟩; subst w2))
    go_ret
    exact ⟨by simp, hB1⟩

set_option maxRecDepth 100000 in
theorem lifted (os : Os) (started : os.Started) (H : Type) (enc : TypeId × Value → H) :
    ReturnsInHanded {} Try.checked os 7 .any (Rows.feistelTurnedSpec.pre6 enc Try.prog Try.f7 Rows.feistelTurnedRow.domain false) (Rows.feistelTurnedSpec.post enc Try.prog Try.f7 false true false false) := by
  refine returnsInHanded_of_change (C := Try.checked) own started (by kernel_rfl) Try.func7
    (ChangeSpec.witness6 (enc := enc) (C := Try.checked) false ⟨#[], #[.slice none 0 0, .int .i64 0], []⟩ 8 (by kernel_rfl) (by kernel_rfl) (by kernel_rfl) (by kernel_rfl)) ?_
  intro W base args ds gs before hval0 hW hcnd _
  have hval : ∀ (j : Nat) t v, Try.f7.params[j]? = some t → args[j]? = some v → Value.okWide Try.prog W .any base t v := hval0
  have hW' := hW
  obtain ⟨p, q, hA0, hV, rfl, _, _⟩ := hW
  have hA : DataW.TrodAll enc Try.prog W 0 (fun _ => true) true Try.f7.params.toList args.toList ds p := hA0
  rw [Try.params7] at hA hval
  obtain ⟨v0, v1, d0, d1, p0, p1, rfl, rfl, rfl, h0, h1⟩ := trodAll_two hA
  obtain ⟨rfl, rfl⟩ := trodVars_none hV
  have hsl0 := okWide_slice Try.underlying22 (hval 0 22 v0 rfl rfl)
  obtain ⟨a1, rfl, rfl, rfl, w1⟩ := open_int Try.underlying3 (hval 1 3 v1 rfl rfl) h1
  clear hA0 hval0
  simp only [List.append_nil] at hW'
  have hlt0 : ∀ x ∈ p0, x.block < W.heap.size := fun x hx => by simpa using hW'.lt x (by simp [hx])
  have harg0 : ∀ (W' : World), Below W.heap.size W W' → DataW.Trod enc Try.prog W' 0 (fun b => decide (b < W.heap.size)) true 22 v0 d0 p0 :=
    fun W' hn => Below.trod laidOut (by kernel_rfl) (of_decide_eq_true (by kernel_rfl)) h0 hn hlt0
  obtain ⟨o0, c0, l0, rfl, r0, k0, m0⟩ := rows_view Try.underlying22 cellsR Try.underlying34 cells3 Try.underlying3 h0 hsl0
  refine (walk o0 c0 l0 k0 m0 a1 w1 W r0).mono fun e W' ⟨he, hg⟩ => ?_
  subst he
  refine ⟨_, rfl, _, _, _, [], p0 ++ (([] : List MemPlace)), [], hW', ?_, ?_, rfl, hg.frame _, fun h => by cases h⟩
  · exact trodAll_mk1 (shut_bool Try.underlying4 true)
  · exact trodAll_mk2 (harg0 _ hg) (shut_int Try.underlying3 w1)

theorem over : Rows.feistelTurnedRow.holds Try.pinned (OpenSpec.ofChange Rows.feistelTurnedSpec) :=
  OpenClaim.holds_of_wide 7 Try.f7 rfl rfl rfl rfl rfl rfl rfl ⟨rfl, rfl, rfl, rfl, rfl⟩ rfl rfl rfl rfl rfl (by kernel_rfl) Try.func7 (by kernel_rfl)
    (of_decide_eq_true (by kernel_rfl)) (by unfold Func.isWrapper; first | (rw [if_pos (by decide +kernel)]; kernel_rfl) | (rw [if_neg (by decide +kernel)]; exact ⟨rfl, rfl⟩))
    (fun os started H enc _ => lifted os started H enc)

/-- ████ THE STATEMENT ████ -/
theorem proved : Rows.FeistelTurnedSaid :=
  over

end Go.Proofs.Ytngdhhhdnkkagaa.feistelTurned
