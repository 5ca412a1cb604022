/-
  SHANNON: a cipher that tells nothing and can be read has no fewer keys than messages.
-/
import Derived.Test.YtcdlbdicfldlaaaRows
import Derived.Test.YtcdlbdicfldlaaaCalls101
import Derived.WalkKit
import Derived.ProofKit
import Derived.OpenShut
import Derived.Carry
namespace Go.Proofs.Ytcdlbdicfldlaaa.padShannon
open Go.ChangeShapes Go.WideShapes Go.ChangeAt Go.RowKit Go.Deep Go.Proofs.Ytcdlbdicfldlaaa.Base Go.Proofs.Ytcdlbdicfldlaaa.Base2 Go.Proofs.Ytcdlbdicfldlaaa.Num16 Go.Proofs.Ytcdlbdicfldlaaa.Num17 Go.Proofs.Ytcdlbdicfldlaaa.Num34 Go.Proofs.Ytcdlbdicfldlaaa.Num40 Go.Proofs.Ytcdlbdicfldlaaa.Base4 Go.Proofs.Ytcdlbdicfldlaaa.Base5 Go.Proofs.Ytcdlbdicfldlaaa.Calls96 Go.Proofs.Ytcdlbdicfldlaaa.Calls97 Go.Proofs.Ytcdlbdicfldlaaa.Calls98 Go.Proofs.Ytcdlbdicfldlaaa.Calls99 Go.Proofs.Ytcdlbdicfldlaaa.Calls100 Go.Proofs.Ytcdlbdicfldlaaa.Calls101
set_option linter.unusedVariables false

theorem own : ownKnob Try.prog.godebug = none := by kernel_rfl

theorem laidOut : laidOutB Try.prog = true := by kernel_rfl

theorem cells2 : Try.prog.cellsOf 2 = 1 := by kernel_rfl

theorem cellsR : Try.prog.cellsOf 30 = 1 := by kernel_rfl

theorem cells3 : Try.prog.cellsOf 3 = 1 := by kernel_rfl

/-- The rows that Shannon's statement asks besides: one key, one message. -/
theorem one_ci : CiC [[0]] 0 := by
  refine .inr ⟨fun h => ?_, .inr ⟨fun h => ?_, .inr ⟨fun h => ?_, .inr ⟨fun h => ?_, rfl⟩⟩⟩⟩
  · rcases h with h | ⟨r, hr, h⟩
    · simp at h
    · have : r = [0] := by simpa using hr
      subst this; simp at h
  · rcases h with h | h
    · simp at h
    · simp [rw'] at h
  · obtain ⟨r, hr, h⟩ := h
    have : r = [0] := by simpa using hr
    subst this; exact h (by simp [rw'])
  · obtain ⟨r, hr, x, hx, h⟩ := h
    have : r = [0] := by simpa using hr
    subst this
    have : x = 0 := by simpa using hx
    omega

theorem one_perf : PerfIs (tb [[0]]) [[0]].length (rw' [[0]] 0).length := fun m hm x => by
  have : m = 0 := by simp [rw'] at hm; omega
  rw [this]

theorem one_row (w : World) (t t' : TypeId) : RRow ((w.alloc (.cells #[.int .i64 0] t)).alloc (.cells #[.slice (some ⟨w.heap.size, 0, none⟩) 1 1] t')) (some ⟨w.heap.size + 1, 0, none⟩) [[0]] := by
  have b0 := (BoxC.new w t #[.int .i64 0]).alloc (.cells #[.slice (some ⟨w.heap.size, 0, none⟩) 1 1] t')
  have b1 := BoxC.new (w.alloc (.cells #[.int .i64 0] t)) t' #[.slice (some ⟨w.heap.size, 0, none⟩) 1 1]
  rw [World.size_alloc] at b1
  refine ⟨fun e => (by cases e), fun ad e j hj => ?_⟩
  obtain rfl : (⟨w.heap.size + 1, 0, none⟩ : Addr) = ad := by simpa using e
  have hj0 : j = 0 := by simpa using hj
  subst hj0
  rw [zero_addr]
  refine ⟨some ⟨w.heap.size, 0, none⟩, 1, b1.cell 0, ⟨fun e => (by cases e), fun ad e j hj => ?_⟩, by simp [rw'], by simp [rw']⟩
  obtain rfl : (⟨w.heap.size, 0, none⟩ : Addr) = ad := by simpa using e
  have hj0 : j = 0 := by simpa [rw'] using hj
  subst hj0
  rw [zero_addr]
  exact b0.cell 0

set_option maxRecDepth 100000 in
set_option maxHeartbeats 1000000 in
theorem walk (ao : Option Addr) (cap : Nat) (L : List (List Int)) (kl : L.length ≤ cap) (ml : L.length ≤ 9223372036854775807) (w : World) (hrow : RRow w ao L) :
    Calls Try.prog 7 #[.slice ao L.length cap] w fun e w' => e = .returned (.bool true) ∧ Below w.heap.size w w' := by
  obtain ⟨c, hc⟩ := cic_ex L
  have cR := fun w' (hB : Below w.heap.size w w') => refCipher_any ao cap L c hc ml w' (rb hrow hB)
  by_cases h0 : c = 0
  · subst h0
    have hci := hc.ok
    have hK1 := hci.K1
    obtain ⟨b, hb⟩ := bool_of (PerfIs (tb L) L.length (rw' L 0).length)
    obtain ⟨b2, hb2⟩ := bool_of (PlainL L)
    have hS : b = true → b2 = true → (rw' L 0).length ≤ L.length := fun h1 h2 => by
      refine shannon hK1 (hb.1 h1) (fun k hk i j hi hj e => ?_)
      have := (twB_inj _).1 (hb2.1 h2 _ (rw_mem hk))
      exact this i j (by rw [hci.even k hk]; exact hi) (by rw [hci.even k hk]; exact hj) e
    have cP := Perfect_yes ao cap L hc b hb ml w hrow
    have cQ := fun w' (hB : Below w.heap.size w w') => Plain_yes ao cap L hc b2 hb2 ml w' (rb hrow hB)
    have cO := fun w' a (hr : RRow w' a [[0]]) => Perfect_yes a 1 [[0]] one_ci true ⟨fun _ => one_perf, fun _ => rfl⟩ (by simp) w' hr
    rcases ao with _ | ad
    · exact (rrow_none hrow (j := 0) (by omega)).elim
    have c0a : ∀ w', Below w.heap.size w w' → ∃ b0 cc0, w'.cell? ad = some (.slice b0 (rw' L 0).length cc0) := fun w' hB => by
      obtain ⟨b0, cc0, c0, _⟩ := (rb hrow hB).2 ad rfl 0 (by omega)
      rw [zero_addr] at c0
      exact ⟨b0, cc0, c0⟩
    have C0 := hid c0a
    generalize (rw' L 0).length = M at *
    generalize L.length = n at *
    have hM63 : n ≤ 9223372036854775807 := ml
    clear hc hrow hb hb2 hci c0a
    have hOne : ([[0]] : List (List Int)).length = 1 := rfl
    simp only [hOne] at cO
    cases b with
    | false =>
      go_enter Try.func7, Try.ntmps7
      go_wp2_with (first
        | (go_at_call 13; refine cP.mono ?_; rintro e w1 ⟨rfl, hB⟩; clear cP)
        | (go_at_call 11; refine (cQ _ hB).mono ?_; rintro e w2 ⟨rfl, hB2⟩; have hB12 := below_trans hB hB2)
        | (go_at_call 10; refine (cR _ hB12).mono ?_; rintro e w3 ⟨rfl, hw⟩; subst w3; have hr1 := hid (one_row w2 3 30))
        | (go_at_call 13; refine (cO _ _ hr1.out).mono ?_; rintro e w4 ⟨rfl, hB4⟩))
      go_ret
      exact ⟨rfl, below_trans hB12 (below_trans (((Below.refl _ _).alloc (Nat.le_refl _) _).alloc (by simp) _) hB4)⟩
    | true =>
      cases b2 with
      | false =>
        go_enter Try.func7, Try.ntmps7
        go_wp2_with (first
          | (go_at_call 13; refine cP.mono ?_; rintro e w1 ⟨rfl, hB⟩; clear cP)
          | (go_at_call 11; refine (cQ _ hB).mono ?_; rintro e w2 ⟨rfl, hB2⟩; have hB12 := below_trans hB hB2)
          | (go_at_call 10; refine (cR _ hB12).mono ?_; rintro e w3 ⟨rfl, hw⟩; subst w3; have hr1 := hid (one_row w2 3 30))
          | (go_at_call 13; refine (cO _ _ hr1.out).mono ?_; rintro e w4 ⟨rfl, hB4⟩))
        go_ret
        exact ⟨rfl, below_trans hB12 (below_trans (((Below.refl _ _).alloc (Nat.le_refl _) _).alloc (by simp) _) hB4)⟩
      | true =>
        have hMK : M ≤ n := hS rfl rfl
        have hMK' : (M : Int) ≤ (n : Int) := by omega
        have hn0 : (0 : Int) < (n : Int) := by omega
        clear hS
        go_enter Try.func7, Try.ntmps7
        go_wp2_with (first
          | (go_at_call 13; refine cP.mono ?_; rintro e w1 ⟨rfl, hB⟩; clear cP)
          | (go_at_call 11; refine (cQ _ hB).mono ?_; rintro e w2 ⟨rfl, hB2⟩; have hB12 := below_trans hB hB2)
          | (go_at_call 10; refine (cR _ hB12).mono ?_; rintro e w3 ⟨rfl, hw⟩; subst w3; have hr1 := hid (one_row w2 3 30))
          | (go_at_call 13; refine (cO _ _ hr1.out).mono ?_; rintro e w4 ⟨rfl, hB4⟩; have hB14 := below_trans hB12 (below_trans (((Below.refl _ _).alloc (Nat.le_refl _) _).alloc (by simp) _) hB4); obtain ⟨b0, cc0, d0⟩ := C0.out w4 hB14))
        go_ret
        exact ⟨rfl, hB14⟩
  · have cP := Perfect_bad ao cap L c hc h0 ml w hrow
    have cQ := fun w' (hB : Below w.heap.size w w') => Plain_bad ao cap L c hc h0 ml w' (rb hrow hB)
    have h1 : (c != 0) = true := by simpa using h0
    have h2 : (c == 0) = false := by simpa using h0
    generalize L.length = n at *
    clear hc hrow
    go_enter Try.func7, Try.ntmps7
    go_wp2_with (first
      | (go_at_call 13; refine cP.mono ?_; rintro e w1 ⟨rfl, hB⟩)
      | (go_at_call 11; refine (cQ _ hB).mono ?_; rintro e w2 ⟨rfl, hB2⟩; have hB12 := below_trans hB hB2)
      | (go_at_call 10; refine (cR _ hB12).mono ?_; rintro e w3 ⟨rfl, hw⟩; subst w3))
    go_ret
    exact ⟨by simp, hB12⟩

set_option maxRecDepth 100000 in
theorem lifted (os : Os) (started : os.Started) (H : Type) (enc : TypeId × Value → H) :
    ReturnsInHanded {} Try.checked os 7 .any (Rows.padShannonSpec.pre6 enc Try.prog Try.f7 Rows.padShannonRow.domain false) (Rows.padShannonSpec.post enc Try.prog Try.f7 false true false false) := by
  refine returnsInHanded_of_change (C := Try.checked) own started (by kernel_rfl) Try.func7
    (ChangeSpec.witness6 (enc := enc) (C := Try.checked) false ⟨#[], #[.slice none 0 0], []⟩ 8 (by kernel_rfl) (by kernel_rfl) (by kernel_rfl) (by kernel_rfl)) ?_
  intro W base args ds gs before hval0 hW hcnd _
  have hval : ∀ (j : Nat) t v, Try.f7.params[j]? = some t → args[j]? = some v → Value.okWide Try.prog W .any base t v := hval0
  have hW' := hW
  obtain ⟨p0, q, hA0, hV, rfl, _, _⟩ := hW
  have hA : DataW.TrodAll enc Try.prog W 0 (fun _ => true) true Try.f7.params.toList args.toList ds p0 := hA0
  rw [Try.params7] at hA hval
  obtain ⟨v0, d0, rfl, rfl, h0⟩ := trodAll_one hA
  obtain ⟨rfl, rfl⟩ := trodVars_none hV
  have hsl0 := okWide_slice Try.underlying22 (hval 0 22 v0 rfl rfl)
  clear hA0 hval0
  simp only [List.append_nil] at hW'
  have hlt0 : ∀ x ∈ p0, x.block < W.heap.size := fun x hx => by simpa using hW'.lt x (by simp [hx])
  have harg0 : ∀ (W' : World), Below W.heap.size W W' → DataW.Trod enc Try.prog W' 0 (fun b => decide (b < W.heap.size)) true 22 v0 d0 p0 :=
    fun W' hn => Below.trod laidOut (by kernel_rfl) (of_decide_eq_true (by kernel_rfl)) h0 hn hlt0
  obtain ⟨o0, c0, l0, rfl, r0, k0, m0⟩ := rows_view Try.underlying22 cellsR Try.underlying30 cells3 Try.underlying3 h0 hsl0
  refine (walk o0 c0 l0 k0 m0 W r0).mono fun e W' ⟨he, hg⟩ => ?_
  subst he
  refine ⟨_, rfl, _, _, _, [], p0, [], hW', ?_, ?_, rfl, hg.frame _, fun h => by cases h⟩
  · exact trodAll_mk1 (shut_bool Try.underlying4 true)
  · exact trodAll_mk1 (harg0 _ hg)

theorem over : Rows.padShannonRow.holds Try.pinned (OpenSpec.ofChange Rows.padShannonSpec) :=
  OpenClaim.holds_of_wide 7 Try.f7 rfl rfl rfl rfl rfl rfl rfl ⟨rfl, rfl, rfl, rfl, rfl⟩ rfl rfl rfl rfl rfl (by kernel_rfl) Try.func7 (by kernel_rfl)
    (of_decide_eq_true (by kernel_rfl)) (by unfold Func.isWrapper; first | (rw [if_pos (by decide +kernel)]; kernel_rfl) | (rw [if_neg (by decide +kernel)]; exact ⟨rfl, rfl⟩))
    (fun os started H enc _ => lifted os started H enc)

/-- ████ THE STATEMENT ████ -/
theorem proved : Rows.PadShannonSaid :=
  over

end Go.Proofs.Ytcdlbdicfldlaaa.padShannon
