/-
  For any text: package hash's Sum answers what the document's way makes of its bytes and its length, or that it is too long: at every input.
-/
import Derived.Test.YtpmdfiebcaifmaaRows
import Derived.Test.YtpmdfiebcaifmaaCalls132
import Derived.WalkKit
import Derived.ProofKit
import Derived.OpenShut
import Derived.Carry
namespace Go.Proofs.Ytpmdfiebcaifmaa.hashSums
open Go.ChangeShapes Go.WideShapes Go.ChangeAt Go.RowKit Go.Deep Go.Proofs.Ytpmdfiebcaifmaa.Base Go.Proofs.Ytpmdfiebcaifmaa.Base2 Go.Proofs.Ytpmdfiebcaifmaa.Base7 Go.Proofs.Ytpmdfiebcaifmaa.Base8 Go.Proofs.Ytpmdfiebcaifmaa.Num55 Go.Proofs.Ytpmdfiebcaifmaa.Calls125 Go.Proofs.Ytpmdfiebcaifmaa.Calls126 Go.Proofs.Ytpmdfiebcaifmaa.Calls127 Go.Proofs.Ytpmdfiebcaifmaa.Calls128 Go.Proofs.Ytpmdfiebcaifmaa.Calls129 Go.Proofs.Ytpmdfiebcaifmaa.Calls130 Go.Proofs.Ytpmdfiebcaifmaa.Calls131 Go.Proofs.Ytpmdfiebcaifmaa.Calls132
set_option linter.unusedVariables false

theorem own : ownKnob Try.prog.godebug = none := by kernel_rfl

theorem laidOut : laidOutB Try.prog = true := by kernel_rfl

theorem cells2 : Try.prog.cellsOf 2 = 1 := by kernel_rfl

theorem cells8 : Try.prog.cellsOf 5 = 1 := by kernel_rfl

set_option maxRecDepth 100000 in
set_option maxHeartbeats 1000000 in
theorem walk (o : Option Addr) (c : Nat) (l : List Nat) (hb : ∀ b ∈ l, b < 256) (k : l.length ≤ c) (m : l.length ≤ 9223372036854775807) (w : World) (r : YRow w o l) :
    Calls Try.prog 4 #[.slice o l.length c] w fun e w' => e = .returned (.bool true) ∧ Below w.heap.size w w' := by
  by_cases hl : 4096 < l.length
  · have cA := Sum_large o l.length c hl w
    have hl' : (4096 : Int) < (l.length : Int) := by omega
    generalize l.length = n at *
    go_enter Try.func4, Try.ntmps4
    go_wp2_with (go_at_call 11; refine cA.mono ?_; rintro e w1 ⟨rfl, hw⟩; subst w1)
    go_ret
    exact ⟨rfl, Below.refl _ _⟩
  · have cA := Sum_any o c l (by omega) hb w r
    have cB := hid (fun (w' : World) (h : Below w.heap.size w w') => refSum_any o c l (by omega) hb w' (yb' r h))
    have hs := sum_lt l
    have hl' : ¬ (4096 : Int) < (l.length : Int) := by omega
    clear r hb
    generalize sum l = s at *
    generalize l.length = n at *
    go_enter Try.func4, Try.ntmps4
    go_wp2_with (first
      | (go_at_call 11; refine cA.mono ?_; rintro e w1 ⟨rfl, hB1⟩; have HB1 := hid hB1; clear hB1)
      | (go_at_call 12; refine (cB.out _ HB1.out).mono ?_; rintro e w2 ⟨rfl, hB2⟩; have HB2 := hid (below_trans HB1.out hB2); clear hB2))
    go_ret
    exact ⟨rfl, HB2.out⟩

set_option maxRecDepth 100000 in
theorem lifted (os : Os) (started : os.Started) (H : Type) (enc : TypeId × Value → H) :
    ReturnsInHanded {} Try.checked os 4 .any (Rows.hashSumsSpec.pre6 enc Try.prog Try.f4 Rows.hashSumsRow.domain false) (Rows.hashSumsSpec.post enc Try.prog Try.f4 false true false false) := by
  refine returnsInHanded_of_change (C := Try.checked) own started (by kernel_rfl) Try.func4
    (ChangeSpec.witness6 (enc := enc) (C := Try.checked) false ⟨#[], #[.slice none 0 0], []⟩ 8 (by kernel_rfl) (by kernel_rfl) (by kernel_rfl) (by kernel_rfl)) ?_
  intro W base args ds gs before hval0 hW hcnd _
  have hval : ∀ (j : Nat) t v, Try.f4.params[j]? = some t → args[j]? = some v → Value.okWide Try.prog W .any base t v := hval0
  have hW' := hW
  obtain ⟨p0, q, hA0, hV, rfl, _, _⟩ := hW
  have hA : DataW.TrodAll enc Try.prog W 0 (fun _ => true) true Try.f4.params.toList args.toList ds p0 := hA0
  rw [Try.params4] at hA hval
  obtain ⟨v0, d0, rfl, rfl, h0⟩ := trodAll_one hA
  obtain ⟨rfl, rfl⟩ := trodVars_none hV
  have hsl0 := okWide_slice Try.underlying26 (hval 0 26 v0 rfl rfl)
  clear hA0 hval0
  simp only [List.append_nil] at hW'
  have hlt0 : ∀ x ∈ p0, x.block < W.heap.size := fun x hx => by simpa using hW'.lt x (by simp [hx])
  have harg0 : ∀ (W' : World), Below W.heap.size W W' → DataW.Trod enc Try.prog W' 0 (fun b => decide (b < W.heap.size)) true 26 v0 d0 p0 :=
    fun W' hn => Below.trod laidOut (by kernel_rfl) (of_decide_eq_true (by kernel_rfl)) h0 hn hlt0
  obtain ⟨o0, c0, l0, rfl, r0, b0, k0, m0⟩ := bytes_view Try.underlying26 cells8 Try.underlying5 h0 hsl0
  refine (walk o0 c0 l0 b0 k0 m0 W r0).mono fun e W' ⟨he, hg⟩ => ?_
  subst he
  refine ⟨_, rfl, _, _, _, [], p0, [], hW', ?_, ?_, rfl, hg.frame _, fun h => by cases h⟩
  · exact trodAll_mk1 (shut_bool Try.underlying4 true)
  · exact trodAll_mk1 (harg0 _ hg)

theorem over : Rows.hashSumsRow.holds Try.pinned (OpenSpec.ofChange Rows.hashSumsSpec) :=
  OpenClaim.holds_of_wide 4 Try.f4 rfl rfl rfl rfl rfl rfl rfl ⟨rfl, rfl, rfl, rfl, rfl⟩ rfl rfl rfl rfl rfl (by kernel_rfl) Try.func4 (by kernel_rfl)
    (of_decide_eq_true (by kernel_rfl)) (by unfold Func.isWrapper; first | (rw [if_pos (by decide +kernel)]; kernel_rfl) | (rw [if_neg (by decide +kernel)]; exact ⟨rfl, rfl⟩))
    (fun os started H enc _ => lifted os started H enc)

/-- ████ THE STATEMENT ████ -/
theorem proved : Rows.HashSumsSaid :=
  over

end Go.Proofs.Ytpmdfiebcaifmaa.hashSums
