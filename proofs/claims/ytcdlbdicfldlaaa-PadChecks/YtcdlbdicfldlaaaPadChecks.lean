/-
  For any rows package pad tells what is wrong with the cipher.
-/
import Derived.Test.YtcdlbdicfldlaaaRows
import Derived.Test.YtcdlbdicfldlaaaCalls98
import Derived.Test.YtcdlbdicfldlaaaCalls100
import Derived.WalkKit
import Derived.ProofKit
import Derived.OpenShut
import Derived.Carry
namespace Go.Proofs.Ytcdlbdicfldlaaa.padChecks
open Go.ChangeShapes Go.WideShapes Go.ChangeAt Go.RowKit Go.Deep Go.Proofs.Ytcdlbdicfldlaaa.Base Go.Proofs.Ytcdlbdicfldlaaa.Base2 Go.Proofs.Ytcdlbdicfldlaaa.Num16 Go.Proofs.Ytcdlbdicfldlaaa.Num17 Go.Proofs.Ytcdlbdicfldlaaa.Num34 Go.Proofs.Ytcdlbdicfldlaaa.Num40 Go.Proofs.Ytcdlbdicfldlaaa.Base4 Go.Proofs.Ytcdlbdicfldlaaa.Base5 Go.Proofs.Ytcdlbdicfldlaaa.Calls96 Go.Proofs.Ytcdlbdicfldlaaa.Calls97 Go.Proofs.Ytcdlbdicfldlaaa.Calls98 Go.Proofs.Ytcdlbdicfldlaaa.Calls99 Go.Proofs.Ytcdlbdicfldlaaa.Calls100
set_option linter.unusedVariables false

theorem own : ownKnob Try.prog.godebug = none := by kernel_rfl

theorem laidOut : laidOutB Try.prog = true := by kernel_rfl

theorem cells2 : Try.prog.cellsOf 2 = 1 := by kernel_rfl

theorem cellsR : Try.prog.cellsOf 30 = 1 := by kernel_rfl

theorem cells3 : Try.prog.cellsOf 3 = 1 := by kernel_rfl

set_option maxRecDepth 100000 in
theorem walk (ao : Option Addr) (cap : Nat) (L : List (List Int)) (kl : L.length ≤ cap) (ml : L.length ≤ 9223372036854775807) (w : World) (hrow : RRow w ao L) :
    Calls Try.prog 3 #[.slice ao L.length cap] w fun e w' => e = .returned (.bool true) ∧ Below w.heap.size w w' := by
  obtain ⟨c, hc⟩ := cic_ex L
  have cK := check_any ao cap L c hc ml w hrow
  have cR := fun w' (hB : Below w.heap.size w w') => refCipher_any ao cap L c hc ml w' (rb hrow hB)
  generalize L.length = n at *
  clear hc hrow
  go_enter Try.func3, Try.ntmps3
  go_wp2_with (first
    | (go_at_call 9; refine cK.mono ?_; rintro e w1 ⟨rfl, hB⟩)
    | (go_at_call 10; refine (cR _ hB).mono ?_; rintro e w2 ⟨rfl, hw⟩; subst w2))
  go_ret
  exact ⟨by simp, hB⟩

set_option maxRecDepth 100000 in
theorem lifted (os : Os) (started : os.Started) (H : Type) (enc : TypeId × Value → H) :
    ReturnsInHanded {} Try.checked os 3 .any (Rows.padChecksSpec.pre6 enc Try.prog Try.f3 Rows.padChecksRow.domain false) (Rows.padChecksSpec.post enc Try.prog Try.f3 false true false false) := by
  refine returnsInHanded_of_change (C := Try.checked) own started (by kernel_rfl) Try.func3
    (ChangeSpec.witness6 (enc := enc) (C := Try.checked) false ⟨#[], #[.slice none 0 0], []⟩ 8 (by kernel_rfl) (by kernel_rfl) (by kernel_rfl) (by kernel_rfl)) ?_
  intro W base args ds gs before hval0 hW hcnd _
  have hval : ∀ (j : Nat) t v, Try.f3.params[j]? = some t → args[j]? = some v → Value.okWide Try.prog W .any base t v := hval0
  have hW' := hW
  obtain ⟨p0, q, hA0, hV, rfl, _, _⟩ := hW
  have hA : DataW.TrodAll enc Try.prog W 0 (fun _ => true) true Try.f3.params.toList args.toList ds p0 := hA0
  rw [Try.params3] at hA hval
  obtain ⟨v0, d0, rfl, rfl, h0⟩ := trodAll_one hA
  obtain ⟨rfl, rfl⟩ := trodVars_none hV
  have hsl0 := okWide_slice Try.underlying22 (hval 0 22 v0 rfl rfl)
  clear hA0 hval0
  simp only [List.append_nil] at hW'
  have hlt0 : ∀ x ∈ p0, x.block < W.heap.size := fun x hx => by simpa using hW'.lt x (by simp [hx])
  have harg0 : ∀ (W' : World), Below W.heap.size W W' → DataW.Trod enc Try.prog W' 0 (fun b => decide (b < W.heap.size)) true 22 v0 d0 p0 :=
    fun W' hn => Below.trod laidOut (by kernel_rfl) (of_decide_eq_true (by kernel_rfl)) h0 hn hlt0
  obtain ⟨o0, c0, l0, rfl, r0, k0, m0⟩ := rows_view Try.underlying22 cellsR Try.underlying30 cells3 Try.underlying3 h0 hsl0
  refine (walk o0 c0 l0 k0 m0 W r0).mono fun e W' ⟨he, hg⟩ => ?_
  subst he
  refine ⟨_, rfl, _, _, _, [], p0, [], hW', ?_, ?_, rfl, hg.frame _, fun h => by cases h⟩
  · exact trodAll_mk1 (shut_bool Try.underlying4 true)
  · exact trodAll_mk1 (harg0 _ hg)

theorem over : Rows.padChecksRow.holds Try.pinned (OpenSpec.ofChange Rows.padChecksSpec) :=
  OpenClaim.holds_of_wide 3 Try.f3 rfl rfl rfl rfl rfl rfl rfl ⟨rfl, rfl, rfl, rfl, rfl⟩ rfl rfl rfl rfl rfl (by kernel_rfl) Try.func3 (by kernel_rfl)
    (of_decide_eq_true (by kernel_rfl)) (by unfold Func.isWrapper; first | (rw [if_pos (by decide +kernel)]; kernel_rfl) | (rw [if_neg (by decide +kernel)]; exact ⟨rfl, rfl⟩))
    (fun os started H enc _ => lifted os started H enc)

/-- ████ THE STATEMENT ████ -/
theorem proved : Rows.PadChecksSaid :=
  over

end Go.Proofs.Ytcdlbdicfldlaaa.padChecks
