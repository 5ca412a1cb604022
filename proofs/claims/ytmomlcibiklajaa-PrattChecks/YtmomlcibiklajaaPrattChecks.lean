/-
  For any lines the program tells whether they hold: with no condition.
-/
import Derived.Test.YtmomlcibiklajaaRows
import Derived.Test.YtmomlcibiklajaaCalls38
import Derived.Test.YtmomlcibiklajaaCalls39
import Derived.Test.YtmomlcibiklajaaCalls40
import Derived.WalkKit
import Derived.ProofKit
import Derived.OpenShut
namespace Go.Proofs.Ytmomlcibiklajaa.prattChecks
open Go.ChangeShapes Go.WideShapes Go.ChangeAt Go.RowKit Go.Deep Go.Proofs.Ytmomlcibiklajaa.Base Go.Proofs.Ytmomlcibiklajaa.Num31 Go.Proofs.Ytmomlcibiklajaa.Calls35 Go.Proofs.Ytmomlcibiklajaa.Calls36 Go.Proofs.Ytmomlcibiklajaa.Calls38 Go.Proofs.Ytmomlcibiklajaa.Calls39 Go.Proofs.Ytmomlcibiklajaa.Calls40
set_option linter.unusedVariables false

theorem own : ownKnob Try.prog.godebug = none := by kernel_rfl

theorem laidOut : laidOutB Try.prog = true := by kernel_rfl

theorem cellsL : Try.prog.cellsOf 36 = 3 := by kernel_rfl

theorem cells2 : Try.prog.cellsOf 2 = 1 := by kernel_rfl

theorem cells3 : Try.prog.cellsOf 3 = 1 := by kernel_rfl

theorem cellsI : Try.prog.cellsOf 34 = 1 := by kernel_rfl

theorem walk_large (bo : Option Addr) (cb n : Nat) (hl : 64 < n) (w : World) :
    Calls Try.prog 3 #[.slice bo n cb] w fun e w' => e = .returned (.bool true) ∧ Below w.heap.size w w' := by
  have cC := fun w => Check_large bo cb n hl w
  have hl' : (64 : Int) < (n : Int) := by omega
  go_enter Try.func3, Try.ntmps3
  go_wp2_with (go_at_call 7; refine (cC _).mono ?_; rintro e w1 ⟨rfl, hw⟩; subst w1)
  go_ret
  exact ⟨rfl, Below.refl _ _⟩

set_option maxRecDepth 100000 in
theorem walk_in (bo : Option Addr) (cb : Nat) (ls : List Ln) (hcb : ls.length ≤ cb) (hl : ls.length ≤ 64) (w : World) (hrow : LRow w bo ls) :
    Calls Try.prog 3 #[.slice bo ls.length cb] w fun e w' => e = .returned (.bool true) ∧ Below w.heap.size w w' := by
  have cC := Check_any bo cb ls hl hcb w hrow
  have cH := fun i (hi : i < ls.length) W (hB : Below w.heap.size w W) => refHolds_any bo cb ls i hi (by omega) W (lrow_below hrow hB (Nat.le_refl _))
  obtain ⟨n, hn⟩ : ∃ n, n = ls.length := ⟨_, rfl⟩
  have HN : Hid (n = ls.length) := hn
  have HH := hid cH
  rw [← hn] at hl cC HH ⊢
  clear hn hrow hcb cH
  go_enter Try.func3, Try.ntmps3
  go_wp2_with (go_at_call 7; refine cC.mono ?_; rintro e w1 ⟨⟨b, hb, rfl⟩, hB1⟩; have HB := hid hb; clear hb)
  go_loopw [5, 6] (fun v i wr => ∃ (c : Bool) (k : Nat), v = .bool c ∧ i = .int .i64 (k : Int) ∧ k ≤ n ∧ Hid (c = true → ∀ j, j < k → Hold (ls.take j) (ls.getD j Ln0)) ∧ Hid (c = false → ¬ AllHold ls) ∧ Below w.heap.size w wr) (fun v i wr => ((n : Int) - intOf i).toNat)
  case atStart => exact ⟨true, 0, rfl, rfl, by omega, fun _ j hj => by omega, fun h => (by cases h), hB1⟩
  case round =>
    obtain ⟨c, k, rfl, rfl, hk, hy, hno, hBr⟩ := hrel
    cases c with
    | true =>
      by_cases hgo : k < n
      · have hgo' : (k : Int) < (n : Int) := by omega
        have c1 := hid (HH.out k hgo wr hBr)
        go_wp2_with (go_at_call 8; refine c1.out.mono ?_; rintro e w2 ⟨⟨b2, hb2, rfl⟩, hB2⟩; have HB2 := hid hb2; clear hb2)
        go_roundw
        case rel =>
          refine ⟨b2, k + 1, rfl, by simp, by omega, fun h j hj => ?_, fun h hall => ?_, below_trans hBr hB2⟩
          · by_cases e : j = k
            · subst e; exact HB2.out.1 h
            · exact hy.out trivial j (by omega)
          · have := HB2.out.2 (hall k (by have := HN.out; omega))
            rw [h] at this; cases this
        case measure => exact measK hgo
      · have hgo' : ¬ (k : Int) < (n : Int) := by omega
        have hbt : Hid (b = true) := HB.out.2 (fun j hj => hy.out rfl j (by have := HN.out; omega))
        obtain rfl : b = true := hbt.out
        go_wp2
        go_ret
        exact ⟨rfl, hBr⟩
    | false =>
      have hbf : Hid (b = false) := by
        show b = false
        cases hbb : b with
        | false => rfl
        | true => exact absurd (HB.out.1 hbb) (hno.out rfl)
      obtain rfl : b = false := hbf.out
      go_wp2
      all_goals (go_ret; exact ⟨rfl, hBr⟩)

theorem walk (bo : Option Addr) (cb : Nat) (ls : List Ln) (hcb : ls.length ≤ cb) (hl : ls.length ≤ 9223372036854775807) (w : World) (hrow : LRow w bo ls) :
    Calls Try.prog 3 #[.slice bo ls.length cb] w fun e w' => e = .returned (.bool true) ∧ Below w.heap.size w w' := by
  by_cases h : ls.length ≤ 64
  · exact walk_in bo cb ls hcb h w hrow
  · exact walk_large bo cb ls.length (by omega) w

set_option maxRecDepth 100000 in
theorem lifted (os : Os) (started : os.Started) (H : Type) (enc : TypeId × Value → H) :
    ReturnsInHanded {} Try.checked os 3 .any (Rows.prattChecksSpec.pre6 enc Try.prog Try.f3 Rows.prattChecksRow.domain false) (Rows.prattChecksSpec.post enc Try.prog Try.f3 false true false false) := by
  refine returnsInHanded_of_change (C := Try.checked) own started (by kernel_rfl) Try.func3
    (ChangeSpec.witness6 (enc := enc) (C := Try.checked) false ⟨#[], #[.slice none 0 0], []⟩ 8 (by kernel_rfl) (by kernel_rfl) (by kernel_rfl) (by kernel_rfl)) ?_
  intro W base args ds gs before hval0 hW hcnd _
  have hval : ∀ (j : Nat) t v, Try.f3.params[j]? = some t → args[j]? = some v → Value.okWide Try.prog W .any base t v := hval0
  have hW' := hW
  obtain ⟨p, q, hA0, hV, rfl, _, _⟩ := hW
  have hA : DataW.TrodAll enc Try.prog W 0 (fun _ => true) true Try.f3.params.toList args.toList ds p := hA0
  rw [Try.params3] at hA hval
  obtain ⟨v1, d1, rfl, rfl, h1⟩ := trodAll_one hA
  obtain ⟨rfl, rfl⟩ := trodVars_none hV
  have hsl := okWide_slice Try.underlying22 (hval 0 22 v1 rfl rfl)
  clear hA0 hval0
  simp only [List.append_nil] at hW'
  have hlt : ∀ x ∈ p, x.block < W.heap.size := fun x hx => by simpa using hW'.lt x (by simpa using hx)
  have harg1 : ∀ (W' : World), Below W.heap.size W W' → DataW.Trod enc Try.prog W' 0 (fun b => decide (b < W.heap.size)) true 22 v1 d1 p :=
    fun W' hn => Below.trod laidOut (by kernel_rfl) (of_decide_eq_true (by kernel_rfl)) h1 hn hlt
  obtain ⟨bo, cb, l, rfl, hrow, hcb, hl⟩ := lines_view (fun _ => rfl) Try.underlying22 Try.underlying36 cellsL rfl rfl rfl cells2 cells2 cellsI Try.underlying2 Try.underlying2 Try.underlying34 cells3 Try.underlying3 h1 hsl
  refine (walk bo cb l hcb hl W hrow).mono fun e W' ⟨he, hg⟩ => ?_
  subst he
  refine ⟨_, rfl, _, _, _, [], p, [], hW', ?_, ?_, rfl, hg.frame _, fun h => by cases h⟩
  · exact trodAll_mk1 (shut_bool Try.underlying4 true)
  · exact trodAll_mk1 (harg1 _ hg)

theorem over : Rows.prattChecksRow.holds Try.pinned (OpenSpec.ofChange Rows.prattChecksSpec) :=
  OpenClaim.holds_of_wide 3 Try.f3 rfl rfl rfl rfl rfl rfl rfl ⟨rfl, rfl, rfl, rfl, rfl⟩ rfl rfl rfl rfl rfl (by kernel_rfl) Try.func3 (by kernel_rfl)
    (of_decide_eq_true (by kernel_rfl)) (by unfold Func.isWrapper; first | (rw [if_pos (by decide +kernel)]; kernel_rfl) | (rw [if_neg (by decide +kernel)]; exact ⟨rfl, rfl⟩))
    (fun os started H enc _ => lifted os started H enc)

/-- ████ THE STATEMENT ████ -/
theorem proved : Rows.PrattChecksSaid :=
  over

end Go.Proofs.Ytmomlcibiklajaa.prattChecks
