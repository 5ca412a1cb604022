/-
  For any lines that hold: all their numbers are primes: with no condition.
-/
import Derived.Test.YtmomlcibiklajaaRows
import Derived.Test.YtmomlcibiklajaaCalls38
import Derived.Test.YtmomlcibiklajaaCalls40
import Derived.WalkKit
import Derived.ProofKit
import Derived.OpenShut
namespace Go.Proofs.Ytmomlcibiklajaa.prattProves
open Go.ChangeShapes Go.WideShapes Go.ChangeAt Go.RowKit Go.Deep Go.Proofs.Ytmomlcibiklajaa.Base Go.Proofs.Ytmomlcibiklajaa.Num31 Go.Proofs.Ytmomlcibiklajaa.Calls35 Go.Proofs.Ytmomlcibiklajaa.Calls36 Go.Proofs.Ytmomlcibiklajaa.Calls38 Go.Proofs.Ytmomlcibiklajaa.Calls40
open Go.Proofs.Ytmomlcibiklajaa.Calls9 (refIs_any prB_iff)
set_option linter.unusedVariables false

theorem own : ownKnob Try.prog.godebug = none := by kernel_rfl

theorem laidOut : laidOutB Try.prog = true := by kernel_rfl

theorem cellsL : Try.prog.cellsOf 36 = 3 := by kernel_rfl

theorem cells2 : Try.prog.cellsOf 2 = 1 := by kernel_rfl

theorem cells3 : Try.prog.cellsOf 3 = 1 := by kernel_rfl

theorem cellsI : Try.prog.cellsOf 34 = 1 := by kernel_rfl

theorem walk_large (bo : Option Addr) (cb n : Nat) (hl : 64 < n) (w : World) :
    Calls Try.prog 5 #[.slice bo n cb] w fun e w' => e = .returned (.bool true) ∧ Below w.heap.size w w' := by
  have cC := fun w => Check_large bo cb n hl w
  have hl' : (64 : Int) < (n : Int) := by omega
  go_enter Try.func5, Try.ntmps5
  go_wp2_with (go_at_call 7; refine (cC _).mono ?_; rintro e w1 ⟨rfl, hw⟩; subst w1)
  go_ret
  exact ⟨rfl, Below.refl _ _⟩

theorem Check_nil (w : World) : Calls Try.prog 7 #[.slice none 0 0] w fun e w' => e = .returned (.tuple #[.bool true, .int .i64 0]) ∧ Below w.heap.size w w' := by
  refine (Check_any none 0 [] (by simp) (by simp) w ⟨fun _ => rfl, fun ad e => (by cases e)⟩).mono fun e w' ⟨⟨b, hb, he⟩, h⟩ => ⟨?_, h⟩
  rw [he, hb.2 (fun i hi => by simp at hi)]

set_option maxRecDepth 100000 in
theorem walk_in (bo : Option Addr) (cb : Nat) (ls : List Ln) (hcb : ls.length ≤ cb) (hl : ls.length ≤ 64) (w : World) (hrow : LRow w bo ls) :
    Calls Try.prog 5 #[.slice bo ls.length cb] w fun e w' => e = .returned (.bool true) ∧ Below w.heap.size w w' := by
  have cC := Check_any bo cb ls hl hcb w hrow
  have cN := fun w => Check_nil w
  obtain ⟨n, hn⟩ : ∃ n, n = ls.length := ⟨_, rfl⟩
  have HN : Hid (n = ls.length) := hn
  rw [← hn] at hl cC ⊢
  clear hn hcb
  go_enter Try.func5, Try.ntmps5
  go_wp2_with (first
    | (go_at_call 7; have _t := cC; refine cC.mono ?_; rintro e w1 ⟨⟨b, hb, rfl⟩, hB1⟩; have HB := hid hb; clear hb cC)
    | (go_at_call 7; refine (cN _).mono ?_; rintro e w2 ⟨rfl, hB2⟩))
  go_loopw [35] (fun i wr => ∃ k : Nat, i = .int .i64 (k : Int) ∧ k ≤ n ∧ Below w.heap.size w wr) (fun i wr => ((n : Int) - intOf i).toNat)
  case atStart => exact ⟨0, rfl, by omega, below_trans hB1 hB2⟩
  case round =>
    obtain ⟨k, rfl, hk, hBr⟩ := hrel
    by_cases hgo : k < n
    · have hgo' : (k : Int) < (n : Int) := by omega
      have hkl : Hid (k < ls.length) := by have := HN.out; show k < ls.length; omega
      rcases bo with _ | ad
      · exact (lrow_none hrow hkl.out).elim
      · obtain ⟨c1, c2, fo, cf, c3, hrF, hFl⟩ := (lrow_below hrow hBr (Nat.le_refl _)).2 ad rfl k hkl.out
        clear hrF hFl
        cases b with
        | false =>
          go_wp2
          go_roundw
          case rel => exact ⟨k + 1, by simp, by omega, hBr.alloc hBr.size _⟩
          case measure => exact measK hgo
        | true =>
          obtain ⟨p, hp1, hp2, hp3⟩ := AllHold.pr (HB.out.1 rfl) k hkl.out
          rw [hp1] at c1
          have cI := fun w => refIs_any p (by omega) w
          rw [(prB_iff p).2 hp2] at cI
          clear hp1 hp2
          go_wp2_with (go_at_call 11; refine (cI _).mono ?_; rintro e w3 ⟨rfl, hw⟩; subst w3)
          go_roundw
          case rel => exact ⟨k + 1, by simp, by omega, hBr.alloc hBr.size _⟩
          case measure => exact measK hgo
    · have hgo' : ¬ (k : Int) < (n : Int) := by omega
      go_wp2
      go_ret
      exact ⟨rfl, hBr⟩

theorem walk (bo : Option Addr) (cb : Nat) (ls : List Ln) (hcb : ls.length ≤ cb) (hl : ls.length ≤ 9223372036854775807) (w : World) (hrow : LRow w bo ls) :
    Calls Try.prog 5 #[.slice bo ls.length cb] w fun e w' => e = .returned (.bool true) ∧ Below w.heap.size w w' := by
  by_cases h : ls.length ≤ 64
  · exact walk_in bo cb ls hcb h w hrow
  · exact walk_large bo cb ls.length (by omega) w

set_option maxRecDepth 100000 in
theorem lifted (os : Os) (started : os.Started) (H : Type) (enc : TypeId × Value → H) :
    ReturnsInHanded {} Try.checked os 5 .any (Rows.prattProvesSpec.pre6 enc Try.prog Try.f5 Rows.prattProvesRow.domain false) (Rows.prattProvesSpec.post enc Try.prog Try.f5 false true false false) := by
  refine returnsInHanded_of_change (C := Try.checked) own started (by kernel_rfl) Try.func5
    (ChangeSpec.witness6 (enc := enc) (C := Try.checked) false ⟨#[], #[.slice none 0 0], []⟩ 8 (by kernel_rfl) (by kernel_rfl) (by kernel_rfl) (by kernel_rfl)) ?_
  intro W base args ds gs before hval0 hW hcnd _
  have hval : ∀ (j : Nat) t v, Try.f5.params[j]? = some t → args[j]? = some v → Value.okWide Try.prog W .any base t v := hval0
  have hW' := hW
  obtain ⟨p, q, hA0, hV, rfl, _, _⟩ := hW
  have hA : DataW.TrodAll enc Try.prog W 0 (fun _ => true) true Try.f5.params.toList args.toList ds p := hA0
  rw [Try.params5] at hA hval
  obtain ⟨v1, d1, rfl, rfl, h1⟩ := trodAll_one hA
  obtain ⟨rfl, rfl⟩ := trodVars_none hV
  have hsl := okWide_slice Try.underlying22 (hval 0 22 v1 rfl rfl)
  clear hA0 hval0
  simp only [List.append_nil] at hW'
  have hlt : ∀ x ∈ p, x.block < W.heap.size := fun x hx => by simpa using hW'.lt x (by simpa using hx)
  have harg1 : ∀ (W' : World), Below W.heap.size W W' → DataW.Trod enc Try.prog W' 0 (fun b => decide (b < W.heap.size)) true 22 v1 d1 p :=
    fun W' hn => Below.trod laidOut (by kernel_rfl) (of_decide_eq_true (by kernel_rfl)) h1 hn hlt
  obtain ⟨bo, cb, l, rfl, hrow, hcb, hl⟩ := lines_view (fun _ => rfl) Try.underlying22 Try.underlying36 cellsL rfl rfl rfl cells2 cells2 cellsI Try.underlying2 Try.underlying2 Try.underlying34 cells3 Try.underlying3 h1 hsl
  refine (walk bo cb l hcb hl W hrow).mono fun e W' ⟨he, hg⟩ => ?_
  subst he
  refine ⟨_, rfl, _, _, _, [], p, [], hW', ?_, ?_, rfl, hg.frame _, fun h => by cases h⟩
  · exact trodAll_mk1 (shut_bool Try.underlying4 true)
  · exact trodAll_mk1 (harg1 _ hg)

theorem over : Rows.prattProvesRow.holds Try.pinned (OpenSpec.ofChange Rows.prattProvesSpec) :=
  OpenClaim.holds_of_wide 5 Try.f5 rfl rfl rfl rfl rfl rfl rfl ⟨rfl, rfl, rfl, rfl, rfl⟩ rfl rfl rfl rfl rfl (by kernel_rfl) Try.func5 (by kernel_rfl)
    (of_decide_eq_true (by kernel_rfl)) (by unfold Func.isWrapper; first | (rw [if_pos (by decide +kernel)]; kernel_rfl) | (rw [if_neg (by decide +kernel)]; exact ⟨rfl, rfl⟩))
    (fun os started H enc _ => lifted os started H enc)

/-- ████ THE STATEMENT ████ -/
theorem proved : Rows.PrattProvesSaid :=
  over

end Go.Proofs.Ytmomlcibiklajaa.prattProves
