/-
  For any leafs the program tells their root.
-/
import Derived.Test.YthjmmibfgphlhaaRows
import Derived.Test.YthjmmibfgphlhaaCalls137
import Derived.WalkKit
import Derived.ProofKit
import Derived.OpenShut
import Derived.Carry
namespace Go.Proofs.Ythjmmibfgphlhaa.treeRoots
open Go.ChangeShapes Go.WideShapes Go.ChangeAt Go.RowKit Go.Deep Go.Proofs.Ythjmmibfgphlhaa.Base Go.Proofs.Ythjmmibfgphlhaa.Base2 Go.Proofs.Ythjmmibfgphlhaa.Base7 Go.Proofs.Ythjmmibfgphlhaa.Base8 Go.Proofs.Ythjmmibfgphlhaa.Base9 Go.Proofs.Ythjmmibfgphlhaa.Num55 Go.Proofs.Ythjmmibfgphlhaa.Num60 Go.Proofs.Ythjmmibfgphlhaa.Calls126 Go.Proofs.Ythjmmibfgphlhaa.Calls127 Go.Proofs.Ythjmmibfgphlhaa.Calls128 Go.Proofs.Ythjmmibfgphlhaa.Calls133 Go.Proofs.Ythjmmibfgphlhaa.Calls134 Go.Proofs.Ythjmmibfgphlhaa.Calls135 Go.Proofs.Ythjmmibfgphlhaa.Calls136 Go.Proofs.Ythjmmibfgphlhaa.Calls137
set_option linter.unusedVariables false

theorem own : ownKnob Try.prog.godebug = none := by kernel_rfl

theorem laidOut : laidOutB Try.prog = true := by kernel_rfl

theorem cells2 : Try.prog.cellsOf 2 = 1 := by kernel_rfl

theorem cells8 : Try.prog.cellsOf 5 = 1 := by kernel_rfl

theorem cellsZ : Try.prog.cellsOf 37 = 1 := by kernel_rfl

theorem top_six {n : Nat} (h1 : 1 ≤ n) (h2 : n ≤ 64) : ∃ h, h ≤ 6 ∧ Top n h := top_ex h1 6 (mn_end h1 (by omega))

set_option maxRecDepth 100000 in
set_option maxHeartbeats 1000000 in
theorem walk (o : Option Addr) (c : Nat) (l : List (List Nat)) (k : l.length ≤ c) (m : l.length ≤ 9223372036854775807) (w : World) (r : YRows w o l) :
    Calls Try.prog 3 #[.slice o l.length c] w fun e w' => e = .returned (.bool true) ∧ Below w.heap.size w w' := by
  obtain ⟨x, hx⟩ := lfc_ex l
  by_cases h0 : x = 0
  · subst h0
    have hL := hx.ok
    obtain ⟨h, hh, ht⟩ := top_six hL.one hL.few
    have cA := Root_yes o c l hx h ht w r
    have cB := hid (fun (w' : World) (hB : Below w.heap.size w w') => refLeafsCheck_any o c l 0 hx m w' (yrb r hB))
    have cC := refHeight_any l.length h hL.few hh ht
    have cD := hid (fun (w' : World) (hB : Below w.heap.size w w') => refNode_any o c l hL h 0 hh (by rw [ht.1]; omega) w' (yrb r hB))
    have hs := rt_lt l h
    rw [show nd sum l.length (lf l) h 0 = rt l h from rfl] at cD
    clear r hx ht hL
    generalize rt l h = s at *
    generalize l.length = n at *
    go_enter Try.func3, Try.ntmps3
    go_wp2_with (first
      | (go_at_call 9; refine cA.mono ?_; rintro e w1 ⟨rfl, hB1⟩; have HB1 := hid hB1; clear hB1)
      | (go_at_call 10; refine (cB.out _ HB1.out).mono ?_; rintro e w2 ⟨rfl, hw⟩; subst w2)
      | (go_at_call 12; refine (cC _).mono ?_; rintro e w2 ⟨rfl, hw⟩; subst w2)
      | (go_at_call 11; refine (cD.out _ HB1.out).mono ?_; rintro e w3 ⟨rfl, hB3⟩; have HB3 := hid (below_trans HB1.out hB3); clear hB3))
    go_ret
    exact ⟨rfl, HB3.out⟩
  · have cA := Root_bad o c l x hx h0 m w r
    have cB := refLeafsCheck_any o c l x hx m w r
    have hx2 : (x == 0) = false := by simpa using h0
    clear r hx
    generalize l.length = n at *
    go_enter Try.func3, Try.ntmps3
    go_wp2_with (first
      | (go_at_call 9; refine cA.mono ?_; rintro e w1 ⟨rfl, hw⟩; subst w1)
      | (go_at_call 10; refine cB.mono ?_; rintro e w2 ⟨rfl, hw⟩; subst w2))
    go_ret
    exact ⟨rfl, Below.refl _ _⟩

set_option maxRecDepth 100000 in
theorem lifted (os : Os) (started : os.Started) (H : Type) (enc : TypeId × Value → H) :
    ReturnsInHanded {} Try.checked os 3 .any (Rows.treeRootsSpec.pre6 enc Try.prog Try.f3 Rows.treeRootsRow.domain false) (Rows.treeRootsSpec.post enc Try.prog Try.f3 false true false false) := by
  refine returnsInHanded_of_change (C := Try.checked) own started (by kernel_rfl) Try.func3
    (ChangeSpec.witness6 (enc := enc) (C := Try.checked) false ⟨#[], #[.slice none 0 0], []⟩ 8 (by kernel_rfl) (by kernel_rfl) (by kernel_rfl) (by kernel_rfl)) ?_
  intro W base args ds gs before hval0 hW hcnd _
  have hval : ∀ (j : Nat) t v, Try.f3.params[j]? = some t → args[j]? = some v → Value.okWide Try.prog W .any base t v := hval0
  have hW' := hW
  obtain ⟨p0, q, hA0, hV, rfl, _, _⟩ := hW
  have hA : DataW.TrodAll enc Try.prog W 0 (fun _ => true) true Try.f3.params.toList args.toList ds p0 := hA0
  rw [Try.params3] at hA hval
  obtain ⟨v0, d0, rfl, rfl, h0⟩ := trodAll_one hA
  obtain ⟨rfl, rfl⟩ := trodVars_none hV
  have hsl0 := okWide_slice Try.underlying22 (hval 0 22 v0 rfl rfl)
  clear hA0 hval0
  simp only [List.append_nil] at hW'
  have hlt0 : ∀ x ∈ p0, x.block < W.heap.size := fun x hx => by simpa using hW'.lt x (by simp [hx])
  have harg0 : ∀ (W' : World), Below W.heap.size W W' → DataW.Trod enc Try.prog W' 0 (fun b => decide (b < W.heap.size)) true 22 v0 d0 p0 :=
    fun W' hn => Below.trod laidOut (by kernel_rfl) (of_decide_eq_true (by kernel_rfl)) h0 hn hlt0
  obtain ⟨o0, c0, l0, rfl, r0, k0, m0⟩ := byterows_view Try.underlying22 cellsZ Try.underlying37 cells8 Try.underlying5 h0 hsl0
  refine (walk o0 c0 l0 k0 m0 W r0).mono fun e W' ⟨he, hg⟩ => ?_
  subst he
  refine ⟨_, rfl, _, _, _, [], p0, [], hW', ?_, ?_, rfl, hg.frame _, fun h => by cases h⟩
  · exact trodAll_mk1 (shut_bool Try.underlying4 true)
  · exact trodAll_mk1 (harg0 _ hg)

theorem over : Rows.treeRootsRow.holds Try.pinned (OpenSpec.ofChange Rows.treeRootsSpec) :=
  OpenClaim.holds_of_wide 3 Try.f3 rfl rfl rfl rfl rfl rfl rfl ⟨rfl, rfl, rfl, rfl, rfl⟩ rfl rfl rfl rfl rfl (by kernel_rfl) Try.func3 (by kernel_rfl)
    (of_decide_eq_true (by kernel_rfl)) (by unfold Func.isWrapper; first | (rw [if_pos (by decide +kernel)]; kernel_rfl) | (rw [if_neg (by decide +kernel)]; exact ⟨rfl, rfl⟩))
    (fun os started H enc _ => lifted os started H enc)

/-- ████ THE STATEMENT ████ -/
theorem proved : Rows.TreeRootsSaid :=
  over

end Go.Proofs.Ythjmmibfgphlhaa.treeRoots
