/-
  For any leafs and any place the program tells the proof of a leaf.
-/
import Derived.Test.YthjmmibfgphlhaaRows
import Derived.Test.YthjmmibfgphlhaaCalls140
import Derived.WalkKit
import Derived.ProofKit
import Derived.OpenShut
import Derived.Carry
namespace Go.Proofs.Ythjmmibfgphlhaa.treeTells
open Go.ChangeShapes Go.WideShapes Go.ChangeAt Go.RowKit Go.Deep Go.Proofs.Ythjmmibfgphlhaa.Base Go.Proofs.Ythjmmibfgphlhaa.Base2 Go.Proofs.Ythjmmibfgphlhaa.Base7 Go.Proofs.Ythjmmibfgphlhaa.Base8 Go.Proofs.Ythjmmibfgphlhaa.Base9 Go.Proofs.Ythjmmibfgphlhaa.Num55 Go.Proofs.Ythjmmibfgphlhaa.Num60 Go.Proofs.Ythjmmibfgphlhaa.Calls126 Go.Proofs.Ythjmmibfgphlhaa.Calls127 Go.Proofs.Ythjmmibfgphlhaa.Calls128 Go.Proofs.Ythjmmibfgphlhaa.Calls133 Go.Proofs.Ythjmmibfgphlhaa.Calls134 Go.Proofs.Ythjmmibfgphlhaa.Calls135 Go.Proofs.Ythjmmibfgphlhaa.Calls136 Go.Proofs.Ythjmmibfgphlhaa.Calls137 Go.Proofs.Ythjmmibfgphlhaa.Calls138 Go.Proofs.Ythjmmibfgphlhaa.Calls139 Go.Proofs.Ythjmmibfgphlhaa.Calls140
set_option linter.unusedVariables false

theorem own : ownKnob Try.prog.godebug = none := by kernel_rfl

theorem laidOut : laidOutB Try.prog = true := by kernel_rfl

theorem cells2 : Try.prog.cellsOf 2 = 1 := by kernel_rfl

theorem cells8 : Try.prog.cellsOf 5 = 1 := by kernel_rfl

theorem cellsZ : Try.prog.cellsOf 37 = 1 := by kernel_rfl

theorem top_six {n : Nat} (h1 : 1 ≤ n) (h2 : n ≤ 64) : ∃ h, h ≤ 6 ∧ Top n h := top_ex h1 6 (mn_end h1 (by omega))

set_option maxRecDepth 100000 in
set_option maxHeartbeats 1000000 in
theorem walk (o : Option Addr) (c : Nat) (l : List (List Nat)) (k : l.length ≤ c) (m : l.length ≤ 9223372036854775807) (i : Int) (wi : (Lit.int .i64 i).wf = true) (w : World) (r : YRows w o l) :
    Calls Try.prog 4 #[.slice o l.length c, .int .i64 i] w fun e w' => e = .returned (.bool true) ∧ Below w.heap.size w w' := by
  obtain ⟨x, hx⟩ := lfc_ex l
  by_cases h0 : x = 0
  · subst h0
    have hL := hx.ok
    by_cases hb : i < 0 ∨ (l.length : Int) ≤ i
    · have cA := Prove_arg o c l i hx hb w r
      have cB := refLeafsCheck_any o c l 0 hx m w r
      generalize l.length = n at *
      clear r hx hL
      by_cases h1 : i < 0
      · have d1 : decide (i < 0) = true := decide_eq_true h1
        clear hb
        go_enter Try.func4, Try.ntmps4
        go_wp2_with (first
          | (go_at_call 13; refine cA.mono ?_; rintro e w1 ⟨rfl, hw⟩; subst w1)
          | (go_at_call 10; refine cB.mono ?_; rintro e w2 ⟨rfl, hw⟩; subst w2))
        go_ret
        exact ⟨rfl, Below.refl _ _⟩
      · have d1 : decide (i < 0) = false := decide_eq_false h1
        have h2 : (n : Int) ≤ i := by omega
        have d2 : decide ((n : Int) ≤ i) = true := decide_eq_true h2
        clear hb
        go_enter Try.func4, Try.ntmps4
        go_wp2_with (first
          | (go_at_call 13; refine cA.mono ?_; rintro e w1 ⟨rfl, hw⟩; subst w1)
          | (go_at_call 10; refine cB.mono ?_; rintro e w2 ⟨rfl, hw⟩; subst w2))
        go_ret
        exact ⟨rfl, Below.refl _ _⟩
    · obtain ⟨q, rfl⟩ : ∃ q : Nat, i = (q : Int) := ⟨i.toNat, by omega⟩
      have hq : q < l.length := by omega
      obtain ⟨h, hh, ht⟩ := top_six hL.one hL.few
      have cA := Prove_yes o c l q hx hq h hh ht w r
      have cB := hid (fun (w' : World) (hB : Below w.heap.size w w') => refLeafsCheck_any o c l 0 hx m w' (yrb r hB))
      have cC := hid (fun (w' : World) (hB : Below w.heap.size w w') => refProve_any o c l hL q hq h hh ht w' (yrb r hB))
      have hpl := pf_length l.length q (lf l) h
      have hul := us_top hq ht hh
      generalize pf l.length q (lf l) h = p at *
      have cD := hid (fun ao bo ca cb (w' : World) (ra : URow w' ao p) (rb : URow w' bo p) => nodes_same ao bo ca cb p (by omega) w' ra rb)
      have h1 : ¬ (q : Int) < 0 := by omega
      have d1 : decide ((q : Int) < 0) = false := decide_eq_false h1
      have h2 : ¬ (l.length : Int) ≤ (q : Int) := by omega
      have d2 : decide ((l.length : Int) ≤ (q : Int)) = false := decide_eq_false h2
      generalize l.length = n at *
      clear r hx ht hL hb hpl hul
      go_enter Try.func4, Try.ntmps4
      go_wp2_with (first
        | (go_at_call 13; refine cA.mono ?_; rintro e w1 ⟨⟨b1, c1, rfl, hc1, hr1⟩, hB1⟩; have HR1 := hid hr1; have HB1 := hid hB1; clear hB1 hr1 hc1)
        | (go_at_call 10; refine (cB.out _ HB1.out).mono ?_; rintro e w2 ⟨rfl, hw⟩; subst w2)
        | (go_at_call 15; refine (cC.out _ HB1.out).mono ?_; rintro e w3 ⟨⟨b3, c3, rfl, hc3, hr3⟩, hB3⟩; have HR3 := hid hr3; have HR2 := hid (ub HR1.out hB3); have HB3 := hid (below_trans HB1.out hB3); clear hB3 hr3 hc3)
        | (go_at_call 14; refine (cD.out b1 b3 c1 c3 _ HR2.out HR3.out).mono ?_; rintro e w4 ⟨rfl, hB4⟩; have HB4 := hid (below_trans HB3.out hB4); clear hB4))
      go_ret
      exact ⟨rfl, HB4.out⟩
  · have cA := Prove_bad o c l x i hx h0 m w r
    have cB := refLeafsCheck_any o c l x hx m w r
    have hx2 : (x == 0) = false := by simpa using h0
    clear r hx
    generalize l.length = n at *
    go_enter Try.func4, Try.ntmps4
    go_wp2_with (first
      | (go_at_call 13; refine cA.mono ?_; rintro e w1 ⟨rfl, hw⟩; subst w1)
      | (go_at_call 10; refine cB.mono ?_; rintro e w2 ⟨rfl, hw⟩; subst w2))
    go_ret
    exact ⟨rfl, Below.refl _ _⟩

set_option maxRecDepth 100000 in
theorem lifted (os : Os) (started : os.Started) (H : Type) (enc : TypeId × Value → H) :
    ReturnsInHanded {} Try.checked os 4 .any (Rows.treeTellsSpec.pre6 enc Try.prog Try.f4 Rows.treeTellsRow.domain false) (Rows.treeTellsSpec.post enc Try.prog Try.f4 false true false false) := by
  refine returnsInHanded_of_change (C := Try.checked) own started (by kernel_rfl) Try.func4
    (ChangeSpec.witness6 (enc := enc) (C := Try.checked) false ⟨#[], #[.slice none 0 0, .int .i64 0], []⟩ 8 (by kernel_rfl) (by kernel_rfl) (by kernel_rfl) (by kernel_rfl)) ?_
  intro W base args ds gs before hval0 hW hcnd _
  have hval : ∀ (j : Nat) t v, Try.f4.params[j]? = some t → args[j]? = some v → Value.okWide Try.prog W .any base t v := hval0
  have hW' := hW
  obtain ⟨p, q, hA0, hV, rfl, _, _⟩ := hW
  have hA : DataW.TrodAll enc Try.prog W 0 (fun _ => true) true Try.f4.params.toList args.toList ds p := hA0
  rw [Try.params4] at hA hval
  obtain ⟨v0, v1, d0, d1, p0, p1, rfl, rfl, rfl, h0, h1⟩ := trodAll_two hA
  obtain ⟨rfl, rfl⟩ := trodVars_none hV
  have hsl0 := okWide_slice Try.underlying22 (hval 0 22 v0 rfl rfl)
  obtain ⟨a1, rfl, rfl, rfl, w1⟩ := open_int Try.underlying3 (hval 1 3 v1 rfl rfl) h1
  clear hA0 hval0
  simp only [List.append_nil] at hW'
  have hlt0 : ∀ x ∈ p0, x.block < W.heap.size := fun x hx => by simpa using hW'.lt x (by simp [hx])
  have harg0 : ∀ (W' : World), Below W.heap.size W W' → DataW.Trod enc Try.prog W' 0 (fun b => decide (b < W.heap.size)) true 22 v0 d0 p0 :=
    fun W' hn => Below.trod laidOut (by kernel_rfl) (of_decide_eq_true (by kernel_rfl)) h0 hn hlt0
  obtain ⟨o0, c0, l0, rfl, r0, k0, m0⟩ := byterows_view Try.underlying22 cellsZ Try.underlying37 cells8 Try.underlying5 h0 hsl0
  refine (walk o0 c0 l0 k0 m0 a1 w1 W r0).mono fun e W' ⟨he, hg⟩ => ?_
  subst he
  refine ⟨_, rfl, _, _, _, [], p0 ++ (([] : List MemPlace)), [], hW', ?_, ?_, rfl, hg.frame _, fun h => by cases h⟩
  · exact trodAll_mk1 (shut_bool Try.underlying4 true)
  · exact trodAll_mk2 (harg0 _ hg) (shut_int Try.underlying3 w1)

theorem over : Rows.treeTellsRow.holds Try.pinned (OpenSpec.ofChange Rows.treeTellsSpec) :=
  OpenClaim.holds_of_wide 4 Try.f4 rfl rfl rfl rfl rfl rfl rfl ⟨rfl, rfl, rfl, rfl, rfl⟩ rfl rfl rfl rfl rfl (by kernel_rfl) Try.func4 (by kernel_rfl)
    (of_decide_eq_true (by kernel_rfl)) (by unfold Func.isWrapper; first | (rw [if_pos (by decide +kernel)]; kernel_rfl) | (rw [if_neg (by decide +kernel)]; exact ⟨rfl, rfl⟩))
    (fun os started H enc _ => lifted os started H enc)

/-- ████ THE STATEMENT ████ -/
theorem proved : Rows.TreeTellsSaid :=
  over

end Go.Proofs.Ythjmmibfgphlhaa.treeTells
