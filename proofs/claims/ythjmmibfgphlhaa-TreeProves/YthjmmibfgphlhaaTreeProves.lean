/-
  MERKLE: for any leafs and any one of them: it leads with its proof to the root; and to no other number.
-/
import Derived.Test.YthjmmibfgphlhaaRows
import Derived.Test.YthjmmibfgphlhaaCalls145
import Derived.WalkKit
import Derived.ProofKit
import Derived.OpenShut
import Derived.Carry
namespace Go.Proofs.Ythjmmibfgphlhaa.treeProves
open Go.ChangeShapes Go.WideShapes Go.ChangeAt Go.RowKit Go.Deep Go.Proofs.Ythjmmibfgphlhaa.Base Go.Proofs.Ythjmmibfgphlhaa.Base2 Go.Proofs.Ythjmmibfgphlhaa.Base7 Go.Proofs.Ythjmmibfgphlhaa.Base8 Go.Proofs.Ythjmmibfgphlhaa.Base9 Go.Proofs.Ythjmmibfgphlhaa.Num55 Go.Proofs.Ythjmmibfgphlhaa.Num60 Go.Proofs.Ythjmmibfgphlhaa.Calls126 Go.Proofs.Ythjmmibfgphlhaa.Calls127 Go.Proofs.Ythjmmibfgphlhaa.Calls128 Go.Proofs.Ythjmmibfgphlhaa.Calls133 Go.Proofs.Ythjmmibfgphlhaa.Calls134 Go.Proofs.Ythjmmibfgphlhaa.Calls135 Go.Proofs.Ythjmmibfgphlhaa.Calls136 Go.Proofs.Ythjmmibfgphlhaa.Calls137 Go.Proofs.Ythjmmibfgphlhaa.Calls138 Go.Proofs.Ythjmmibfgphlhaa.Calls139 Go.Proofs.Ythjmmibfgphlhaa.Calls141 Go.Proofs.Ythjmmibfgphlhaa.Calls142 Go.Proofs.Ythjmmibfgphlhaa.Calls143 Go.Proofs.Ythjmmibfgphlhaa.Calls144 Go.Proofs.Ythjmmibfgphlhaa.Calls145
set_option linter.unusedVariables false

theorem own : ownKnob Try.prog.godebug = none := by kernel_rfl

theorem laidOut : laidOutB Try.prog = true := by kernel_rfl

theorem cells2 : Try.prog.cellsOf 2 = 1 := by kernel_rfl

theorem cells8 : Try.prog.cellsOf 5 = 1 := by kernel_rfl

theorem cellsZ : Try.prog.cellsOf 37 = 1 := by kernel_rfl

set_option maxRecDepth 100000 in
set_option maxHeartbeats 2000000 in
theorem walk (o : Option Addr) (c : Nat) (l : List (List Nat)) (k : l.length ≤ c) (m : l.length ≤ 9223372036854775807) (i : Int) (wi : (Lit.int .i64 i).wf = true) (R : Int) (wR : (Lit.int .u32 R).wf = true) (w : World) (r : YRows w o l) :
    Calls Try.prog 7 #[.slice o l.length c, .int .i64 i, .int .u32 R] w fun e w' => e = .returned (.bool true) ∧ Below w.heap.size w w' := by
  obtain ⟨x, hx⟩ := lfc_ex l
  by_cases h0 : x = 0
  · subst h0
    have hL := hx.ok
    obtain ⟨h, hh, ht⟩ := top_six hL.one hL.few
    have cA := Root_yes o c l hx h ht w r
    have cC := hid (fun (w' : World) (hB : Below w.heap.size w w') => refLeafsCheck_any o c l 0 hx m w' (yrb r hB))
    by_cases hb : i < 0 ∨ (l.length : Int) ≤ i
    · have cB := hid (fun (w' : World) (hB : Below w.heap.size w w') => Prove_arg o c l i hx hb w' (yrb r hB))
      generalize l.length = n at *
      clear r hx hL ht
      by_cases h1 : i < 0
      · have d1 : decide (i < 0) = true := decide_eq_true h1
        clear hb
        go_enter Try.func7, Try.ntmps7
        go_wp2_with (first
          | (go_at_call 9; refine cA.mono ?_; rintro e w1 ⟨rfl, hB1⟩; have HB1 := hid hB1; clear hB1)
          | (go_at_call 13; refine (cB.out _ HB1.out).mono ?_; rintro e w2 ⟨rfl, hw⟩; subst w2)
          | (go_at_call 10; refine (cC.out _ HB1.out).mono ?_; rintro e w2 ⟨rfl, hw⟩; subst w2))
        go_ret
        exact ⟨rfl, HB1.out⟩
      · have d1 : decide (i < 0) = false := decide_eq_false h1
        have h2 : (n : Int) ≤ i := by omega
        have d2 : decide ((n : Int) ≤ i) = true := decide_eq_true h2
        clear hb
        go_enter Try.func7, Try.ntmps7
        go_wp2_with (first
          | (go_at_call 9; refine cA.mono ?_; rintro e w1 ⟨rfl, hB1⟩; have HB1 := hid hB1; clear hB1)
          | (go_at_call 13; refine (cB.out _ HB1.out).mono ?_; rintro e w2 ⟨rfl, hw⟩; subst w2)
          | (go_at_call 10; refine (cC.out _ HB1.out).mono ?_; rintro e w2 ⟨rfl, hw⟩; subst w2))
        go_ret
        exact ⟨rfl, HB1.out⟩
    · obtain ⟨q, rfl⟩ : ∃ q : Nat, i = (q : Int) := ⟨i.toNat, by omega⟩
      have hq : q < l.length := by omega
      have cB := hid (fun (w' : World) (hB : Below w.heap.size w w') => Prove_yes o c l q hx hq h hh ht w' (yrb r hB))
      rcases o with _ | ad
      · exact (yrows_none r hq).elim
      obtain ⟨bo, cc, c1, hr1, hby, hcc, hlm⟩ := r.2 ad rfl q hq
      have hsh := hL.short _ (yr_mem hq)
      have hpr := pf_root hq ht
      have hgd := pf_good l q h
      have hfw := pf_few (L := l) (i := q) hh
      obtain ⟨b, hbb⟩ := bool_of (((rt l h : Nat) : Int) = R)
      have hs := rt_lt l h
      generalize pf l.length q (lf l) h = p at *
      have cD := hid (fun pb pc (w' : World) (hpc : p.length ≤ pc) (hB : Below w.heap.size w w') (rp : URow w' pb p) => Check_yes ((rt l h : Nat) : Int) l.length q hL.one hL.few hq h hh ht bo pb cc pc (yr l q) p hsh hby hfw hpc true ⟨fun _ => ⟨hgd, by rw [hpr]⟩, fun _ => rfl⟩ w' (yb' hr1 hB) rp)
      have cE := hid (fun pb pc (w' : World) (hpc : p.length ≤ pc) (hB : Below w.heap.size w w') (rp : URow w' pb p) => Check_yes R l.length q hL.one hL.few hq h hh ht bo pb cc pc (yr l q) p hsh hby hfw hpc b (hbb.trans ⟨fun e => ⟨hgd, by rw [hpr]; exact e⟩, fun e => by rw [← hpr]; exact e.2⟩) w' (yb' hr1 hB) rp)
      have hbR : (R == ((rt l h : Nat) : Int)) = b := by
        rw [Bool.eq_iff_iff, beq_iff_eq, hbb]
        exact ⟨fun e => e.symm, fun e => e.symm⟩
      have hbb2 : (b == b) = true := by simp
      have h1 : ¬ (q : Int) < 0 := by omega
      have d1 : decide ((q : Int) < 0) = false := decide_eq_false h1
      have h2 : ¬ (l.length : Int) ≤ (q : Int) := by omega
      have d2 : decide ((l.length : Int) ≤ (q : Int)) = false := decide_eq_false h2
      have h3 : (0 : Int) ≤ (q : Int) := by omega
      have h4 : (q : Int) < (l.length : Int) := by omega
      have C1 := hid c1
      generalize rt l h = s at *
      generalize (yr l q).length = ny at *
      generalize l.length = n at *
      clear r hx ht hL hb hgd hpr hbb hr1 hby c1 hlm hsh
      go_enter Try.func7, Try.ntmps7
      go_wp2_with (first
        | (go_at_call 9; refine cA.mono ?_; rintro e w1 ⟨rfl, hB1⟩; have HB1 := hid hB1; clear hB1)
        | (go_at_call 13; refine (cB.out _ HB1.out).mono ?_; rintro e w2 ⟨⟨b2, c2, rfl, hc2, hr2⟩, hB2⟩; have HR2 := hid hr2; have HC2 := hid hc2; have HB2 := hid (below_trans HB1.out hB2); have d3 := (HB2.out.cell (p := ad.add q) (cell_lt C1.out)).trans C1.out; clear hB2 hr2 hc2)
        | (go_at_call 10; refine (cC.out _ HB2.out).mono ?_; rintro e w3 ⟨rfl, hw⟩; subst w3)
        | (go_at_call 16; refine (cD.out b2 c2 _ HC2.out HB2.out HR2.out).mono ?_; clear cD; rintro e w3 ⟨rfl, hB3⟩; have HB3 := hid (below_trans HB2.out hB3); have HR3 := hid (ub HR2.out hB3); have d4 := (HB3.out.cell (p := ad.add q) (cell_lt C1.out)).trans C1.out; clear hB3)
        | (go_at_call 16; refine (cE.out b2 c2 _ HC2.out HB3.out HR3.out).mono ?_; clear cE; rintro e w4 ⟨rfl, hB4⟩; have HB4 := hid (below_trans HB3.out hB4); clear hB4))
      go_ret
      exact ⟨rfl, HB4.out⟩
  · have cA := Root_bad o c l x hx h0 m w r
    have cB := Prove_bad o c l x i hx h0 m w r
    have cC := refLeafsCheck_any o c l x hx m w r
    have hx2 : (x == 0) = false := by simpa using h0
    have hx3 : (x != 0) = true := by simpa using h0
    clear r hx
    generalize l.length = n at *
    go_enter Try.func7, Try.ntmps7
    go_wp2_with (first
      | (go_at_call 9; refine cA.mono ?_; rintro e w1 ⟨rfl, hw⟩; subst w1)
      | (go_at_call 13; refine cB.mono ?_; rintro e w1 ⟨rfl, hw⟩; subst w1)
      | (go_at_call 10; refine cC.mono ?_; rintro e w2 ⟨rfl, hw⟩; subst w2))
    go_ret
    exact ⟨rfl, Below.refl _ _⟩

set_option maxRecDepth 100000 in
theorem lifted (os : Os) (started : os.Started) (H : Type) (enc : TypeId × Value → H) :
    ReturnsInHanded {} Try.checked os 7 .any (Rows.treeProvesSpec.pre6 enc Try.prog Try.f7 Rows.treeProvesRow.domain false) (Rows.treeProvesSpec.post enc Try.prog Try.f7 false true false false) := by
  refine returnsInHanded_of_change (C := Try.checked) own started (by kernel_rfl) Try.func7
    (ChangeSpec.witness6 (enc := enc) (C := Try.checked) false ⟨#[], #[.slice none 0 0, .int .i64 0, .int .u32 0], []⟩ 8 (by kernel_rfl) (by kernel_rfl) (by kernel_rfl) (by kernel_rfl)) ?_
  intro W base args ds gs before hval0 hW hcnd _
  have hval : ∀ (j : Nat) t v, Try.f7.params[j]? = some t → args[j]? = some v → Value.okWide Try.prog W .any base t v := hval0
  have hW' := hW
  obtain ⟨p, q, hA0, hV, rfl, _, _⟩ := hW
  have hA : DataW.TrodAll enc Try.prog W 0 (fun _ => true) true Try.f7.params.toList args.toList ds p := hA0
  rw [Try.params7] at hA hval
  obtain ⟨v0, v1, v2, d0, d1, d2, p0, p1, p2, rfl, rfl, rfl, h0, h1, h2⟩ := trodAll_three hA
  obtain ⟨rfl, rfl⟩ := trodVars_none hV
  have hsl0 := okWide_slice Try.underlying22 (hval 0 22 v0 rfl rfl)
  obtain ⟨a1, rfl, rfl, rfl, w1⟩ := open_int Try.underlying3 (hval 1 3 v1 rfl rfl) h1
  obtain ⟨a2, rfl, rfl, rfl, w2⟩ := open_int Try.underlying23 (hval 2 23 v2 rfl rfl) h2
  clear hA0 hval0
  simp only [List.append_nil] at hW'
  have hlt0 : ∀ x ∈ p0, x.block < W.heap.size := fun x hx => by simpa using hW'.lt x (by simp [hx])
  have harg0 : ∀ (W' : World), Below W.heap.size W W' → DataW.Trod enc Try.prog W' 0 (fun b => decide (b < W.heap.size)) true 22 v0 d0 p0 :=
    fun W' hn => Below.trod laidOut (by kernel_rfl) (of_decide_eq_true (by kernel_rfl)) h0 hn hlt0
  obtain ⟨o0, c0, l0, rfl, r0, k0, m0⟩ := byterows_view Try.underlying22 cellsZ Try.underlying37 cells8 Try.underlying5 h0 hsl0
  refine (walk o0 c0 l0 k0 m0 a1 w1 a2 w2 W r0).mono fun e W' ⟨he, hg⟩ => ?_
  subst he
  refine ⟨_, rfl, _, _, _, [], p0 ++ (([] : List MemPlace) ++ (([] : List MemPlace))), [], hW', ?_, ?_, rfl, hg.frame _, fun h => by cases h⟩
  · exact trodAll_mk1 (shut_bool Try.underlying4 true)
  · exact trodAll_mk3 (harg0 _ hg) (shut_int Try.underlying3 w1) (shut_int Try.underlying23 w2)

theorem over : Rows.treeProvesRow.holds Try.pinned (OpenSpec.ofChange Rows.treeProvesSpec) :=
  OpenClaim.holds_of_wide 7 Try.f7 rfl rfl rfl rfl rfl rfl rfl ⟨rfl, rfl, rfl, rfl, rfl⟩ rfl rfl rfl rfl rfl (by kernel_rfl) Try.func7 (by kernel_rfl)
    (of_decide_eq_true (by kernel_rfl)) (by unfold Func.isWrapper; first | (rw [if_pos (by decide +kernel)]; kernel_rfl) | (rw [if_neg (by decide +kernel)]; exact ⟨rfl, rfl⟩))
    (fun os started H enc _ => lifted os started H enc)

/-- ████ THE STATEMENT ████ -/
theorem proved : Rows.TreeProvesSaid :=
  over

end Go.Proofs.Ythjmmibfgphlhaa.treeProves
