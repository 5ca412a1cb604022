/-
  For any leaf with a proof at a place, and any root, the program tells whether it leads to it.
-/
import Derived.Test.YthjmmibfgphlhaaRows
import Derived.Test.YthjmmibfgphlhaaCalls137
import Derived.Test.YthjmmibfgphlhaaCalls144
import Derived.WalkKit
import Derived.ProofKit
import Derived.OpenShut
import Derived.Carry
namespace Go.Proofs.Ythjmmibfgphlhaa.treeChecks
open Go.ChangeShapes Go.WideShapes Go.ChangeAt Go.RowKit Go.Deep Go.Proofs.Ythjmmibfgphlhaa.Base Go.Proofs.Ythjmmibfgphlhaa.Base2 Go.Proofs.Ythjmmibfgphlhaa.Base7 Go.Proofs.Ythjmmibfgphlhaa.Base8 Go.Proofs.Ythjmmibfgphlhaa.Base9 Go.Proofs.Ythjmmibfgphlhaa.Num55 Go.Proofs.Ythjmmibfgphlhaa.Num60 Go.Proofs.Ythjmmibfgphlhaa.Calls126 Go.Proofs.Ythjmmibfgphlhaa.Calls127 Go.Proofs.Ythjmmibfgphlhaa.Calls128 Go.Proofs.Ythjmmibfgphlhaa.Calls133 Go.Proofs.Ythjmmibfgphlhaa.Calls134 Go.Proofs.Ythjmmibfgphlhaa.Calls135 Go.Proofs.Ythjmmibfgphlhaa.Calls136 Go.Proofs.Ythjmmibfgphlhaa.Calls137 Go.Proofs.Ythjmmibfgphlhaa.Calls141 Go.Proofs.Ythjmmibfgphlhaa.Calls142 Go.Proofs.Ythjmmibfgphlhaa.Calls143 Go.Proofs.Ythjmmibfgphlhaa.Calls144
set_option linter.unusedVariables false

theorem own : ownKnob Try.prog.godebug = none := by kernel_rfl

theorem laidOut : laidOutB Try.prog = true := by kernel_rfl

theorem cells2 : Try.prog.cellsOf 2 = 1 := by kernel_rfl

theorem cells8 : Try.prog.cellsOf 5 = 1 := by kernel_rfl

theorem cellsU : Try.prog.cellsOf 23 = 1 := by kernel_rfl

set_option maxRecDepth 100000 in
set_option maxHeartbeats 1000000 in
theorem walk (R : Int) (wR : (Lit.int .u32 R).wf = true) (n : Int) (wn : (Lit.int .i64 n).wf = true) (i : Int) (wi : (Lit.int .i64 i).wf = true) (lo : Option Addr) (lc : Nat) (a : List Nat) (hb : ∀ b ∈ a, b < 256) (ka : a.length ≤ lc) (ma : a.length ≤ 9223372036854775807) (po : Option Addr) (pc : Nat) (p : List Nat) (hp : ∀ b ∈ p, b < 4294967296) (kp : p.length ≤ pc) (mp : p.length ≤ 9223372036854775807) (w : World) (ra : YRow w lo a) (rp : URow w po p) :
    Calls Try.prog 5 #[.int .u32 R, .int .i64 n, .int .i64 i, .slice lo a.length lc, .slice po p.length pc] w fun e w' => e = .returned (.bool true) ∧ Below w.heap.size w w' := by
  obtain ⟨x, hx⟩ := plc_ex n i a.length p.length
  by_cases h0 : x = 0
  · subst h0
    have cB := hid (fun w' => refPlaceCheck_any n i lo po a.length p.length lc pc 0 hx ma w')
    obtain ⟨n0, i0, h, hP⟩ := pl_ex hx
    obtain ⟨rfl, rfl, h1, h64, hi, h6, ht, ha, hk⟩ := hP
    obtain ⟨g, hg⟩ := bool_of (GoodP n0 i0 p h)
    obtain ⟨b, hbb⟩ := bool_of (GoodP n0 i0 p h ∧ ((kn n0 i0 p a h : Nat) : Int) = R)
    have cA := Check_yes R n0 i0 h1 h64 hi h h6 ht lo po lc pc a p ha hb hk kp b hbb w ra rp
    have cC := hid (fun (w' : World) (hB : Below w.heap.size w w') => refLead_any n0 i0 h1 h64 hi h h6 ht lo po lc pc a p ha hb hk hp kp g hg w' (yb' ra hB) (ub rp hB))
    have hxl := kn_lt n0 i0 p a h
    have hbg : b = true ↔ g = true ∧ ((kn n0 i0 p a h : Nat) : Int) = R := by rw [hbb, hg]
    cases g with
    | true =>
      have hbR : ((((kn n0 i0 p a h : Nat) : Int)) == R) = b := by
        rw [Bool.eq_iff_iff, beq_iff_eq, hbg]
        exact ⟨fun e => ⟨rfl, e⟩, fun e => e.2⟩
      have hbR2 : (((((kn n0 i0 p a h : Nat) : Int)) % 4294967296) == R) = b := by
        rw [Int.emod_eq_of_lt (by omega) (by omega)]; exact hbR
      have hbb2 : (b == b) = true := by simp
      obtain ⟨z, hz⟩ : ∃ z, z = kn n0 i0 p a h := ⟨_, rfl⟩
      have HZ := hid hz
      rw [← hz] at hbR hbR2 hxl
      generalize a.length = na at *
      generalize p.length = np at *
      clear hg hbb hbg ra rp hb hp ht hx hz
      go_enter Try.func5, Try.ntmps5
      go_wp2_with (first
        | (go_at_call 16; refine cA.mono ?_; rintro e w1 ⟨rfl, hB1⟩; have HB1 := hid hB1; clear hB1)
        | (go_at_call 17; refine (cB.out _).mono ?_; rintro e w2 ⟨rfl, hw⟩; subst w2)
        | (go_at_call 18; refine (cC.out _ HB1.out).mono ?_; rintro e w3 ⟨⟨z3, v3, ao, m3, c3, hv3, rfl, hz3⟩, hB3⟩; have hz4 := (hz3 rfl).1; rw [← HZ.out] at hz4; subst hz4; have HB3 := hid (below_trans HB1.out hB3); clear hB3 hv3 hz3))
      go_ret
      exact ⟨rfl, HB3.out⟩
    | false =>
      have hbf : b = false := by
        cases b with
        | false => rfl
        | true => have := (hbg.1 rfl).1; cases this
      subst hbf
      generalize a.length = na at *
      generalize p.length = np at *
      clear hg hbb hbg ra rp hb hp ht hx
      go_enter Try.func5, Try.ntmps5
      go_wp2_with (first
        | (go_at_call 16; refine cA.mono ?_; rintro e w1 ⟨rfl, hB1⟩; have HB1 := hid hB1; clear hB1)
        | (go_at_call 17; refine (cB.out _).mono ?_; rintro e w2 ⟨rfl, hw⟩; subst w2)
        | (go_at_call 18; refine (cC.out _ HB1.out).mono ?_; rintro e w3 ⟨⟨z3, v3, ao, m3, c3, rfl, rfl, hz3⟩, hB3⟩; have HB3 := hid (below_trans HB1.out hB3); clear hB3 hz3))
      go_ret
      exact ⟨rfl, HB3.out⟩
  · have cA := Check_bad R n i lo po a.length p.length lc pc x hx h0 ma w
    have cB := refPlaceCheck_any n i lo po a.length p.length lc pc x hx ma w
    have hx2 : (x == 0) = false := by simpa using h0
    clear ra rp hb hp hx
    generalize a.length = na at *
    generalize p.length = np at *
    go_enter Try.func5, Try.ntmps5
    go_wp2_with (first
      | (go_at_call 16; refine cA.mono ?_; rintro e w1 ⟨rfl, hw⟩; subst w1)
      | (go_at_call 17; refine cB.mono ?_; rintro e w2 ⟨rfl, hw⟩; subst w2))
    go_ret
    exact ⟨rfl, Below.refl _ _⟩

theorem trodAll_five {H : Type} {enc : TypeId × Value → H} {P : Program} {w : World} {base : Nat} {spare : Nat → Bool} {held : Bool} {t0 t1 t2 t3 t4 : TypeId} {args : Array Value} {ds : List (DataW H)} {ps : List MemPlace} (h : DataW.TrodAll enc P w base spare held [t0, t1, t2, t3, t4] args.toList ds ps) :
    ∃ v0 v1 v2 v3 v4 d0 d1 d2 d3 d4 p0 p1 p2 p3 p4, args = #[v0, v1, v2, v3, v4] ∧ ds = [d0, d1, d2, d3, d4] ∧ ps = p0 ++ p1 ++ p2 ++ p3 ++ p4 ∧ DataW.Trod enc P w base spare held t0 v0 d0 p0 ∧ DataW.Trod enc P w base spare held t1 v1 d1 p1 ∧ DataW.Trod enc P w base spare held t2 v2 d2 p2 ∧ DataW.Trod enc P w base spare held t3 v3 d3 p3 ∧ DataW.Trod enc P w base spare held t4 v4 d4 p4 := by
  obtain ⟨v0, vs0, d0, ds0, p0, q0, hargs, rfl, rfl, hd0, hrest0⟩ := trodAll_cons h
  obtain ⟨v1, vs1, d1, ds1, p1, q1, rfl, rfl, rfl, hd1, hrest1⟩ := trodAll_cons hrest0
  obtain ⟨v2, vs2, d2, ds2, p2, q2, rfl, rfl, rfl, hd2, hrest2⟩ := trodAll_cons hrest1
  obtain ⟨v3, vs3, d3, ds3, p3, q3, rfl, rfl, rfl, hd3, hrest3⟩ := trodAll_cons hrest2
  obtain ⟨v4, vs4, d4, ds4, p4, q4, rfl, rfl, rfl, hd4, hrest4⟩ := trodAll_cons hrest3
  obtain ⟨rfl, rfl, rfl⟩ := trodAll_nil hrest4
  exact ⟨v0, v1, v2, v3, v4, d0, d1, d2, d3, d4, p0, p1, p2, p3, p4, by cases args; simp_all, rfl, by simp, hd0, hd1, hd2, hd3, hd4⟩

theorem trodAll_mk5 {H : Type} {enc : TypeId × Value → H} {P : Program} {w : World} {base : Nat} {spare : Nat → Bool} {held : Bool} {t0 t1 t2 t3 t4 : TypeId} {v0 v1 v2 v3 v4 : Value} {d0 d1 d2 d3 d4 : DataW H} {p0 p1 p2 p3 p4 : List MemPlace} (h0 : DataW.Trod enc P w base spare held t0 v0 d0 p0) (h1 : DataW.Trod enc P w base spare held t1 v1 d1 p1) (h2 : DataW.Trod enc P w base spare held t2 v2 d2 p2) (h3 : DataW.Trod enc P w base spare held t3 v3 d3 p3) (h4 : DataW.Trod enc P w base spare held t4 v4 d4 p4) : DataW.TrodAll enc P w base spare held [t0, t1, t2, t3, t4] [v0, v1, v2, v3, v4] [d0, d1, d2, d3, d4] (p0 ++ (p1 ++ (p2 ++ (p3 ++ (p4))))) := ⟨p0, p1 ++ (p2 ++ (p3 ++ (p4))), h0, trodAll_mk4 h1 h2 h3 h4, rfl⟩

set_option maxRecDepth 100000 in
theorem lifted (os : Os) (started : os.Started) (H : Type) (enc : TypeId × Value → H) :
    ReturnsInHanded {} Try.checked os 5 .any (Rows.treeChecksSpec.pre6 enc Try.prog Try.f5 Rows.treeChecksRow.domain false) (Rows.treeChecksSpec.post enc Try.prog Try.f5 false true false false) := by
  refine returnsInHanded_of_change (C := Try.checked) own started (by kernel_rfl) Try.func5
    (ChangeSpec.witness6 (enc := enc) (C := Try.checked) false ⟨#[], #[.int .u32 0, .int .i64 0, .int .i64 0, .slice none 0 0, .slice none 0 0], []⟩ 8 (by kernel_rfl) (by kernel_rfl) (by kernel_rfl) (by kernel_rfl)) ?_
  intro W base args ds gs before hval0 hW hcnd _
  have hval : ∀ (j : Nat) t v, Try.f5.params[j]? = some t → args[j]? = some v → Value.okWide Try.prog W .any base t v := hval0
  have hW' := hW
  obtain ⟨p, q, hA0, hV, rfl, _, _⟩ := hW
  have hA : DataW.TrodAll enc Try.prog W 0 (fun _ => true) true Try.f5.params.toList args.toList ds p := hA0
  rw [Try.params5] at hA hval
  obtain ⟨v0, v1, v2, v3, v4, d0, d1, d2, d3, d4, p0, p1, p2, p3, p4, rfl, rfl, rfl, h0, h1, h2, h3, h4⟩ := trodAll_five hA
  obtain ⟨rfl, rfl⟩ := trodVars_none hV
  obtain ⟨a0, rfl, rfl, rfl, w0⟩ := open_int Try.underlying23 (hval 0 23 v0 rfl rfl) h0
  obtain ⟨a1, rfl, rfl, rfl, w1⟩ := open_int Try.underlying3 (hval 1 3 v1 rfl rfl) h1
  obtain ⟨a2, rfl, rfl, rfl, w2⟩ := open_int Try.underlying3 (hval 2 3 v2 rfl rfl) h2
  have hsl3 := okWide_slice Try.underlying37 (hval 3 37 v3 rfl rfl)
  have hsl4 := okWide_slice Try.underlying31 (hval 4 31 v4 rfl rfl)
  clear hA0 hval0
  simp only [List.append_nil, List.nil_append] at hW'
  have hlt3 : ∀ x ∈ p3, x.block < W.heap.size := fun x hx => by simpa using hW'.lt x (by simp [hx])
  have harg3 : ∀ (W' : World), Below W.heap.size W W' → DataW.Trod enc Try.prog W' 0 (fun b => decide (b < W.heap.size)) true 37 v3 d3 p3 :=
    fun W' hn => Below.trod laidOut (by kernel_rfl) (of_decide_eq_true (by kernel_rfl)) h3 hn hlt3
  obtain ⟨o3, c3, l3, rfl, r3, b3, k3, m3⟩ := bytes_view Try.underlying37 cells8 Try.underlying5 h3 hsl3
  have hlt4 : ∀ x ∈ p4, x.block < W.heap.size := fun x hx => by simpa using hW'.lt x (by simp [hx])
  have harg4 : ∀ (W' : World), Below W.heap.size W W' → DataW.Trod enc Try.prog W' 0 (fun b => decide (b < W.heap.size)) true 31 v4 d4 p4 :=
    fun W' hn => Below.trod laidOut (by kernel_rfl) (of_decide_eq_true (by kernel_rfl)) h4 hn hlt4
  obtain ⟨o4, c4, l4, rfl, r4, b4, k4, m4⟩ := u32s_view Try.underlying31 cellsU Try.underlying23 h4 hsl4
  refine (walk a0 w0 a1 w1 a2 w2 o3 c3 l3 b3 k3 m3 o4 c4 l4 b4 k4 m4 W r3 r4).mono fun e W' ⟨he, hg⟩ => ?_
  subst he
  refine ⟨_, rfl, _, _, _, [], ([] : List MemPlace) ++ (([] : List MemPlace) ++ (([] : List MemPlace) ++ (p3 ++ (p4)))), [], hW', ?_, ?_, rfl, hg.frame _, fun h => by cases h⟩
  · exact trodAll_mk1 (shut_bool Try.underlying4 true)
  · exact trodAll_mk5 (shut_int Try.underlying23 w0) (shut_int Try.underlying3 w1) (shut_int Try.underlying3 w2) (harg3 _ hg) (harg4 _ hg)

theorem over : Rows.treeChecksRow.holds Try.pinned (OpenSpec.ofChange Rows.treeChecksSpec) :=
  OpenClaim.holds_of_wide 5 Try.f5 rfl rfl rfl rfl rfl rfl rfl ⟨rfl, rfl, rfl, rfl, rfl⟩ rfl rfl rfl rfl rfl (by kernel_rfl) Try.func5 (by kernel_rfl)
    (of_decide_eq_true (by kernel_rfl)) (by unfold Func.isWrapper; first | (rw [if_pos (by decide +kernel)]; kernel_rfl) | (rw [if_neg (by decide +kernel)]; exact ⟨rfl, rfl⟩))
    (fun os started H enc _ => lifted os started H enc)

/-- ████ THE STATEMENT ████ -/
theorem proved : Rows.TreeChecksSaid :=
  over

end Go.Proofs.Ythjmmibfgphlhaa.treeChecks
