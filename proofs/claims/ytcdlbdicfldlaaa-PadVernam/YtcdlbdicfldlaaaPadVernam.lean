/-
  VERNAM, SHANNON: to add a key that is any of as many tells nothing, and can be read.
-/
import Derived.Test.YtcdlbdicfldlaaaRows
import Derived.Test.YtcdlbdicfldlaaaCalls102
import Derived.WalkKit
import Derived.ProofKit
import Derived.OpenShut
import Derived.Carry
namespace Go.Proofs.Ytcdlbdicfldlaaa.padVernam
open Go.ChangeShapes Go.WideShapes Go.ChangeAt Go.RowKit Go.Deep Go.Proofs.Ytcdlbdicfldlaaa.Base Go.Proofs.Ytcdlbdicfldlaaa.Base2 Go.Proofs.Ytcdlbdicfldlaaa.Num16 Go.Proofs.Ytcdlbdicfldlaaa.Num17 Go.Proofs.Ytcdlbdicfldlaaa.Num34 Go.Proofs.Ytcdlbdicfldlaaa.Num40 Go.Proofs.Ytcdlbdicfldlaaa.Base4 Go.Proofs.Ytcdlbdicfldlaaa.Base5 Go.Proofs.Ytcdlbdicfldlaaa.Calls96 Go.Proofs.Ytcdlbdicfldlaaa.Calls97 Go.Proofs.Ytcdlbdicfldlaaa.Calls98 Go.Proofs.Ytcdlbdicfldlaaa.Calls99 Go.Proofs.Ytcdlbdicfldlaaa.Calls100 Go.Proofs.Ytcdlbdicfldlaaa.Calls101 Go.Proofs.Ytcdlbdicfldlaaa.Calls102
set_option linter.unusedVariables false

theorem own : ownKnob Try.prog.godebug = none := by kernel_rfl

theorem laidOut : laidOutB Try.prog = true := by kernel_rfl

theorem cells2 : Try.prog.cellsOf 2 = 1 := by kernel_rfl

set_option maxRecDepth 100000 in
set_option maxHeartbeats 2000000 in
theorem walk_in (N : Nat) (h1 : 1 ≤ N) (h2 : N ≤ 16) (w : World) :
    Calls Try.prog 8 #[.int .i64 (N : Int)] w fun e w' => e = .returned (.bool true) ∧ Below w.heap.size w w' := by
  obtain ⟨i0, hi, hz0, hz1, hz2⟩ := infoN_ex
  obtain ⟨i1, gi, gz0, gz1, gz2⟩ := infoS_ex
  have d1 : decide ((N : Int) < 1) = false := by simp; omega
  have d2 : decide ((16 : Int) < (N : Int)) = false := by simp; omega
  have hn0 : ¬ N = 0 := by omega
  have hn0' : ¬ (N : Int) = 0 := by omega
  go_enter Try.func8, Try.ntmps8
  go_wp2
  go_loopw [3, 4] (fun v i wr => ∃ k : Nat, i = .int .i64 (k : Int) ∧ k ≤ N ∧ Hid (Tab wr w.heap.size v k (fun k => mk N (fun m => vern N k m))) ∧ Hid (Below w.heap.size w wr)) (fun v i wr => ((N : Int) - intOf i).toNat)
  case atStart => exact ⟨0, rfl, by omega, Tab.nil _ _ _, Below.refl _ _⟩
  case round =>
    rename_i tv _
    obtain ⟨k, rfl, hk, HT, HB⟩ := hrel
    by_cases hgo : k < N
    · have hgo' : (k : Int) < (N : Int) := by omega
      obtain ⟨W1, hW1⟩ : ∃ W1, W1 = wr := ⟨_, rfl⟩
      rw [← hW1] at HT HB ⊢
      clear hW1
      go_wp2
      go_loopw [5, 6] (fun v i wr => ∃ m : Nat, i = .int .i64 (m : Int) ∧ m ≤ N ∧ Hid (wr.ownsRow W1.heap.size 3 1 v m (ivals (mk m (fun m => vern N k m)))) ∧ Hid (Below W1.heap.size W1 wr)) (fun v i wr => ((N : Int) - intOf i).toNat)
      case atStart => exact ⟨0, rfl, by omega, World.ownsRow_nil _ _ _ _, Below.refl _ _⟩
      case round =>
        obtain ⟨m, rfl, hm, HO, HX⟩ := hrel
        by_cases hgo2 : m < N
        · have hgo2' : (m : Int) < (N : Int) := by omega
          have hv : ((m : Int) + (k : Int)) % (N : Int) = vern N k m := by unfold vern; simp
          have hsn : Hid (ivals (mk (m + 1) (fun m => vern N k m)) = ivals (mk m (fun m => vern N k m)) ++ [.int .i64 (vern N k m)]) := ivals_succ m _
          have hXs := HX.out.size
          generalize vern N k m = x at *
          go_wp2_with (at_builtin; refine wpList_append_own _ rfl _ _ 30 rfl W1.heap.size 3 i0 (.int .i64 0) 1 8 Try.underlying30 hi hz0 hz1 hz2 rfl (by decide) _ _ _ rfl (HO.out.alloc _) ⟨wr.heap.size, 0, none⟩ 1 1 [.int .i64 x] rfl rfl one_cell (by simp [Value.oneCell']) (by unfold maxLen; omega) (by omega) (by simp; omega) ?_; intro v' w3 hown' hgrow _; have HO3 := hid hown'; have HB3 := hid (below_snoc HX.out (Nat.le_refl _) HO.out hgrow); clear hown' hgrow)
          go_roundw
          case rel => exact ⟨m + 1, by simp, by omega, by show World.ownsRow _ _ _ _ _ _ _; rw [hsn.out]; exact HO3.out, HB3⟩
          case measure => exact measK hgo2
        · have hgo2' : ¬ (m : Int) < (N : Int) := by omega
          obtain rfl : m = N := by omega
          obtain ⟨vs, hown, hrows⟩ := HT.out.below HX.out
          obtain ⟨vs1, hown1, _⟩ := HT.out
          have HV := hid hown
          have HRs := hid hrows
          have HL := hid hown1.lt
          obtain ⟨g, cap, hrv, hg1, hg2, hcp, hcell⟩ : ∃ g cap, _ = Value.slice (some ⟨g, 0, none⟩) m cap ∧ W1.heap.size ≤ g ∧ g < wr.heap.size ∧ m ≤ cap ∧ Hid (∀ i, i < m → wr.cell? ⟨g, i, none⟩ = some (.int .i64 (vern m k i))) := by
            rcases HO.out.2 with ⟨_, hn⟩ | ⟨g, cap, cur, e, hb, hg, hnc, hcm, hcs, htake⟩
            · omega
            · refine ⟨g, cap, e, hb, (Array.getElem?_eq_some_iff.1 hg).1, hnc, fun i hi => ?_⟩
              have hO := HO.out
              rw [e] at hO
              rw [World.ownsRow.cellAt hO i (by omega), ivals_get (by rw [mk_length]; exact hi), co_mk, if_pos hi]
          subst hrv
          have hXs := HX.out.size
          have hBs := HB.out.size
          clear HO hown hrows hown1 HT
          go_wp2_with (at_builtin; refine wpList_append_own0 _ rfl _ _ 22 rfl w.heap.size 30 i1 (.slice none 0 0) 1 24 Try.underlying22 gi gz0 gz1 gz2 rfl (by decide) _ k vs rfl (HV.out.alloc _) ⟨wr.heap.size, 0, none⟩ 1 1 [.slice (some ⟨g, 0, none⟩) m cap] rfl rfl one_cell (by simp [Value.oneCell']) (by omega) (by unfold maxLen; omega) (by omega) (by simp; omega) ?_; intro g' cap' w3 hown' hgrow hor _; have HO3 := hid hown'; have HG3 := hid hgrow; have HR3 := hid hor; have HB3 := hid (below_snoc (below_trans HB.out HX.out) (Nat.le_refl _) HV.out hgrow); clear hown' hgrow hor)
          have HF := hid (Tab.snoc (f := fun k => mk m (fun i => vern m k i)) HV.out HRs.out ⟨g, cap, by rw [mk_length], by rw [mk_length]; exact hcp, fun e => by have := HL.out g e; omega, hg2, fun i hi => by rw [mk_length] at hi; rw [hcell.out i hi, co_mk, if_pos hi]⟩ HO3.out HG3.out HR3.out)
          go_roundw
          case rel => exact ⟨k + 1, by simp, by omega, HF, HB3⟩
          case measure => exact measK hgo
    · have hgo' : ¬ (k : Int) < (N : Int) := by omega
      obtain rfl : k = N := by omega
      obtain ⟨ao, cap, hv, hc, hr⟩ := Tab.row HT.out h1 (fun j hj => by rw [mk_length]; omega)
      have hr' : RRow wr ao (vnL k) := hr
      have cP := fun w' (hB : Below wr.heap.size wr w') => Perfect_yes ao cap (vnL k) (vnL_ci h1 h2) true ⟨fun _ => vnL_perf h1, fun _ => rfl⟩ (by rw [vnL_length]; omega) w' (rb hr' hB)
      have cQ := fun w' (hB : Below wr.heap.size wr w') => Plain_yes ao cap (vnL k) (vnL_ci h1 h2) true ⟨fun _ => vnL_plain, fun _ => rfl⟩ (by rw [vnL_length]; omega) w' (rb hr' hB)
      rw [vnL_length] at cP cQ
      subst hv
      clear HT hr hr'
      have cP0 := cP wr (Below.refl _ _)
      go_wp2_with (first
        | (go_at_call 13; refine cP0.mono ?_; rintro e w2 ⟨rfl, hB2⟩)
        | (go_at_call 11; refine (cQ _ hB2).mono ?_; rintro e w3 ⟨rfl, hB3⟩))
      go_ret
      exact ⟨rfl, below_trans HB.out (below_trans hB2 hB3)⟩

theorem walk (n : Int) (wn : (Lit.int .i64 n).wf = true) (w : World) :
    Calls Try.prog 8 #[.int .i64 n] w fun e w' => e = .returned (.bool true) ∧ Below w.heap.size w w' := by
  clear wn
  by_cases h1 : n < 1
  · go_enter Try.func8, Try.ntmps8
    go_wp2
    go_ret
    exact ⟨rfl, Below.refl _ _⟩
  · by_cases h2 : 16 < n
    · have h1' : decide (n < 1) = false := by simpa using h1
      go_enter Try.func8, Try.ntmps8
      go_wp2
      go_ret
      exact ⟨rfl, Below.refl _ _⟩
    · obtain ⟨N, rfl⟩ : ∃ N : Nat, n = (N : Int) := ⟨n.toNat, by omega⟩
      exact walk_in N (by omega) (by omega) w

set_option maxRecDepth 100000 in
theorem lifted (os : Os) (started : os.Started) (H : Type) (enc : TypeId × Value → H) :
    ReturnsInHanded {} Try.checked os 8 .any (Rows.padVernamSpec.pre6 enc Try.prog Try.f8 Rows.padVernamRow.domain false) (Rows.padVernamSpec.post enc Try.prog Try.f8 false true false false) := by
  refine returnsInHanded_of_change (C := Try.checked) own started (by kernel_rfl) Try.func8
    (ChangeSpec.witness6 (enc := enc) (C := Try.checked) false ⟨#[], #[.int .i64 0], []⟩ 8 (by kernel_rfl) (by kernel_rfl) (by kernel_rfl) (by kernel_rfl)) ?_
  intro W base args ds gs before hval0 hW hcnd _
  have hval : ∀ (j : Nat) t v, Try.f8.params[j]? = some t → args[j]? = some v → Value.okWide Try.prog W .any base t v := hval0
  have hW' := hW
  obtain ⟨p0, q, hA0, hV, rfl, _, _⟩ := hW
  have hA : DataW.TrodAll enc Try.prog W 0 (fun _ => true) true Try.f8.params.toList args.toList ds p0 := hA0
  rw [Try.params8] at hA hval
  obtain ⟨v0, d0, rfl, rfl, h0⟩ := trodAll_one hA
  obtain ⟨rfl, rfl⟩ := trodVars_none hV
  obtain ⟨a0, rfl, rfl, rfl, w0⟩ := open_int Try.underlying3 (hval 0 3 v0 rfl rfl) h0
  clear hA0 hval0
  simp only [List.append_nil] at hW'
  refine (walk a0 w0 W ).mono fun e W' ⟨he, hg⟩ => ?_
  subst he
  refine ⟨_, rfl, _, _, _, [], ([] : List MemPlace), [], hW', ?_, ?_, rfl, hg.frame _, fun h => by cases h⟩
  · exact trodAll_mk1 (shut_bool Try.underlying4 true)
  · exact trodAll_mk1 (shut_int Try.underlying3 w0)

theorem over : Rows.padVernamRow.holds Try.pinned (OpenSpec.ofChange Rows.padVernamSpec) :=
  OpenClaim.holds_of_wide 8 Try.f8 rfl rfl rfl rfl rfl rfl rfl ⟨rfl, rfl, rfl, rfl, rfl⟩ rfl rfl rfl rfl rfl (by kernel_rfl) Try.func8 (by kernel_rfl)
    (of_decide_eq_true (by kernel_rfl)) (by unfold Func.isWrapper; first | (rw [if_pos (by decide +kernel)]; kernel_rfl) | (rw [if_neg (by decide +kernel)]; exact ⟨rfl, rfl⟩))
    (fun os started H enc _ => lifted os started H enc)

/-- ████ THE STATEMENT ████ -/
theorem proved : Rows.PadVernamSaid :=
  over

end Go.Proofs.Ytcdlbdicfldlaaa.padVernam
