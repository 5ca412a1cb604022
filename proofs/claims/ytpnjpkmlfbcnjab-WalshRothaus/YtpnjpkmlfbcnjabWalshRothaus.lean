/-
  ROTHAUS: for any function of four variables whose waves, as the program tells them, all are as high, the degree that it tells is two; and of one of an odd number of variables they are not; of what is no function it tells errors. No condition.
-/
import Derived.Test.YtpnjpkmlfbcnjabRows
import Derived.Test.YtpnjpkmlfbcnjabCalls117
import Derived.Test.YtpnjpkmlfbcnjabNum59
import Derived.WalkKit
import Derived.ProofKit
import Derived.OpenShut
import Derived.Carry
namespace Go.Proofs.Ytpnjpkmlfbcnjab.walshRothaus
open Go.ChangeShapes Go.WideShapes Go.ChangeAt Go.RowKit Go.Deep Go.Proofs.Ytpnjpkmlfbcnjab.Base Go.Proofs.Ytpnjpkmlfbcnjab.Base2 Go.Proofs.Ytpnjpkmlfbcnjab.Num34 Go.Proofs.Ytpnjpkmlfbcnjab.Base4 Go.Proofs.Ytpnjpkmlfbcnjab.Base6 Go.Proofs.Ytpnjpkmlfbcnjab.Num41 Go.Proofs.Ytpnjpkmlfbcnjab.Num42 Go.Proofs.Ytpnjpkmlfbcnjab.Num43 Go.Proofs.Ytpnjpkmlfbcnjab.Num57 Go.Proofs.Ytpnjpkmlfbcnjab.Num58 Go.Proofs.Ytpnjpkmlfbcnjab.Num59 Go.Proofs.Ytpnjpkmlfbcnjab.Calls110 Go.Proofs.Ytpnjpkmlfbcnjab.Calls111 Go.Proofs.Ytpnjpkmlfbcnjab.Calls112 Go.Proofs.Ytpnjpkmlfbcnjab.Calls113 Go.Proofs.Ytpnjpkmlfbcnjab.Calls114 Go.Proofs.Ytpnjpkmlfbcnjab.Calls115 Go.Proofs.Ytpnjpkmlfbcnjab.Calls116 Go.Proofs.Ytpnjpkmlfbcnjab.Calls117
set_option linter.unusedVariables false

theorem own : ownKnob Try.prog.godebug = none := by kernel_rfl

theorem laidOut : laidOutB Try.prog = true := by kernel_rfl

theorem cells2 : Try.prog.cellsOf 2 = 1 := by kernel_rfl

/-- Whether all are as high, up to k. -/
def BenV (m f k : Nat) (v : Value) : Prop := ∃ b : Bool, v = .bool b ∧ (b = true ↔ BentK m f k)

theorem bent_next {m f k : Nat} : BentK m f (k + 1) ↔ BentK m f k ∧ (wf m f k = wf m f 0 ∨ wf m f k = -wf m f 0) := by
  constructor
  · exact fun h => ⟨fun u hu => h u (by omega), h k (by omega)⟩
  · rintro ⟨h1, h2⟩ u hu
    by_cases e : u = k
    · subst e; exact h2
    · exact h1 u (by omega)

set_option maxRecDepth 100000 in
set_option maxHeartbeats 1000000 in
theorem walk (n : Int) (wn : (Lit.int .i64 n).wf = true) (u : Int) (wu : (Lit.int .u32 u).wf = true) (w : World) :
    Calls Try.prog 4 #[.int .i64 n, .int .u32 u] w fun e w' => e = .returned (.bool true) ∧ Below w.heap.size w w' := by
  obtain ⟨f, hf, rfl⟩ := u32_of wu
  clear wn wu
  by_cases hF : FnOk n f
  · have cC := fun w => fn_yes n f hf hF w
    obtain ⟨m, N, rfl, hm, hN, hfN⟩ := fn_nat hF
    have cW := Waves_yes m N f hf hF hm hN w
    have cD := fun w => Degree_yes m N f hf hF hm hN w
    have hNN := pow_n hm hN
    have hNe : ((N : Int) == 0) = false := by simp; omega
    have hwb := hid (fun u (hu : u < N) => wf_bd (f := f) hm (show u < 2 ^ m by rw [← hN]; exact hu))
    have hall : Hid (BentK m f N → m % 2 = 0 ∧ (m = 4 → df m f = 2)) := fun h => bent_all (by rw [← hN]; exact h)
    clear hF hN hfN
    go_enter Try.func4, Try.ntmps4
    go_wp2_with (first
      | (go_at_call 8; refine cW.mono ?_; rintro e w1 ⟨rfl, hO, hB⟩; clear cW)
      | (go_at_call 6; refine (cD _).mono ?_; rintro e w2 ⟨rfl, hB2⟩; clear cD)
      | (go_at_call 7; refine (cC _).mono ?_; rintro e w3 ⟨rfl, hw⟩; subst w3; clear cC))
    have O1 := hid (hO.below hB2)
    have B1 := hid (below_trans hB hB2)
    clear hO hB hB2
    have hz0 := O1.out.cell (show 0 < N by omega)
    have hb0 := hwb.out 0 (by omega)
    go_loopw [9, 47] (fun v i wr => ∃ k : Nat, i = .int .i64 (k : Int) ∧ k ≤ N ∧ BenV m f k v ∧ Hid (wr = w2)) (fun v i wr => ((N : Int) - intOf i).toNat)
    case atStart => exact ⟨0, rfl, by omega, ⟨true, rfl, ⟨fun _ u hu => by omega, fun _ => rfl⟩⟩, rfl⟩
    case round =>
      obtain ⟨k, rfl, hk, ⟨b, rfl, hb⟩, hW⟩ := hrel
      by_cases hgo : k < N
      · have hgo' : (k : Int) < (N : Int) := by omega
        have c1 := O1.out.cell hgo
        rw [← hW.out] at c1 hz0
        have hbd := hwb.out k hgo
        have hnx := hid (bent_next (m := m) (f := f) (k := k))
        have HB := hid hb
        clear hb
        obtain ⟨z, hz⟩ : ∃ z, z = wf m f k := ⟨_, rfl⟩
        obtain ⟨y, hy⟩ : ∃ y, y = wf m f 0 := ⟨_, rfl⟩
        rw [← hz, ← hy] at hnx
        rw [← hz] at c1 hbd
        rw [← hy] at hz0 hb0
        clear hz hy
        have hng : IntKind.i64.wrap (-y) = -y := wrap_in _ (by omega) (by omega)
        cases b with
        | false =>
          have hv : Hid (BenV m f (k + 1) (.bool false)) := ⟨false, rfl, ⟨fun e => (by cases e), fun h => HB.out.2 (hnx.out.1 h).1⟩⟩
          go_wp2
          go_roundw
          case rel => exact ⟨k + 1, by simp, by omega, hv.out, hW⟩
          case measure => exact measK hgo
        | true =>
          have hB := hid (HB.out.1 rfl)
          by_cases h1 : z = y
          · subst h1
            have hv : Hid (BenV m f (k + 1) (.bool true)) := ⟨true, rfl, ⟨fun _ => hnx.out.2 ⟨hB.out, .inl rfl⟩, fun _ => rfl⟩⟩
            go_wp2
            go_roundw
            case rel => exact ⟨k + 1, by simp, by omega, hv.out, hW⟩
            case measure => exact measK hgo
          · have h1' : (z == y) = false := by simpa using h1
            by_cases h2 : z = -y
            · subst h2
              have hv : Hid (BenV m f (k + 1) (.bool true)) := ⟨true, rfl, ⟨fun _ => hnx.out.2 ⟨hB.out, .inr rfl⟩, fun _ => rfl⟩⟩
              go_wp2
              go_roundw
              case rel => exact ⟨k + 1, by simp, by omega, hv.out, hW⟩
              case measure => exact measK hgo
            · have h2' : (z == -y) = false := by simpa using h2
              have hv : Hid (BenV m f (k + 1) (.bool false)) := ⟨false, rfl, ⟨fun e => (by cases e), fun h => by
                rcases (hnx.out.1 h).2 with e | e
                · exact absurd e h1
                · exact absurd e h2⟩⟩
              go_wp2
              go_roundw
              case rel => exact ⟨k + 1, by simp, by omega, hv.out, hW⟩
              case measure => exact measK hgo
      · have hgo' : ¬ (k : Int) < (N : Int) := by omega
        obtain rfl : k = N := by omega
        have HB := hid hb
        clear hb
        cases b with
        | false =>
          go_wp2
          go_ret
          exact ⟨rfl, by rw [hW.out]; exact B1.out⟩
        | true =>
          obtain ⟨g1, g2⟩ := hall.out (HB.out.1 rfl)
          have g1' : ((m : Int) % 2 == 0) = true := by simp; omega
          generalize df m f = d at *
          by_cases h4 : m = 4
          · obtain rfl := g2 h4
            subst h4
            clear hwb HB
            go_wp2
            go_ret
            exact ⟨rfl, by rw [hW.out]; exact B1.out⟩
          · have h4' : ((m : Int) != 4) = true := by simp; omega
            have h4'' : ¬ (m : Int) = 4 := by omega
            clear g2
            go_wp2
            go_ret
            exact ⟨rfl, by rw [hW.out]; exact B1.out⟩
  · have cC := fun w => fn_no n f hf hF w
    have cW := Waves_no n f hf hF w
    have cD := Degree_no n f hf hF w
    clear hF
    go_enter Try.func4, Try.ntmps4
    go_wp2_with (first
      | (go_at_call 8; refine cW.mono ?_; rintro e w1 ⟨rfl, hw⟩; subst w1)
      | (go_at_call 6; refine cD.mono ?_; rintro e w2 ⟨rfl, hw⟩; subst w2)
      | (go_at_call 7; refine (cC _).mono ?_; rintro e w2 ⟨rfl, hw⟩; subst w2))
    go_ret
    exact ⟨rfl, Below.refl _ _⟩

set_option maxRecDepth 100000 in
theorem lifted (os : Os) (started : os.Started) (H : Type) (enc : TypeId × Value → H) :
    ReturnsInHanded {} Try.checked os 4 .any (Rows.walshRothausSpec.pre6 enc Try.prog Try.f4 Rows.walshRothausRow.domain false) (Rows.walshRothausSpec.post enc Try.prog Try.f4 false true false false) := by
  refine returnsInHanded_of_change (C := Try.checked) own started (by kernel_rfl) Try.func4
    (ChangeSpec.witness6 (enc := enc) (C := Try.checked) false ⟨#[], #[.int .i64 0, .int .u32 0], []⟩ 8 (by kernel_rfl) (by kernel_rfl) (by kernel_rfl) (by kernel_rfl)) ?_
  intro W base args ds gs before hval0 hW hcnd _
  have hval : ∀ (j : Nat) t v, Try.f4.params[j]? = some t → args[j]? = some v → Value.okWide Try.prog W .any base t v := hval0
  have hW' := hW
  obtain ⟨p, q, hA0, hV, rfl, _, _⟩ := hW
  have hA : DataW.TrodAll enc Try.prog W 0 (fun _ => true) true Try.f4.params.toList args.toList ds p := hA0
  rw [Try.params4] at hA hval
  obtain ⟨v0, v1, d0, d1, p0, p1, rfl, rfl, rfl, h0, h1⟩ := trodAll_two hA
  obtain ⟨rfl, rfl⟩ := trodVars_none hV
  obtain ⟨a0, rfl, rfl, rfl, w0⟩ := open_int Try.underlying3 (hval 0 3 v0 rfl rfl) h0
  obtain ⟨a1, rfl, rfl, rfl, w1⟩ := open_int Try.underlying22 (hval 1 22 v1 rfl rfl) h1
  clear hA0 hval0
  simp only [List.append_nil] at hW'
  refine (walk a0 w0 a1 w1 W ).mono fun e W' ⟨he, hg⟩ => ?_
  subst he
  refine ⟨_, rfl, _, _, _, [], ([] : List MemPlace) ++ (([] : List MemPlace)), [], hW', ?_, ?_, rfl, hg.frame _, fun h => by cases h⟩
  · exact trodAll_mk1 (shut_bool Try.underlying4 true)
  · exact trodAll_mk2 (shut_int Try.underlying3 w0) (shut_int Try.underlying22 w1)

theorem over : Rows.walshRothausRow.holds Try.pinned (OpenSpec.ofChange Rows.walshRothausSpec) :=
  OpenClaim.holds_of_wide 4 Try.f4 rfl rfl rfl rfl rfl rfl rfl ⟨rfl, rfl, rfl, rfl, rfl⟩ rfl rfl rfl rfl rfl (by kernel_rfl) Try.func4 (by kernel_rfl)
    (of_decide_eq_true (by kernel_rfl)) (by unfold Func.isWrapper; first | (rw [if_pos (by decide +kernel)]; kernel_rfl) | (rw [if_neg (by decide +kernel)]; exact ⟨rfl, rfl⟩))
    (fun os started H enc _ => lifted os started H enc)

/-- ████ THE STATEMENT ████ -/
theorem proved : Rows.WalshRothausSaid :=
  over

end Go.Proofs.Ytpnjpkmlfbcnjab.walshRothaus
