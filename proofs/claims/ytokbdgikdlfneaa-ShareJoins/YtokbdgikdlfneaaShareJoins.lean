/-
  For any points the program tells what they have in common at 0, or the document's error: with no condition.
-/
import Derived.Test.YtokbdgikdlfneaaRows
import Derived.Test.YtokbdgikdlfneaaCalls91
import Derived.WalkKit
import Derived.ProofKit
import Derived.OpenShut
import Derived.Carry
namespace Go.Proofs.Ytokbdgikdlfneaa.shareJoins
open Go.ChangeShapes Go.WideShapes Go.ChangeAt Go.RowKit Go.Deep Go.Proofs.Ytokbdgikdlfneaa.Base Go.Proofs.Ytokbdgikdlfneaa.Base2 Go.Proofs.Ytokbdgikdlfneaa.Num Go.Proofs.Ytokbdgikdlfneaa.Num7 Go.Proofs.Ytokbdgikdlfneaa.Num13 Go.Proofs.Ytokbdgikdlfneaa.Num16 Go.Proofs.Ytokbdgikdlfneaa.Num17 Go.Proofs.Ytokbdgikdlfneaa.Num34 Go.Proofs.Ytokbdgikdlfneaa.Num35 Go.Proofs.Ytokbdgikdlfneaa.Num39 Go.Proofs.Ytokbdgikdlfneaa.Base4 Go.Proofs.Ytokbdgikdlfneaa.Calls56 Go.Proofs.Ytokbdgikdlfneaa.Calls57 Go.Proofs.Ytokbdgikdlfneaa.Calls69 Go.Proofs.Ytokbdgikdlfneaa.Calls87 Go.Proofs.Ytokbdgikdlfneaa.Calls88 Go.Proofs.Ytokbdgikdlfneaa.Calls91
set_option linter.unusedVariables false

theorem own : ownKnob Try.prog.godebug = none := by kernel_rfl

theorem laidOut : laidOutB Try.prog = true := by kernel_rfl

theorem cells2 : Try.prog.cellsOf 2 = 1 := by kernel_rfl

theorem cellsP : Try.prog.cellsOf 39 = 2 := by kernel_rfl

set_option maxRecDepth 100000 in
theorem walk (p : Int) (ao : Option Addr) (cap : Nat) (l : List (Int × Int)) (kl : l.length ≤ cap) (ml : l.length ≤ 9223372036854775807) (w : World) (hrow : PRow w ao l) (hli : Lies w ao l) :
    Calls Try.prog 4 #[.int .i64 p, .slice ao l.length cap] w fun e w' => e = .returned (.bool true) ∧ Below w.heap.size w w' := by
  obtain ⟨c, hc⟩ := jnc_ex p l
  have cJ := Join_any p ao cap l ml c hc w hrow
  have cC := fun w' (hB : Below w.heap.size w w') => refJoinCheck_any p ao cap l ml c hc w' (pb hrow hB)
  by_cases h0 : c = 0
  · subst h0
    obtain ⟨hpt, hz⟩ := hc.ok
    obtain ⟨P, rfl, hP, hP2, hl, hI, hD⟩ := hpt.ok
    have cR := fun v (hv : JoinIs P (px l) (py l) l.length v) w' (hB : Below w.heap.size w w') => refJoin_any P hP hP2 ao cap l hl hI hD v hv w' (pb hrow hB)
    obtain ⟨n, hn⟩ : ∃ n, n = l.length := ⟨_, rfl⟩
    replace cJ := cJ.mono (R' := fun e w1 => (∃ v, Hid (JoinIs P (px l) (py l) l.length v) ∧ e = .returned (.tuple #[.int .i64 v, .int .i64 0])) ∧ Below w.heap.size w w1) (fun e w1 h => ⟨by
      obtain ⟨v, he, _, hv⟩ := h.1
      have := hv rfl
      rw [Int.toNat_natCast] at this
      exact ⟨v, this, he⟩, h.2⟩)
    simp only [← hn] at cC cJ cR ⊢
    clear hc hrow hI hD hn hl kl ml hpt hz hli
    go_enter Try.func4, Try.ntmps4
    go_wp2_with (first
      | (go_at_call 13; refine cJ.mono ?_; rintro e w1 ⟨⟨v, HV, rfl⟩, hB⟩)
      | (go_at_call 14; refine (cC _ hB).mono ?_; rintro e w2 ⟨rfl, hB2⟩; have hB2' := below_trans hB hB2)
      | (go_at_call 15; refine (cR v HV.out _ hB2').mono ?_; rintro e w3 ⟨rfl, hB3⟩))
    go_ret
    exact ⟨rfl, below_trans hB2' hB3⟩
  · replace cJ := cJ.mono (R' := fun e w1 => e = .returned (.tuple #[.int .i64 0, .int .i64 c]) ∧ Below w.heap.size w w1) (fun e w1 h => ⟨by
      obtain ⟨v, he, hv, _⟩ := h.1
      rw [he, hv h0], h.2⟩)
    have h1 : (c != 0) = true := by simpa using h0
    have h2 : (c == 0) = false := by simpa using h0
    generalize l.length = n at *
    clear hc hrow
    go_enter Try.func4, Try.ntmps4
    go_wp2_with (first
      | (go_at_call 13; refine cJ.mono ?_; rintro e w1 ⟨rfl, hB⟩)
      | (go_at_call 14; refine (cC _ hB).mono ?_; rintro e w2 ⟨rfl, hB2⟩))
    go_ret
    exact ⟨rfl, below_trans hB hB2⟩

set_option maxRecDepth 100000 in
theorem lifted (os : Os) (started : os.Started) (H : Type) (enc : TypeId × Value → H) :
    ReturnsInHanded {} Try.checked os 4 .any (Rows.shareJoinsSpec.pre6 enc Try.prog Try.f4 Rows.shareJoinsRow.domain false) (Rows.shareJoinsSpec.post enc Try.prog Try.f4 false true false false) := by
  refine returnsInHanded_of_change (C := Try.checked) own started (by kernel_rfl) Try.func4
    (ChangeSpec.witness6 (enc := enc) (C := Try.checked) false ⟨#[], #[.int .i64 0, .slice none 0 0], []⟩ 8 (by kernel_rfl) (by kernel_rfl) (by kernel_rfl) (by kernel_rfl)) ?_
  intro W base args ds gs before hval0 hW hcnd _
  have hval : ∀ (j : Nat) t v, Try.f4.params[j]? = some t → args[j]? = some v → Value.okWide Try.prog W .any base t v := hval0
  have hW' := hW
  obtain ⟨p, q, hA0, hV, rfl, _, _⟩ := hW
  have hA : DataW.TrodAll enc Try.prog W 0 (fun _ => true) true Try.f4.params.toList args.toList ds p := hA0
  rw [Try.params4] at hA hval
  obtain ⟨v0, v1, d0, d1, p0, p1, rfl, rfl, rfl, h0, h1⟩ := trodAll_two hA
  obtain ⟨rfl, rfl⟩ := trodVars_none hV
  obtain ⟨a0, rfl, rfl, rfl, w0⟩ := open_int Try.underlying2 (hval 0 2 v0 rfl rfl) h0
  have hsl1 := okWide_slice Try.underlying23 (hval 1 23 v1 rfl rfl)
  clear hA0 hval0
  simp only [List.append_nil, List.nil_append] at hW'
  have hlt1 : ∀ x ∈ p1, x.block < W.heap.size := fun x hx => by simpa using hW'.lt x (by simp [hx])
  have harg1 : ∀ (W' : World), Below W.heap.size W W' → DataW.Trod enc Try.prog W' 0 (fun b => decide (b < W.heap.size)) true 23 v1 d1 p1 :=
    fun W' hn => Below.trod laidOut (by kernel_rfl) (of_decide_eq_true (by kernel_rfl)) h1 hn hlt1
  obtain ⟨o1, c1, l1, rfl, m1, r1, b1, z1, k1, _⟩ := pairs_view (fun _ => rfl) Try.underlying23 Try.underlying39 cellsP rfl rfl cells2 cells2 Try.underlying2 Try.underlying2 h1 hsl1
  refine (walk a0 o1 c1 l1 k1 m1 W r1 b1).mono fun e W' ⟨he, hg⟩ => ?_
  subst he
  refine ⟨_, rfl, _, _, _, [], ([] : List MemPlace) ++ (p1), [], hW', ?_, ?_, rfl, hg.frame _, fun h => by cases h⟩
  · exact trodAll_mk1 (shut_bool Try.underlying4 true)
  · exact trodAll_mk2 (shut_int Try.underlying2 w0) (harg1 _ hg)

theorem over : Rows.shareJoinsRow.holds Try.pinned (OpenSpec.ofChange Rows.shareJoinsSpec) :=
  OpenClaim.holds_of_wide 4 Try.f4 rfl rfl rfl rfl rfl rfl rfl ⟨rfl, rfl, rfl, rfl, rfl⟩ rfl rfl rfl rfl rfl (by kernel_rfl) Try.func4 (by kernel_rfl)
    (of_decide_eq_true (by kernel_rfl)) (by unfold Func.isWrapper; first | (rw [if_pos (by decide +kernel)]; kernel_rfl) | (rw [if_neg (by decide +kernel)]; exact ⟨rfl, rfl⟩))
    (fun os started H enc _ => lifted os started H enc)

/-- ████ THE STATEMENT ████ -/
theorem proved : Rows.ShareJoinsSaid :=
  over

end Go.Proofs.Ytokbdgikdlfneaa.shareJoins
