/-
  For any points the program tells the polynomial that goes through all of them: with no condition.
-/
import Derived.Test.YtiaabkadonimjabRows
import Derived.Test.YtiaabkadonimjabCalls72
import Derived.Test.YtiaabkadonimjabCalls74
import Derived.WalkKit
import Derived.ProofKit
import Derived.OpenShut
import Derived.Carry
namespace Go.Proofs.Ytiaabkadonimjab.polyThrough
open Go.ChangeShapes Go.WideShapes Go.ChangeAt Go.RowKit Go.Deep Go.Proofs.Ytiaabkadonimjab.Base Go.Proofs.Ytiaabkadonimjab.Num Go.Proofs.Ytiaabkadonimjab.Num7 Go.Proofs.Ytiaabkadonimjab.Num13 Go.Proofs.Ytiaabkadonimjab.Num16 Go.Proofs.Ytiaabkadonimjab.Num17 Go.Proofs.Ytiaabkadonimjab.Num34 Go.Proofs.Ytiaabkadonimjab.Num35 Go.Proofs.Ytiaabkadonimjab.Base4 Go.Proofs.Ytiaabkadonimjab.Calls56 Go.Proofs.Ytiaabkadonimjab.Calls57 Go.Proofs.Ytiaabkadonimjab.Calls61 Go.Proofs.Ytiaabkadonimjab.Calls62 Go.Proofs.Ytiaabkadonimjab.Calls69 Go.Proofs.Ytiaabkadonimjab.Calls72 Go.Proofs.Ytiaabkadonimjab.Calls73 Go.Proofs.Ytiaabkadonimjab.Calls74
set_option linter.unusedVariables false

theorem own : ownKnob Try.prog.godebug = none := by kernel_rfl

theorem laidOut : laidOutB Try.prog = true := by kernel_rfl

theorem cells2 : Try.prog.cellsOf 2 = 1 := by kernel_rfl

theorem cellsP : Try.prog.cellsOf 45 = 2 := by kernel_rfl

theorem walk (p : Int) (ao : Option Addr) (cap : Nat) (l : List (Int × Int)) (kl : l.length ≤ cap) (ml : l.length ≤ 9223372036854775807) (w : World) (hrow : PRow w ao l) (hli : Lies w ao l) :
    Calls Try.prog 3 #[.int .i64 p, .slice ao l.length cap] w fun e w' => e = .returned (.bool true) ∧ Below w.heap.size w w' := by
  obtain ⟨c, hc⟩ := ptc_ex p l
  have cC := fun w' (hB : Below w.heap.size w w') => refPointsCheck_any p ao cap l c hc w' (prow_below hrow hB hli) (hli.below hB)
  by_cases h0 : c = 0
  · subst h0
    obtain ⟨P, rfl, hP, hP2, hl, hI, hD⟩ := hc.ok
    have cT := Through_yes P hP hP2 ao cap l hl hI hD hc w hrow hli
    have cR := fun w' (hB : Below w.heap.size w w') => refThrough_any P hP hP2 ao cap l hl hI hD w' (prow_below hrow hB hli) (hli.below hB)
    have HU := hid (fun a b (h : ThrIs P (px l) (py l) l.length a) (k : ThrIs P (px l) (py l) l.length b) => h.uniq hP (dist_of hI hD) k)
    have HLen : Hid (∀ a, ThrIs P (px l) (py l) l.length a → a.length ≤ 13) := fun a h => Nat.le_trans h.2.1 hl
    have cL := fun (r : List Int) (hl : r.length ≤ 13) (o1 o2 : Option Addr) (c1 c2 : Nat) w' (h1 : IRow w' o1 r) (h2 : IRow w' o2 r) => Longs_same o1 o2 c1 c2 r (by omega) w' h1 h2
    obtain ⟨n, hn⟩ : ∃ n, n = l.length := ⟨_, rfl⟩
    simp only [← hn] at cC cT cR ⊢
    clear hc hrow hI hD hn hl kl ml
    go_enter Try.func3, Try.ntmps3
    go_wp2_with (first
      | (go_at_call 9; refine cT.mono ?_; rintro e w1 ⟨⟨a, ha, o1, c1, rfl, hc1, hr1⟩, hB⟩; have HA := hid ha; have H1 := hid hr1; have hal := HLen.out a ha; clear ha hr1)
      | (go_at_call 10; refine (cC _ hB).mono ?_; rintro e w2 ⟨rfl, hB2⟩; have hB2' := below_trans hB hB2; have H2 := hid (irow_below H1.out hB2 (Nat.le_refl _)))
      | (go_at_call 12; refine (cR _ hB2').mono ?_; rintro e w3 ⟨⟨b, hb, o2, c2, rfl, hc2, hr2⟩, hB3⟩; obtain rfl : a = b := HU.out _ _ HA.out hb; have H3 := hid hr2; clear hb hr2)
      | (go_at_call 11; refine (cL a hal _ _ _ _ _ (irow_below H2.out hB3 (Nat.le_refl _)) H3.out).mono ?_; rintro e w4 ⟨rfl, hB4⟩))
    go_ret
    exact ⟨rfl, below_trans (below_trans hB2' hB3) hB4⟩
  · have cT := Through_bad p ao cap l ml c hc h0 w hrow hli
    generalize l.length = n at *
    have h1 : (c != 0) = true := by simpa using h0
    have h2 : (c == 0) = false := by simpa using h0
    clear hc hrow
    go_enter Try.func3, Try.ntmps3
    go_wp2_with (first
      | (go_at_call 9; refine cT.mono ?_; rintro e w1 ⟨rfl, hB⟩)
      | (go_at_call 10; refine (cC _ hB).mono ?_; rintro e w2 ⟨rfl, hB2⟩))
    go_ret
    exact ⟨rfl, below_trans hB hB2⟩

set_option maxRecDepth 100000 in
theorem lifted (os : Os) (started : os.Started) (H : Type) (enc : TypeId × Value → H) :
    ReturnsInHanded {} Try.checked os 3 .any (Rows.polyThroughSpec.pre6 enc Try.prog Try.f3 Rows.polyThroughRow.domain false) (Rows.polyThroughSpec.post enc Try.prog Try.f3 false true false false) := by
  refine returnsInHanded_of_change (C := Try.checked) own started (by kernel_rfl) Try.func3
    (ChangeSpec.witness6 (enc := enc) (C := Try.checked) false ⟨#[], #[.int .i64 0, .slice none 0 0], []⟩ 8 (by kernel_rfl) (by kernel_rfl) (by kernel_rfl) (by kernel_rfl)) ?_
  intro W base args ds gs before hval0 hW hcnd _
  have hval : ∀ (j : Nat) t v, Try.f3.params[j]? = some t → args[j]? = some v → Value.okWide Try.prog W .any base t v := hval0
  have hW' := hW
  obtain ⟨p, q, hA0, hV, rfl, _, _⟩ := hW
  have hA : DataW.TrodAll enc Try.prog W 0 (fun _ => true) true Try.f3.params.toList args.toList ds p := hA0
  rw [Try.params3] at hA hval
  obtain ⟨v0, v1, d0, d1, p0, p1, rfl, rfl, rfl, h0, h1⟩ := trodAll_two hA
  obtain ⟨rfl, rfl⟩ := trodVars_none hV
  obtain ⟨a0, rfl, rfl, rfl, w0⟩ := open_int Try.underlying2 (hval 0 2 v0 rfl rfl) h0
  have hsl1 := okWide_slice Try.underlying22 (hval 1 22 v1 rfl rfl)
  clear hA0 hval0
  simp only [List.append_nil, List.nil_append] at hW'
  have hlt1 : ∀ x ∈ p1, x.block < W.heap.size := fun x hx => by simpa using hW'.lt x (by simp [hx])
  have harg1 : ∀ (W' : World), Below W.heap.size W W' → DataW.Trod enc Try.prog W' 0 (fun b => decide (b < W.heap.size)) true 22 v1 d1 p1 :=
    fun W' hn => Below.trod laidOut (by kernel_rfl) (of_decide_eq_true (by kernel_rfl)) h1 hn hlt1
  obtain ⟨o1, c1, l1, rfl, m1, r1, b1, z1, k1, _⟩ := pairs_view (fun _ => rfl) Try.underlying22 Try.underlying45 cellsP rfl rfl cells2 cells2 Try.underlying2 Try.underlying2 h1 hsl1
  refine (walk a0 o1 c1 l1 k1 m1 W r1 b1).mono fun e W' ⟨he, hg⟩ => ?_
  subst he
  refine ⟨_, rfl, _, _, _, [], ([] : List MemPlace) ++ (p1), [], hW', ?_, ?_, rfl, hg.frame _, fun h => by cases h⟩
  · exact trodAll_mk1 (shut_bool Try.underlying4 true)
  · exact trodAll_mk2 (shut_int Try.underlying2 w0) (harg1 _ hg)

theorem over : Rows.polyThroughRow.holds Try.pinned (OpenSpec.ofChange Rows.polyThroughSpec) :=
  OpenClaim.holds_of_wide 3 Try.f3 rfl rfl rfl rfl rfl rfl rfl ⟨rfl, rfl, rfl, rfl, rfl⟩ rfl rfl rfl rfl rfl (by kernel_rfl) Try.func3 (by kernel_rfl)
    (of_decide_eq_true (by kernel_rfl)) (by unfold Func.isWrapper; first | (rw [if_pos (by decide +kernel)]; kernel_rfl) | (rw [if_neg (by decide +kernel)]; exact ⟨rfl, rfl⟩))
    (fun os started H enc _ => lifted os started H enc)

/-- ████ THE STATEMENT ████ -/
theorem proved : Rows.PolyThroughSaid :=
  over

end Go.Proofs.Ytiaabkadonimjab.polyThrough
