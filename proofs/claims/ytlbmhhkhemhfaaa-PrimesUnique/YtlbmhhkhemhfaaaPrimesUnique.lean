/-
  For any number and any rising powers of primes whose product it is: these are the ones that are told: with no condition.
-/
import Derived.Test.YtlbmhhkhemhfaaaRows
import Derived.Test.YtlbmhhkhemhfaaaCalls14
import Derived.WalkKit
import Derived.ProofKit
import Derived.OpenShut
import Derived.Deep.SlicePairs
namespace Go.Proofs.Ytlbmhhkhemhfaaa.primesUnique
open Go.Proofs.Ytlbmhhkhemhfaaa.Num Go.Proofs.Ytlbmhhkhemhfaaa.Calls8 Go.Proofs.Ytlbmhhkhemhfaaa.Calls9 Go.Proofs.Ytlbmhhkhemhfaaa.Calls11 Go.Proofs.Ytlbmhhkhemhfaaa.Calls13 Go.Proofs.Ytlbmhhkhemhfaaa.Calls14
open Go.ChangeShapes Go.WideShapes Go.ChangeAt Go.RowKit Go.Deep
set_option linter.unusedVariables false

theorem own : ownKnob Try.prog.godebug = none := by kernel_rfl

theorem laidOut : laidOutB Try.prog = true := by kernel_rfl

theorem cellsP : Try.prog.cellsOf 44 = 2 := by kernel_rfl

theorem cells2 : Try.prog.cellsOf 2 = 1 := by kernel_rfl

theorem cells3 : Try.prog.cellsOf 3 = 1 := by kernel_rfl

set_option maxRecDepth 100000 in
theorem walk_out (m : Int) (hm : ¬ (1 ≤ m ∧ m ≤ 1048576)) (v : Value) (w : World) :
    Calls Try.prog 8 #[.int .i64 m, v] w fun e w' => e = .returned (.bool true) ∧ Below w.heap.size w w' := by
  have H : Hid (¬ (1 ≤ m ∧ m ≤ 1048576)) := hm
  clear hm
  go_enter Try.func8, Try.ntmps8
  go_wp2_with (first
    | (go_at_call 12; refine (Factor_no _ H.out _).mono ?_; rintro e w' ⟨rfl, hg⟩)
    | (go_at_call 22; refine (kmodulus_no _ H.out _).mono ?_; rintro e w' ⟨rfl, rfl⟩))
  go_ret
  exact ⟨rfl, hg⟩

theorem walk (m : Int) (bo : Option Addr) (cb : Nat) (l : List (Int × Int)) (hl : l.length ≤ 9223372036854775807) (w : World) (hrow : PRow w bo l) (hblk : ∀ ad, bo = some ad → l = [] ∨ ad.block < w.heap.size)
    (hK : ∀ j, j < l.length → (l.getD j (0, 0)).2 ≤ 9223372036854775807) :
    Calls Try.prog 8 #[.int .i64 m, .slice bo l.length cb] w fun e w' => e = .returned (.bool true) ∧ Below w.heap.size w w' := by
  by_cases hm : 1 ≤ m ∧ m ≤ 1048576
  · obtain ⟨n, rfl⟩ : ∃ n : Nat, m = (n : Int) := ⟨m.toNat, by omega⟩
    exact uwalk n (by omega) (by omega) bo cb l hl w hrow hblk hK
  · exact walk_out m hm _ w

theorem cell_lt {W : World} {a : Addr} {v : Value} (h : W.cell? a = some v) : a.block < W.heap.size := by
  unfold World.cell? at h
  cases hb : W.heap[a.block]? with
  | none => simp [hb] at h
  | some o => exact (Array.getElem?_eq_some_iff.1 hb).1

/-- What an argument's cells are, as a list of pairs. -/
theorem view {H : Type} {enc : TypeId × Value → H} {W : World} {sp : Nat → Bool} {hd : Bool} {v : Value} {d : DataW H} {p : List MemPlace} (hsp : ∀ b, sp b = true)
    (hlt : ∀ x ∈ p, x.block < W.heap.size) (h : DataW.Trod enc Try.prog W 0 sp hd 27 v d p) (hv : ∃ a len cap, v = .slice a len cap) :
    ∃ (bo : Option Addr) (cb : Nat) (l : List (Int × Int)), v = .slice bo l.length cb ∧ l.length ≤ 9223372036854775807 ∧ PRow W bo l ∧ (∀ ad, bo = some ad → l = [] ∨ ad.block < W.heap.size) ∧ ∀ j, j < l.length → (l.getD j (0, 0)).2 ≤ 9223372036854775807 := by
  obtain ⟨a, len, cap, rfl⟩ := hv
  obtain ⟨fuel, hf⟩ := h
  rcases open_slice_pairs Try.underlying27 Try.underlying44 cellsP rfl rfl cells2 cells3 hf with ⟨hc, hx⟩ | ⟨a', len', cap', m, n, V0, V1, D0, D1, P0, P1, hcs, hb, hl, hm, hmm, hx, hall⟩
  · simp [Value.cells] at hc
    obtain ⟨rfl, rfl, rfl⟩ := hc
    exact ⟨none, 0, [], rfl, by simp, ⟨fun _ => rfl, fun ad e => (by cases e)⟩, fun ad e => (by cases e), fun j hj => (by simp at hj)⟩
  · simp [Value.cells] at hcs
    obtain ⟨rfl, rfl, rfl⟩ := hcs
    rw [if_pos (hsp _)] at hmm
    subst hmm
    have each : ∀ i, i < len → ∃ z : Int × Int, W.cell? (a'.add (i * 2)) = some (.int .i64 z.1) ∧ W.cell? (a'.add (i * 2 + 1)) = some (.int .i64 z.2) ∧ z.2 ≤ 9223372036854775807 := by
      intro i hi
      obtain ⟨c0, c1, t0, t1⟩ := hall i (by omega)
      obtain ⟨z0, e0, _, _⟩ := DataW.trod_int Try.underlying2 t0
      obtain ⟨z1, e1, _, w1⟩ := DataW.trod_int Try.underlying3 t1
      simp at e0 e1
      rw [e0] at c0
      rw [e1] at c1
      refine ⟨(z0, z1), c0, c1, ?_⟩
      simp [Lit.wf] at w1
      simp; omega
    obtain ⟨q, hq⟩ := choose_lt each
    have hlen : ((List.range len).map q).length = len := by simp
    have hget : ∀ j, j < len → ((List.range len).map q).getD j (0, 0) = q j := fun j hj => by simp [List.getD, hj]
    refine ⟨some a', m, (List.range len).map q, by rw [hlen], ?_, ⟨fun e => (by cases e), fun ad e j hj => ?_⟩, fun ad e => ?_, fun j hj => ?_⟩
    · rw [hlen]; unfold maxLen at hm; omega
    · obtain rfl : a' = ad := by simpa using e
      rw [hlen] at hj
      rw [hget j hj]
      exact ⟨(hq j hj).1, (hq j hj).2.1⟩
    · obtain rfl : a' = ad := by simpa using e
      rcases Nat.eq_zero_or_pos len with h0 | h0
      · subst h0; exact .inl rfl
      · right
        have hc := (hq 0 h0).1
        have hlt' := cell_lt hc
        rw [add_block] at hlt'
        exact hlt'
    · rw [hlen] at hj
      rw [hget j hj]
      exact (hq j hj).2.2

set_option maxRecDepth 100000 in
theorem lifted (os : Os) (started : os.Started) (H : Type) (enc : TypeId × Value → H) :
    ReturnsInHanded {} Try.checked os 8 .any (Rows.primesUniqueSpec.pre6 enc Try.prog Try.f8 Rows.primesUniqueRow.domain false) (Rows.primesUniqueSpec.post enc Try.prog Try.f8 false true false false) := by
  refine returnsInHanded_of_change (C := Try.checked) own started (by kernel_rfl) Try.func8
    (ChangeSpec.witness6 (enc := enc) (C := Try.checked) false ⟨#[], #[.int .i64 0, .slice none 0 0], []⟩ 8 (by kernel_rfl) (by kernel_rfl) (by kernel_rfl) (by kernel_rfl)) ?_
  intro W base args ds gs before hval0 hW hcnd _
  have hval : ∀ (j : Nat) t v, Try.f8.params[j]? = some t → args[j]? = some v → Value.okWide Try.prog W .any base t v := hval0
  have hW' := hW
  obtain ⟨p, q, hA0, hV, rfl, _, _⟩ := hW
  have hA : DataW.TrodAll enc Try.prog W 0 (fun _ => true) true Try.f8.params.toList args.toList ds p := hA0
  rw [Try.params8] at hA hval
  obtain ⟨v0, v1, d0, d1, p0, p1, rfl, rfl, rfl, h0, h1⟩ := trodAll_two hA
  obtain ⟨rfl, rfl⟩ := trodVars_none hV
  obtain ⟨a0, rfl, rfl, rfl, w0⟩ := open_int Try.underlying2 (hval 0 2 v0 rfl rfl) h0
  have hsl := okWide_slice Try.underlying27 (hval 1 27 v1 rfl rfl)
  clear hA0 hval0
  simp only [List.append_nil] at hW'
  have hlt : ∀ x ∈ p1, x.block < W.heap.size := fun x hx => by simpa using hW'.lt x (by simpa using hx)
  have harg1 : ∀ (W' : World), Below W.heap.size W W' → DataW.Trod enc Try.prog W' 0 (fun b => decide (b < W.heap.size)) true 27 v1 d1 p1 :=
    fun W' hn => Below.trod laidOut (by kernel_rfl) (of_decide_eq_true (by kernel_rfl)) h1 hn hlt
  obtain ⟨bo, cb, l, rfl, hl, hrow, hblk, hK⟩ := view (fun _ => rfl) hlt h1 hsl
  refine (walk a0 bo cb l hl W hrow hblk hK).mono fun e W' ⟨he, hg⟩ => ?_
  subst he
  refine ⟨_, rfl, _, _, _, [], p1, [], hW', ?_, ?_, rfl, hg.frame _, fun h => by cases h⟩
  · exact trodAll_mk1 (shut_bool Try.underlying4 true)
  · exact trodAll_mk2 (shut_int Try.underlying2 w0) (harg1 _ hg)

theorem over : Rows.primesUniqueRow.holds Try.pinned (OpenSpec.ofChange Rows.primesUniqueSpec) :=
  OpenClaim.holds_of_wide 8 Try.f8 rfl rfl rfl rfl rfl rfl rfl ⟨rfl, rfl, rfl, rfl, rfl⟩ rfl rfl rfl rfl rfl (by kernel_rfl) Try.func8 (by kernel_rfl)
    (of_decide_eq_true (by kernel_rfl)) (by unfold Func.isWrapper; first | (rw [if_pos (by decide +kernel)]; kernel_rfl) | (rw [if_neg (by decide +kernel)]; exact ⟨rfl, rfl⟩))
    (fun os started H enc _ => lifted os started H enc)

/-- ████ THE STATEMENT ████ -/
theorem proved : Rows.PrimesUniqueSaid :=
  over

end Go.Proofs.Ytlbmhhkhemhfaaa.primesUnique
