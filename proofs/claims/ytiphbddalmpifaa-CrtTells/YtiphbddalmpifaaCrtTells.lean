/-
  For any rests the program tells one that just those numbers fit that fit all, or that none fits: with no condition.
-/
import Derived.Test.YtiphbddalmpifaaRows
import Derived.Test.YtiphbddalmpifaaCalls28
import Derived.WalkKit
import Derived.ProofKit
import Derived.OpenShut
namespace Go.Proofs.Ytiphbddalmpifaa.crtTells
open Go.ChangeShapes Go.WideShapes Go.ChangeAt Go.RowKit Go.Deep Go.Proofs.Ytiphbddalmpifaa.Base Go.Proofs.Ytiphbddalmpifaa.Num14 Go.Proofs.Ytiphbddalmpifaa.Num27 Go.Proofs.Ytiphbddalmpifaa.Calls24 Go.Proofs.Ytiphbddalmpifaa.Calls25 Go.Proofs.Ytiphbddalmpifaa.Calls26 Go.Proofs.Ytiphbddalmpifaa.Calls27 Go.Proofs.Ytiphbddalmpifaa.Calls28
open Go.Proofs.Ytiphbddalmpifaa.Calls1 (refMod_any)
set_option linter.unusedVariables false

theorem own : ownKnob Try.prog.godebug = none := by kernel_rfl

theorem laidOut : laidOutB Try.prog = true := by kernel_rfl

theorem cellsR : Try.prog.cellsOf 24 = 2 := by kernel_rfl

theorem cells2 : Try.prog.cellsOf 2 = 1 := by kernel_rfl

theorem walk_large (bo : Option Addr) (cb : Nat) (l : List (Int × Int)) (hl : 8 < l.length) (w : World) :
    Calls Try.prog 3 #[.slice bo l.length cb] w fun e w' => e = .returned (.bool true) ∧ Below w.heap.size w w' := by
  have cS := fun w => Solve_large bo cb l hl w
  have cC := fun w => RestsCheck_large bo cb l hl w
  clear hl
  go_enter Try.func3, Try.ntmps3
  go_wp2_with (first
    | (go_at_call 6; refine (cS _).mono ?_; rintro e w1 ⟨rfl, hB1⟩)
    | (go_at_call 7; refine (cC _).mono ?_; rintro e w2 ⟨rfl, hB2⟩; obtain ⟨k0, k1⟩ := box_cells hB2))
  go_ret
  exact ⟨rfl, below_trans (below_trans hB1 ((Below.refl _ _).alloc (Nat.le_refl _) _)) hB2⟩

theorem walk_range (bo : Option Addr) (cb : Nat) (l : List (Int × Int)) (hl : l.length ≤ 8) (w : World) (hrow : PRow w bo l) (hblk : Lies w bo l) (h : ¬ InR l) :
    Calls Try.prog 3 #[.slice bo l.length cb] w fun e w' => e = .returned (.bool true) ∧ Below w.heap.size w w' := by
  have HS := hid (Solve_range bo cb l hl w hrow hblk h)
  have HC := hid (fun W (hB : Below w.heap.size w W) => RestsCheck_no bo cb l hl W (prow_below hrow hB hblk) (hblk.below hB) h)
  clear h
  go_enter Try.func3, Try.ntmps3
  go_wp2_with (first
    | (go_at_call 6; refine HS.out.mono ?_; rintro e w1 ⟨rfl, hB1⟩)
    | (go_at_call 7; refine (HC.out _ (hB1.alloc hB1.size _)).mono ?_; rintro e w2 ⟨rfl, hB2⟩; obtain ⟨k0, k1⟩ := box_cells hB2))
  go_ret
  exact ⟨rfl, below_trans (below_trans hB1 ((Below.refl _ _).alloc (Nat.le_refl _) _)) hB2⟩

theorem walk_none (bo : Option Addr) (cb : Nat) (l : List (Int × Int)) (hl : l.length ≤ 8) (w : World) (hrow : PRow w bo l) (hblk : Lies w bo l) (h : InR l) (hc : ¬ Fitted l) :
    Calls Try.prog 3 #[.slice bo l.length cb] w fun e w' => e = .returned (.bool true) ∧ Below w.heap.size w w' := by
  have HS := hid (Solve_none bo cb l hl w hrow hblk h hc)
  have HC := hid (fun W (hB : Below w.heap.size w W) => RestsCheck_yes bo cb l hl W (prow_below hrow hB hblk) (hblk.below hB) h)
  have HF := hid (fun W (hB : Below w.heap.size w W) => Fit_no bo cb l hl W (prow_below hrow hB hblk) (hblk.below hB) h hc)
  clear h hc
  go_enter Try.func3, Try.ntmps3
  go_wp2_with (first
    | (go_at_call 6; refine HS.out.mono ?_; rintro e w1 ⟨rfl, hB1⟩)
    | (go_at_call 7; refine (HC.out _ (hB1.alloc hB1.size _)).mono ?_; rintro e w2 ⟨rfl, hB2⟩)
    | (go_at_call 8; refine (HF.out _ (below_trans (hB1.alloc hB1.size _) hB2)).mono ?_; rintro e w3 ⟨rfl, hB3⟩; obtain ⟨k0, k1⟩ := box_cells (below_trans hB2 hB3)))
  go_ret
  exact ⟨rfl, below_trans (below_trans hB1 ((Below.refl _ _).alloc (Nat.le_refl _) _)) (below_trans hB2 hB3)⟩

set_option maxRecDepth 100000 in
theorem walk_yes (bo : Option Addr) (cb : Nat) (l : List (Int × Int)) (hl : l.length ≤ 8) (w : World) (hrow : PRow w bo l) (hblk : Lies w bo l) (h : InR l) (hc : Fitted l) :
    Calls Try.prog 3 #[.slice bo l.length cb] w fun e w' => e = .returned (.bool true) ∧ Below w.heap.size w w' := by
  have HS := hid (Solve_yes bo cb l hl w hrow hblk h hc)
  have HC := hid (fun W (hB : Below w.heap.size w W) => RestsCheck_yes bo cb l hl W (prow_below hrow hB hblk) (hblk.below hB) h)
  have HF := hid (fun W (hB : Below w.heap.size w W) => Fit_yes bo cb l hl W (prow_below hrow hB hblk) (hblk.below hB) h hc)
  have HI := hid h
  clear h hc
  have hL1 : 1 ≤ lc (nats l) l.length := lc_pos HI.out.pos _
  have hL2 := HI.out.all
  obtain ⟨L, hLdef⟩ : ∃ L, lc (nats l) l.length = L := ⟨_, rfl⟩
  rw [hLdef] at HS hL1 hL2
  have HL := hid hLdef
  clear hLdef
  go_enter Try.func3, Try.ntmps3
  go_wp2_with (first
    | (go_at_call 6; refine HS.out.mono ?_; rintro e w1 ⟨⟨A, hA, rfl⟩, hB1⟩; have HA := hid hA; have hA0 := hA.lo; have hA1 := hA.hi; clear hA)
    | (go_at_call 7; refine (HC.out _ (hB1.alloc hB1.size _)).mono ?_; rintro e w2 ⟨rfl, hB2⟩)
    | (go_at_call 8; refine (HF.out _ (below_trans (hB1.alloc hB1.size _) hB2)).mono ?_; rintro e w3 ⟨rfl, hB3⟩))
  have hB4 : Below w.heap.size w w3 := below_trans (hB1.alloc hB1.size _) (below_trans hB2 hB3)
  have b0 : Hid (BoxC w3 w1.heap.size 24 #[.int .i64 A, .int .i64 (L : Int)]) := (BoxC.new w1 24 _).below (below_trans hB2 hB3) (by simp)
  have hs1 := hB1.size
  go_loopw [6, 35] (fun c i wr => ∃ k m : Nat, c = .int .i64 (m : Int) ∧ i = .int .i64 (k : Int) ∧ k ≤ l.length ∧ 1 ≤ m ∧ m ≤ 2147483648 ∧ Hid (m = lc (nats l) k) ∧ Hid (BoxC wr w1.heap.size 24 #[.int .i64 A, .int .i64 (L : Int)]) ∧ Below w.heap.size w wr) (fun c i wr => ((l.length : Int) - intOf i).toNat)
  case atStart => exact ⟨0, 1, rfl, rfl, by omega, by omega, by omega, rfl, b0, hB4⟩
  case round =>
    obtain ⟨k, m, rfl, rfl, hk, hm1, hm2, hm, bR, hBr⟩ := hrel
    have p0 := bR.out.cell 0
    have p1 := bR.out.cell 1
    simp at p0 p1
    by_cases hgo : k < l.length
    · have hgo' : (k : Int) < (l.length : Int) := by omega
      rcases bo with _ | ad
      · exact (prow_none hrow hgo).elim
      · obtain ⟨c1, c2⟩ := prow_at (prow_below hrow hBr hblk) hgo
        obtain ⟨a, n, hx, hn1, hn2, ha1, ha2⟩ := nat_pair (HI.out.each k hgo)
        rw [hx] at c1 c2
        simp only at c1 c2
        have hlc : lc (nats l) (k + 1) = Nat.lcm m n := by rw [lc_next hgo hx, hm.out]
        have hle : Nat.lcm m n ≤ 2147483648 := by rw [← hlc]; exact HI.out.lc_le (by omega)
        have hf := HA.out.self k hgo
        rw [get_nats hgo hx] at hf
        have hz : Hid ((A - a) % (n : Int) = 0) := Int.emod_eq_zero_of_dvd hf
        have hp : 1 ≤ Nat.lcm m n := Nat.lcm_pos hm1 hn1
        have HLC := hid hlc
        clear hx hlc hf
        have cL := fun w => refLcm_n m n w hm1 hm2 hn1 (by omega)
        have cM := fun w => refMod_any (A - a) (n : Int) w (by omega) (by omega)
        rw [hz.out] at cM
        have bR1 := bR.out.alloc (.cells #[.int .i64 a, .int .i64 (n : Int)] 24)
        have q0 := bR1.cell 0
        have q1 := bR1.cell 1
        simp at q0 q1
        go_wp2_with (first
          | (go_at_call 9; refine (cL _).mono ?_; rintro e w5 ⟨rfl, hB5⟩; obtain ⟨k0, k1⟩ := box_cells hB5; have bR2 := hid (bR1.below hB5 (by simp; have := bR.out.lt; omega)); have s0 := bR2.out.cell 0; have s1 := bR2.out.cell 1; simp at s0 s1)
          | (go_at_call 10; refine (cM _).mono ?_; rintro e w6 ⟨rfl, hw⟩; subst w6))
        go_roundw
        case rel => exact ⟨k + 1, Nat.lcm m n, rfl, by simp, by omega, hp, hle, HLC.out.symm, bR2, hBr.trans ((below_trans ((Below.refl _ _).alloc (Nat.le_refl _) _) hB5).mono hBr.size)⟩
        case measure => exact measK hgo
    · have hgo' : ¬ (k : Int) < (l.length : Int) := by omega
      have e : k = l.length := by omega
      have hmL : m = L := by rw [hm.out, e]; exact HL.out
      subst hmL
      clear e
      go_wp2
      go_ret
      exact ⟨ret_bool (by simp), hBr⟩

theorem walk (bo : Option Addr) (cb : Nat) (l : List (Int × Int)) (w : World) (hrow : PRow w bo l) (hblk : Lies w bo l) :
    Calls Try.prog 3 #[.slice bo l.length cb] w fun e w' => e = .returned (.bool true) ∧ Below w.heap.size w w' := by
  by_cases hl : l.length ≤ 8
  · by_cases h : InR l
    · by_cases hc : Fitted l
      · exact walk_yes bo cb l hl w hrow hblk h hc
      · exact walk_none bo cb l hl w hrow hblk h hc
    · exact walk_range bo cb l hl w hrow hblk h
  · exact walk_large bo cb l (by omega) w

set_option maxRecDepth 100000 in
theorem lifted (os : Os) (started : os.Started) (H : Type) (enc : TypeId × Value → H) :
    ReturnsInHanded {} Try.checked os 3 .any (Rows.crtTellsSpec.pre6 enc Try.prog Try.f3 Rows.crtTellsRow.domain false) (Rows.crtTellsSpec.post enc Try.prog Try.f3 false true false false) := by
  refine returnsInHanded_of_change (C := Try.checked) own started (by kernel_rfl) Try.func3
    (ChangeSpec.witness6 (enc := enc) (C := Try.checked) false ⟨#[], #[.slice none 0 0], []⟩ 8 (by kernel_rfl) (by kernel_rfl) (by kernel_rfl) (by kernel_rfl)) ?_
  intro W base args ds gs before hval0 hW hcnd _
  have hval : ∀ (j : Nat) t v, Try.f3.params[j]? = some t → args[j]? = some v → Value.okWide Try.prog W .any base t v := hval0
  have hW' := hW
  obtain ⟨p, q, hA0, hV, rfl, _, _⟩ := hW
  have hA : DataW.TrodAll enc Try.prog W 0 (fun _ => true) true Try.f3.params.toList args.toList ds p := hA0
  rw [Try.params3] at hA hval
  obtain ⟨v1, d1, rfl, rfl, h1⟩ := trodAll_one hA
  obtain ⟨rfl, rfl⟩ := trodVars_none hV
  have hsl := okWide_slice Try.underlying22 (hval 0 22 v1 rfl rfl)
  clear hA0 hval0
  simp only [List.append_nil] at hW'
  have hlt : ∀ x ∈ p, x.block < W.heap.size := fun x hx => by simpa using hW'.lt x (by simpa using hx)
  have harg1 : ∀ (W' : World), Below W.heap.size W W' → DataW.Trod enc Try.prog W' 0 (fun b => decide (b < W.heap.size)) true 22 v1 d1 p :=
    fun W' hn => Below.trod laidOut (by kernel_rfl) (of_decide_eq_true (by kernel_rfl)) h1 hn hlt
  obtain ⟨bo, cb, l, rfl, hl, hrow, hblk, _, _, _⟩ := pairs_view (fun _ => rfl) Try.underlying22 Try.underlying24 cellsR rfl rfl cells2 cells2 Try.underlying2 Try.underlying2 h1 hsl
  refine (walk bo cb l W hrow hblk).mono fun e W' ⟨he, hg⟩ => ?_
  subst he
  refine ⟨_, rfl, _, _, _, [], p, [], hW', ?_, ?_, rfl, hg.frame _, fun h => by cases h⟩
  · exact trodAll_mk1 (shut_bool Try.underlying4 true)
  · exact trodAll_mk1 (harg1 _ hg)

theorem over : Rows.crtTellsRow.holds Try.pinned (OpenSpec.ofChange Rows.crtTellsSpec) :=
  OpenClaim.holds_of_wide 3 Try.f3 rfl rfl rfl rfl rfl rfl rfl ⟨rfl, rfl, rfl, rfl, rfl⟩ rfl rfl rfl rfl rfl (by kernel_rfl) Try.func3 (by kernel_rfl)
    (of_decide_eq_true (by kernel_rfl)) (by unfold Func.isWrapper; first | (rw [if_pos (by decide +kernel)]; kernel_rfl) | (rw [if_neg (by decide +kernel)]; exact ⟨rfl, rfl⟩))
    (fun os started H enc _ => lifted os started H enc)

/-- ████ THE STATEMENT ████ -/
theorem proved : Rows.CrtTellsSaid :=
  over

end Go.Proofs.Ytiphbddalmpifaa.crtTells
