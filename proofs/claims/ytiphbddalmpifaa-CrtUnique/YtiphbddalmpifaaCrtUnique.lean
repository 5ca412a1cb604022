/-
  For any rests of which each two have nothing in common there is a number that fits all, and any number fits what is told just if it fits all: with no condition.
-/
import Derived.Test.YtiphbddalmpifaaRows
import Derived.Test.YtiphbddalmpifaaCalls28
import Derived.WalkKit
import Derived.ProofKit
import Derived.OpenShut
namespace Go.Proofs.Ytiphbddalmpifaa.crtUnique
open Go.ChangeShapes Go.WideShapes Go.ChangeAt Go.RowKit Go.Deep Go.Proofs.Ytiphbddalmpifaa.Base Go.Proofs.Ytiphbddalmpifaa.Num14 Go.Proofs.Ytiphbddalmpifaa.Num27 Go.Proofs.Ytiphbddalmpifaa.Calls24 Go.Proofs.Ytiphbddalmpifaa.Calls25 Go.Proofs.Ytiphbddalmpifaa.Calls26 Go.Proofs.Ytiphbddalmpifaa.Calls27 Go.Proofs.Ytiphbddalmpifaa.Calls28
open Go.Proofs.Ytiphbddalmpifaa.Calls1 (refMod_any)
open Go.Proofs.Ytiphbddalmpifaa.Calls5 (near_yes near_no)
set_option linter.unusedVariables false

theorem own : ownKnob Try.prog.godebug = none := by kernel_rfl

theorem laidOut : laidOutB Try.prog = true := by kernel_rfl

theorem cellsR : Try.prog.cellsOf 24 = 2 := by kernel_rfl

theorem cells2 : Try.prog.cellsOf 2 = 1 := by kernel_rfl

theorem walk_large (bo : Option Addr) (cb : Nat) (l : List (Int × Int)) (x : Int) (hl : 8 < l.length) (w : World) :
    Calls Try.prog 4 #[.slice bo l.length cb, .int .i64 x] w fun e w' => e = .returned (.bool true) ∧ Below w.heap.size w w' := by
  have cS := fun w => Solve_large bo cb l hl w
  have cC := fun w => RestsCheck_large bo cb l hl w
  clear hl
  go_enter Try.func4, Try.ntmps4
  go_wp2_with (first
    | (go_at_call 6; refine (cS _).mono ?_; rintro e w1 ⟨rfl, hB1⟩)
    | (go_at_call 7; refine (cC _).mono ?_; rintro e w2 ⟨rfl, hB2⟩))
  go_ret
  exact ⟨rfl, below_trans (below_trans hB1 ((Below.refl _ _).alloc (Nat.le_refl _) _)) hB2⟩

theorem walk_range (bo : Option Addr) (cb : Nat) (l : List (Int × Int)) (x : Int) (hl : l.length ≤ 8) (w : World) (hrow : PRow w bo l) (hblk : Lies w bo l) (h : ¬ InR l) :
    Calls Try.prog 4 #[.slice bo l.length cb, .int .i64 x] w fun e w' => e = .returned (.bool true) ∧ Below w.heap.size w w' := by
  have HS := hid (Solve_range bo cb l hl w hrow hblk h)
  have HC := hid (fun W (hB : Below w.heap.size w W) => RestsCheck_no bo cb l hl W (prow_below hrow hB hblk) (hblk.below hB) h)
  clear h
  go_enter Try.func4, Try.ntmps4
  go_wp2_with (first
    | (go_at_call 6; refine HS.out.mono ?_; rintro e w1 ⟨rfl, hB1⟩)
    | (go_at_call 7; refine (HC.out _ (hB1.alloc hB1.size _)).mono ?_; rintro e w2 ⟨rfl, hB2⟩))
  go_ret
  exact ⟨rfl, below_trans (below_trans hB1 ((Below.refl _ _).alloc (Nat.le_refl _) _)) hB2⟩

/-- Two moduli have nothing in common. -/
def Cop (l : List (Int × Int)) (i j : Nat) : Prop := Nat.gcd ((nats l).getD i (0, 1)).2 ((nats l).getD j (0, 1)).2 = 1

/-- Of the rows up to i, and of row i up to j. -/
def Apart (l : List (Int × Int)) (i j : Nat) : Prop := (∀ a b, a < i → b < a → Cop l a b) ∧ ∀ b, b < j → Cop l i b

theorem Apart.next {l : List (Int × Int)} {i j : Nat} {b c : Bool} (h : b = true → Apart l i j) (h2 : c = true → Cop l i j) : (b && c) = true → Apart l i (j + 1) := fun e => by
  rw [Bool.and_eq_true] at e
  refine ⟨(h e.1).1, fun b hb => ?_⟩
  by_cases e' : b = j
  · subst e'; exact h2 e.2
  · exact (h e.1).2 b (by omega)

theorem Apart.row {l : List (Int × Int)} {i : Nat} (h : Apart l i i) : Apart l (i + 1) 0 := ⟨fun a b ha hb => by
  by_cases e : a = i
  · subst e; exact h.2 b hb
  · exact h.1 a b (by omega) hb, fun b hb => by omega⟩

theorem Apart.fitted {l : List (Int × Int)} {j : Nat} (h : Apart l l.length j) (hi : InR l) : Fitted l := by
  rw [can_iff hi]
  intro a b ha hb
  rcases Nat.lt_trichotomy a b with h1 | h1 | h1
  · have := h.1 b a hb h1
    unfold Cop at this
    rw [Nat.gcd_comm, this]
    exact Int.one_dvd _
  · subst h1; rw [Int.sub_self]; exact Int.dvd_zero _
  · have := h.1 a b ha h1
    unfold Cop at this
    rw [this]
    exact Int.one_dvd _

theorem cop_eq {l : List (Int × Int)} {i j n m : Nat} {a b : Int} (hi : i < l.length) (hj : j < l.length) (h1 : l.getD i (0, 0) = (a, (n : Int))) (h2 : l.getD j (0, 0) = (b, (m : Int))) : (((Nat.gcd n m : Nat) : Int) == 1) = true → Cop l i j := by
  intro h
  have h3 : ((Nat.gcd n m : Nat) : Int) = 1 := by simpa using h
  unfold Cop
  rw [get_nats hi h1, get_nats hj h2]
  show Nat.gcd n m = 1
  omega

theorem measI {q : Nat} {x : Int} (h : (q : Int) < x) : (x - ((q : Int) + 1)).toNat < (x - (q : Int)).toNat := by omega

/-- All of the first k are fitted by x. -/
def FitsUp (l : List (Int × Int)) (x : Int) (k : Nat) : Prop := ∀ j, j < k → Fits x ((nats l).getD j (0, 1))

theorem fitsUp_next {l : List (Int × Int)} {x : Int} {k : Nat} {b c : Bool} (h : b = true ↔ FitsUp l x k) (h2 : c = true ↔ Fits x ((nats l).getD k (0, 1))) : (b && c) = true ↔ FitsUp l x (k + 1) := by
  rw [Bool.and_eq_true, h, h2]
  constructor
  · rintro ⟨h3, h4⟩ j hj
    by_cases e : j = k
    · subst e; exact h4
    · exact h3 j (by omega)
  · intro h3
    exact ⟨fun j hj => h3 j (by omega), h3 k (by omega)⟩

theorem beq_of_iff {b c : Bool} {P : Prop} (h1 : b = true ↔ P) (h2 : c = true ↔ P) : (b == c) = true := by
  cases b <;> cases c <;> simp_all

set_option maxRecDepth 100000 in
set_option maxHeartbeats 1000000 in
theorem walk_in (bo : Option Addr) (cb : Nat) (l : List (Int × Int)) (x : Int) (hl : l.length ≤ 8) (w : World) (hrow : PRow w bo l) (hblk : Lies w bo l) (h : InR l) :
    Calls Try.prog 4 #[.slice bo l.length cb, .int .i64 x] w fun e w' => e = .returned (.bool true) ∧ Below w.heap.size w w' := by
  have HS := hid (Solve_in bo cb l hl w hrow hblk h)
  have HC := hid (fun W (hB : Below w.heap.size w W) => RestsCheck_yes bo cb l hl W (prow_below hrow hB hblk) (hblk.below hB) h)
  have HI := hid h
  clear h
  have hL1 : 1 ≤ lc (nats l) l.length := lc_pos HI.out.pos _
  have hL2 := HI.out.all
  obtain ⟨L, hLdef⟩ : ∃ L, lc (nats l) l.length = L := ⟨_, rfl⟩
  rw [hLdef] at hL1 hL2
  have HL := hid hLdef
  clear hLdef
  go_enter Try.func4, Try.ntmps4
  go_wp2_with fail
  refine HS.out.mono ?_
  rintro e w1 ⟨hT, hB1⟩
  obtain ⟨A, M, er, rfl, hTT⟩ : ∃ (A : Int) (M er : Nat), e = .returned (.tuple #[.agg #[.int .i64 A, .int .i64 (M : Int)], .int .i64 (er : Int)]) ∧ ((er = 0 ∧ M = L ∧ Sol (nats l) l.length A L) ∨ (er = 5 ∧ ¬ Fitted l)) := by
    rcases hT with ⟨A, hA, rfl⟩ | ⟨hn, rfl⟩
    · exact ⟨A, L, 0, by rw [HL.out]; rfl, .inl ⟨rfl, rfl, by rw [HL.out] at hA; exact hA⟩⟩
    · exact ⟨0, 0, 5, rfl, .inr ⟨rfl, hn⟩⟩
  have HT := hid hTT
  have her : er ≤ 5 := by rcases hTT with h | h <;> omega
  clear hT hTT
  go_wp2_with (go_at_call 7; refine (HC.out _ (hB1.alloc hB1.size _)).mono ?_; rintro e w2 ⟨rfl, hB2⟩)
  have hB4 : Below w.heap.size w w2 := below_trans (hB1.alloc hB1.size _) hB2
  have b0 : Hid (BoxC w2 w1.heap.size 24 #[.int .i64 A, .int .i64 (M : Int)]) := (BoxC.new w1 24 _).below hB2 (by simp)
  have hs1 := hB1.size
  go_loopw [7, 8] (fun c i wr => ∃ (b : Bool) (k : Nat), c = .bool b ∧ i = .int .i64 (k : Int) ∧ k ≤ l.length ∧ Hid (b = true → Apart l k 0) ∧ Hid (BoxC wr w1.heap.size 24 #[.int .i64 A, .int .i64 (M : Int)]) ∧ Below w.heap.size w wr) (fun c i wr => ((l.length : Int) - intOf i).toNat)
  case atStart => exact ⟨true, 0, rfl, rfl, by omega, fun _ => ⟨fun a b ha => by omega, fun b hb => by omega⟩, b0, hB4⟩
  case round =>
    obtain ⟨ap, k, rfl, rfl, hk, hAp, bR, hBr⟩ := hrel
    by_cases hgo : k < l.length
    · have hgo' : (k : Int) < (l.length : Int) := by omega
      go_wp2
      go_loopw [7, 9] (fun c j ws => ∃ (b : Bool) (q : Nat), c = .bool b ∧ j = .int .i64 (q : Int) ∧ q ≤ k ∧ Hid (b = true → Apart l k q) ∧ Hid (BoxC ws w1.heap.size 24 #[.int .i64 A, .int .i64 (M : Int)]) ∧ Below w.heap.size w ws) (fun c j ws => ((k : Int) - intOf j).toNat)
      case atStart => exact ⟨ap, 0, rfl, rfl, by omega, hAp, bR, hBr⟩
      case round =>
        obtain ⟨b, q, rfl, rfl, hq, hAq, bS, hBs⟩ := hrel
        by_cases hg2 : q < k
        · have hg2' : (q : Int) < (k : Int) := by omega
          rcases bo with _ | ad
          · exact (prow_none hrow hgo).elim
          · obtain ⟨c1, c2⟩ := prow_at (prow_below hrow hBs hblk) hgo
            obtain ⟨d1, d2⟩ := prow_at (prow_below hrow hBs hblk) (show q < l.length by omega)
            obtain ⟨a, n, hx, hn1, hn2, ha1, ha2⟩ := nat_pair (HI.out.each k hgo)
            obtain ⟨a', m, hy, hm1, hm2, ha1', ha2'⟩ := nat_pair (HI.out.each q (by omega))
            rw [hx] at c1 c2
            rw [hy] at d1 d2
            simp only at c1 c2 d1 d2
            have hcop := cop_eq hgo (by omega) hx hy
            have hN := hid (Apart.next hAq.out hcop)
            have cG := fun w => refGcd_n n m w (by omega) (by omega)
            clear hx hy hcop c1 d1
            have hql : (q : Int) < (l.length : Int) := by omega
            cases b with
            | true =>
              go_wp2
              go_quiet ((go_at_call 11; exact Calls.quiet_of_same (cG _)))
              go_wp2
              go_roundw
              case rel => exact ⟨_, q + 1, rfl, by simp, by omega, hN, bS, below_drewN hBs _⟩
              case measure => exact measK hg2
            | false =>
              go_wp2
              go_quiet (fail)
              go_wp2
              go_roundw
              case rel => exact ⟨false, q + 1, rfl, by simp, by omega, fun h => (by cases h), bS, below_drewN hBs _⟩
              case measure => exact measK hg2
        · have hg2' : ¬ (q : Int) < (k : Int) := by omega
          have e : q = k := by omega
          have hN : Hid (b = true → Apart l (k + 1) 0) := fun hb => by
            have := hAq.out hb
            rw [e] at this
            exact this.row
          clear e
          go_wp2
          go_roundw
          case rel => exact ⟨b, k + 1, rfl, by simp, by omega, hN, bS, hBs⟩
          case measure => exact measK hgo
    · have hgo' : ¬ (k : Int) < (l.length : Int) := by omega
      have e : k = l.length := by omega
      have hN : Hid (ap = true → Fitted l) := fun hb => by
        have := hAp.out hb
        rw [e] at this
        exact this.fitted HI.out
      clear e
      have p0 := bR.out.cell 0
      have p1 := bR.out.cell 1
      simp at p0 p1
      rcases HT.out with ⟨rfl, rfl, hS⟩ | ⟨rfl, hnf⟩
      · have HSol := hid hS
        have hA0 := hS.lo
        have hA1 := hS.hi
        clear hS
        have hM1 : 1 ≤ (M : Int) := by omega
        by_cases hnear : -2147483648 ≤ x ∧ x ≤ 2147483648
        · obtain ⟨hx1, hx2⟩ := hnear
          have cN := fun w => near_yes x w hx1 hx2
          go_wp2_with (go_at_call 12; refine (cN _).mono ?_; rintro e w5 ⟨rfl, hw⟩; subst w5)
          go_loopw [10, 90] (fun c i ws => ∃ (b : Bool) (q : Nat), c = .bool b ∧ i = .int .i64 (q : Int) ∧ q ≤ l.length ∧ Hid (b = true ↔ FitsUp l x q) ∧ Hid (BoxC ws w1.heap.size 24 #[.int .i64 A, .int .i64 (M : Int)]) ∧ Below w.heap.size w ws) (fun c i ws => ((l.length : Int) - intOf i).toNat)
          case atStart => exact ⟨true, 0, rfl, rfl, by omega, ⟨fun _ j hj => by omega, fun _ => rfl⟩, bR, hBr⟩
          case round =>
            obtain ⟨b, q, rfl, rfl, hq, hAq, bS, hBs⟩ := hrel
            by_cases hg2 : q < l.length
            · have hg2' : (q : Int) < (l.length : Int) := by omega
              rcases bo with _ | ad
              · exact (prow_none hrow hg2).elim
              · obtain ⟨c1, c2⟩ := prow_at (prow_below hrow hBs hblk) hg2
                obtain ⟨a, n, hx, hn1, hn2, ha1, ha2⟩ := nat_pair (HI.out.each q hg2)
                rw [hx] at c1 c2
                simp only at c1 c2
                have hgt := hid (get_nats hg2 hx)
                clear hx
                have cF := fun w => fits_any x a n w hn1 (by omega) hx1 hx2 ha1 ha2
                cases b with
                | true =>
                  go_wp2_with (go_at_call 13; refine (cF _).mono ?_; rintro e w6 ⟨⟨b2, hb2, rfl⟩, hB6⟩; have HB2 := hid hb2; clear hb2)
                  go_roundw
                  case rel => exact ⟨b2, q + 1, rfl, by simp, by omega, by have h9 : true = true ↔ FitsUp l x q := ⟨fun _ => hAq.out.1 trivial, fun _ => rfl⟩; have := fitsUp_next h9 (c := b2) (by rw [hgt.out]; exact HB2.out); simp only [Bool.true_and] at this; exact this, (bS.out.alloc _).below hB6 (by simp; have := bS.out.lt; omega), hBs.trans ((below_trans ((Below.refl _ _).alloc (Nat.le_refl _) _) hB6).mono hBs.size)⟩
                  case measure => exact measK hg2
                | false =>
                  go_wp2
                  go_roundw
                  case rel => exact ⟨false, q + 1, rfl, by simp, by omega, ⟨fun h => (by cases h), fun h => by have h2 := hAq.out.2 (fun j hj => h j (by omega)); cases h2⟩, bS.out.alloc _, hBs.alloc hBs.size _⟩
                  case measure => exact measK hg2
            · have hg2' : ¬ (q : Int) < (l.length : Int) := by omega
              have e : q = l.length := by omega
              have hall : Hid (b = true ↔ Fits x (A, M)) := by
                have h1 := hAq.out
                rw [e] at h1
                exact h1.trans (HSol.out.all x)
              clear e
              have cF := fun w => fits_any x A M w (by omega) (by omega) hx1 hx2 (by omega) (by omega)
              have s0 := bS.out.cell 0
              have s1 := bS.out.cell 1
              simp at s0 s1
              go_wp2_with (go_at_call 13; refine (cF _).mono ?_; rintro e w6 ⟨⟨b2, hb2, rfl⟩, hB6⟩; have HB2 := hid hb2; clear hb2)
              go_ret
              exact ⟨ret_bool (beq_of_iff hall.out HB2.out), hBs.trans (hB6.mono hBs.size)⟩
        · have cN := fun w => near_no x w (by omega)
          clear hnear
          go_wp2_with (go_at_call 12; refine (cN _).mono ?_; rintro e w5 ⟨rfl, hw⟩; subst w5)
          go_ret
          exact ⟨ret_bool (by simp), hBr⟩
      · have hap : ap = false := by
          cases ap
          · rfl
          · exact absurd (hN.out rfl) hnf
        subst hap
        clear hnf
        go_wp2
        go_ret
        exact ⟨rfl, hBr⟩

theorem walk (bo : Option Addr) (cb : Nat) (l : List (Int × Int)) (x : Int) (w : World) (hrow : PRow w bo l) (hblk : Lies w bo l) :
    Calls Try.prog 4 #[.slice bo l.length cb, .int .i64 x] w fun e w' => e = .returned (.bool true) ∧ Below w.heap.size w w' := by
  by_cases hl : l.length ≤ 8
  · by_cases h : InR l
    · exact walk_in bo cb l x hl w hrow hblk h
    · exact walk_range bo cb l x hl w hrow hblk h
  · exact walk_large bo cb l x (by omega) w

set_option maxRecDepth 100000 in
theorem lifted (os : Os) (started : os.Started) (H : Type) (enc : TypeId × Value → H) :
    ReturnsInHanded {} Try.checked os 4 .any (Rows.crtUniqueSpec.pre6 enc Try.prog Try.f4 Rows.crtUniqueRow.domain false) (Rows.crtUniqueSpec.post enc Try.prog Try.f4 false true false false) := by
  refine returnsInHanded_of_change (C := Try.checked) own started (by kernel_rfl) Try.func4
    (ChangeSpec.witness6 (enc := enc) (C := Try.checked) false ⟨#[], #[.slice none 0 0, .int .i64 0], []⟩ 8 (by kernel_rfl) (by kernel_rfl) (by kernel_rfl) (by kernel_rfl)) ?_
  intro W base args ds gs before hval0 hW hcnd _
  have hval : ∀ (j : Nat) t v, Try.f4.params[j]? = some t → args[j]? = some v → Value.okWide Try.prog W .any base t v := hval0
  have hW' := hW
  obtain ⟨p, q, hA0, hV, rfl, _, _⟩ := hW
  have hA : DataW.TrodAll enc Try.prog W 0 (fun _ => true) true Try.f4.params.toList args.toList ds p := hA0
  rw [Try.params4] at hA hval
  obtain ⟨v1, v2, d1, d2, p1, p2, rfl, rfl, rfl, h1, h2⟩ := trodAll_two hA
  obtain ⟨rfl, rfl⟩ := trodVars_none hV
  have hsl := okWide_slice Try.underlying22 (hval 0 22 v1 rfl rfl)
  obtain ⟨a0, rfl, rfl, rfl, w0⟩ := open_int Try.underlying2 (hval 1 2 v2 rfl rfl) h2
  clear hA0 hval0
  simp only [List.append_nil] at hW'
  have hlt : ∀ x ∈ p1, x.block < W.heap.size := fun x hx => by simpa using hW'.lt x (by simpa using hx)
  have harg1 : ∀ (W' : World), Below W.heap.size W W' → DataW.Trod enc Try.prog W' 0 (fun b => decide (b < W.heap.size)) true 22 v1 d1 p1 :=
    fun W' hn => Below.trod laidOut (by kernel_rfl) (of_decide_eq_true (by kernel_rfl)) h1 hn hlt
  obtain ⟨bo, cb, l, rfl, hl, hrow, hblk, _, _, _⟩ := pairs_view (fun _ => rfl) Try.underlying22 Try.underlying24 cellsR rfl rfl cells2 cells2 Try.underlying2 Try.underlying2 h1 hsl
  refine (walk bo cb l a0 W hrow hblk).mono fun e W' ⟨he, hg⟩ => ?_
  subst he
  refine ⟨_, rfl, _, _, _, [], p1 ++ [], [], hW', ?_, ?_, rfl, hg.frame _, fun h => by cases h⟩
  · exact trodAll_mk1 (shut_bool Try.underlying4 true)
  · exact trodAll_mk2 (harg1 _ hg) (shut_int Try.underlying2 w0)

theorem over : Rows.crtUniqueRow.holds Try.pinned (OpenSpec.ofChange Rows.crtUniqueSpec) :=
  OpenClaim.holds_of_wide 4 Try.f4 rfl rfl rfl rfl rfl rfl rfl ⟨rfl, rfl, rfl, rfl, rfl⟩ rfl rfl rfl rfl rfl (by kernel_rfl) Try.func4 (by kernel_rfl)
    (of_decide_eq_true (by kernel_rfl)) (by unfold Func.isWrapper; first | (rw [if_pos (by decide +kernel)]; kernel_rfl) | (rw [if_neg (by decide +kernel)]; exact ⟨rfl, rfl⟩))
    (fun os started H enc _ => lifted os started H enc)

/-- ████ THE STATEMENT ████ -/
theorem proved : Rows.CrtUniqueSaid :=
  over

end Go.Proofs.Ytiphbddalmpifaa.crtUnique
