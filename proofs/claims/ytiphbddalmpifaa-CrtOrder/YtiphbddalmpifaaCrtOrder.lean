/-
  For any rests and any place: in whichever order they come, and if one comes twice, the same is told: with no condition.
-/
import Derived.Test.YtiphbddalmpifaaRows
import Derived.Test.YtiphbddalmpifaaCalls28
import Derived.Test.YtiphbddalmpifaaBase2
import Derived.Test.YtiphbddalmpifaaNum28
import Derived.WalkKit
import Derived.ProofKit
import Derived.OpenShut
namespace Go.Proofs.Ytiphbddalmpifaa.crtOrder
open Go.ChangeShapes Go.WideShapes Go.ChangeAt Go.RowKit Go.Deep Go.Proofs.Ytiphbddalmpifaa.Base Go.Proofs.Ytiphbddalmpifaa.Num14 Go.Proofs.Ytiphbddalmpifaa.Num27 Go.Proofs.Ytiphbddalmpifaa.Calls24 Go.Proofs.Ytiphbddalmpifaa.Calls25 Go.Proofs.Ytiphbddalmpifaa.Calls26 Go.Proofs.Ytiphbddalmpifaa.Calls27 Go.Proofs.Ytiphbddalmpifaa.Calls28 Go.Proofs.Ytiphbddalmpifaa.Base2 Go.Proofs.Ytiphbddalmpifaa.Num28
open Go.Proofs.Ytiphbddalmpifaa.Calls1 (refMod_any)
open Go.Proofs.Ytiphbddalmpifaa.Calls5 (near_yes near_no)
set_option linter.unusedVariables false

theorem own : ownKnob Try.prog.godebug = none := by kernel_rfl

theorem laidOut : laidOutB Try.prog = true := by kernel_rfl

theorem cellsR : Try.prog.cellsOf 24 = 2 := by kernel_rfl

theorem cells2 : Try.prog.cellsOf 2 = 1 := by kernel_rfl

theorem infoR : (Try.prog.info? 24).map (fun i => (i.zero, i.size, i.bytes)) = some (some (.agg #[.int .i64 0, .int .i64 0]), 2, 16) := by kernel_rfl

/-- Whatever comes in: Solve answers. -/
theorem Solve_total (bo : Option Addr) (cb : Nat) (l : List (Int × Int)) (w : World) (hrow : PRow w bo l) (hblk : Lies w bo l) :
    Calls Try.prog 6 #[.slice bo l.length cb] w fun e w' => (∃ A M er : Int, e = .returned (.tuple #[.agg #[.int .i64 A, .int .i64 M], .int .i64 er])) ∧ Below w.heap.size w w' := by
  by_cases hl : l.length ≤ 8
  · by_cases h : InR l
    · refine (Solve_in bo cb l hl w hrow hblk h).mono fun e w' ⟨h1, h2⟩ => ⟨?_, h2⟩
      rcases h1 with ⟨A, _, rfl⟩ | ⟨_, rfl⟩
      · exact ⟨_, _, _, rfl⟩
      · exact ⟨_, _, _, rfl⟩
    · refine (Solve_range bo cb l hl w hrow hblk h).mono fun e w' ⟨h1, h2⟩ => ⟨?_, h2⟩
      exact ⟨_, _, _, h1⟩
  · refine (Solve_large bo cb l (by omega) w).mono fun e w' ⟨h1, h2⟩ => ⟨?_, h2⟩
    exact ⟨_, _, _, h1⟩

/-- What is told of rests: by one formula. -/
def Tells (l : List (Int × Int)) (A M er : Int) : Prop :=
  (¬ InR l ∧ A = 0 ∧ M = 0 ∧ er = 2) ∨ (InR l ∧ ¬ Fitted l ∧ A = 0 ∧ M = 0 ∧ er = 5) ∨ (InR l ∧ Sol (nats l) l.length A (lc (nats l) l.length) ∧ M = (lc (nats l) l.length : Int) ∧ er = 0)

theorem Solve_tells (bo : Option Addr) (cb : Nat) (l : List (Int × Int)) (hl : l.length ≤ 8) (w : World) (hrow : PRow w bo l) (hblk : Lies w bo l) :
    Calls Try.prog 6 #[.slice bo l.length cb] w fun e w' => (∃ A M er : Int, Tells l A M er ∧ e = .returned (.tuple #[.agg #[.int .i64 A, .int .i64 M], .int .i64 er])) ∧ Below w.heap.size w w' := by
  by_cases h : InR l
  · refine (Solve_in bo cb l hl w hrow hblk h).mono fun e w' ⟨h1, h2⟩ => ⟨?_, h2⟩
    rcases h1 with ⟨A, hA, rfl⟩ | ⟨hn, rfl⟩
    · exact ⟨_, _, _, .inr (.inr ⟨h, hA, rfl, rfl⟩), rfl⟩
    · exact ⟨_, _, _, .inr (.inl ⟨h, hn, rfl, rfl, rfl⟩), rfl⟩
  · exact (Solve_range bo cb l hl w hrow hblk h).mono fun e w' ⟨h1, h2⟩ => ⟨⟨_, _, _, .inl ⟨h, rfl, rfl, rfl⟩, h1⟩, h2⟩

theorem Tells.same {l m : List (Int × Int)} (hm : ∀ r, r ∈ l ↔ r ∈ m) {A M er A' M' er' : Int} (h : Tells l A M er) (h' : Tells m A' M' er') : A = A' ∧ M = M' ∧ er = er' ∧ (er = 0 → 1 ≤ M) := by
  have e1 := inR_same hm
  have e2 : Fitted l ↔ Fitted m := by
    unfold Fitted
    exact exists_congr fun x => fits_same hm x
  have e3 := lc_same hm
  rcases h with ⟨h1, rfl, rfl, rfl⟩ | ⟨h1, h2, rfl, rfl, rfl⟩ | ⟨h1, h2, rfl, rfl⟩
  · rcases h' with ⟨g1, rfl, rfl, rfl⟩ | ⟨g1, g2, rfl, rfl, rfl⟩ | ⟨g1, g2, rfl, rfl⟩
    · exact ⟨rfl, rfl, rfl, fun h => by cases h⟩
    · exact absurd (e1.2 g1) h1
    · exact absurd (e1.2 g1) h1
  · rcases h' with ⟨g1, rfl, rfl, rfl⟩ | ⟨g1, g2, rfl, rfl, rfl⟩ | ⟨g1, g2, rfl, rfl⟩
    · exact absurd (e1.1 h1) g1
    · exact ⟨rfl, rfl, rfl, fun h => by cases h⟩
    · exact absurd (e2.2 ⟨_, g2.self⟩) h2
  · rcases h' with ⟨g1, rfl, rfl, rfl⟩ | ⟨g1, g2, rfl, rfl, rfl⟩ | ⟨g1, g2, rfl, rfl⟩
    · exact absurd (e1.1 h1) g1
    · exact absurd (e2.1 ⟨_, h2.self⟩) g2
    · obtain ⟨a1, a2⟩ := h2.uniq g2 (fits_same hm)
      have := h2.pos
      exact ⟨a1, by rw [a2], rfl, fun _ => by omega⟩

theorem walk_eight (bo : Option Addr) (cb : Nat) (l : List (Int × Int)) (k : Int) (hl : 8 ≤ l.length) (w : World) (hrow : PRow w bo l) (hblk : Lies w bo l) :
    Calls Try.prog 5 #[.slice bo l.length cb, .int .u8 k] w fun e w' => e = .returned (.bool true) ∧ Below w.heap.size w w' := by
  have HS := hid (Solve_total bo cb l w hrow hblk)
  obtain ⟨n, hn⟩ : ∃ n, l.length = n := ⟨_, rfl⟩
  rw [hn] at hl HS ⊢
  have hl' : 8 ≤ (n : Int) := by omega
  have h0 : ((n : Int) == 0) = false := by rw [beq_eq_false_iff_ne]; omega
  have h00 : ¬ (n : Int) = 0 := by omega
  have h01 : 0 < (n : Int) := by omega
  clear hl hn
  go_enter Try.func5, Try.ntmps5
  go_wp2_with (go_at_call 6; refine HS.out.mono ?_; rintro e w1 ⟨⟨A, M, er, rfl⟩, hB1⟩)
  go_ret
  exact ⟨rfl, below_trans hB1 ((Below.refl _ _).alloc (Nat.le_refl _) _)⟩

theorem walk_zero (bo : Option Addr) (cb : Nat) (k : Int) (w : World) :
    Calls Try.prog 5 #[.slice bo 0 cb, .int .u8 k] w fun e w' => e = .returned (.bool true) ∧ Below w.heap.size w w' := by
  have hrow : PRow w bo [] := ⟨fun _ => rfl, fun ad e j hj => by simp at hj⟩
  have HS : Hid (Calls Try.prog 6 #[.slice bo 0 cb] w fun e w' => e = .returned (.tuple #[.agg #[.int .i64 0, .int .i64 1], .int .i64 0]) ∧ Below w.heap.size w w') := by
    refine (Solve_tells bo cb [] (by simp) w hrow (fun ad e => .inl rfl)).mono fun e w' ⟨⟨A, M, er, h, he⟩, h2⟩ => ⟨?_, h2⟩
    have hi : InR [] := ⟨fun j hj => by simp at hj, by simp [lc]⟩
    have hf : Fitted [] := ⟨0, fun j hj => by simp at hj⟩
    rcases h with ⟨h1, _⟩ | ⟨_, h1, _⟩ | ⟨_, h3, rfl, rfl⟩
    · exact absurd hi h1
    · exact absurd hf h1
    · have a0 := h3.lo
      have a1 := h3.hi
      have : A = 0 := by simp [lc] at a1; omega
      subst this
      simpa [lc] using he
  clear hrow
  go_enter Try.func5, Try.ntmps5
  go_wp2_with (go_at_call 6; refine HS.out.mono ?_; rintro e w1 ⟨rfl, hB1⟩)
  go_ret
  exact ⟨rfl, below_trans hB1 ((Below.refl _ _).alloc (Nat.le_refl _) _)⟩

set_option maxRecDepth 100000 in
set_option maxHeartbeats 1000000 in
theorem walk_in (ad : Addr) (cb : Nat) (l : List (Int × Int)) (k : Nat) (hk : k ≤ 255) (hl1 : 1 ≤ l.length) (hl : l.length < 8) (hcb : l.length ≤ cb) (hcm : cb ≤ maxLen) (w : World) (hrow : PRow w (some ad) l) (hblk : Lies w (some ad) l) :
    Calls Try.prog 5 #[.slice (some ad) l.length cb, .int .u8 (k : Int)] w fun e w' => e = .returned (.bool true) ∧ Below w.heap.size w w' := by
  have HS := hid (Solve_tells (some ad) cb l (by omega) w hrow hblk)
  obtain ⟨i0, hi, hz0, hz1, hz2⟩ := info_parts infoR
  obtain ⟨n, hn⟩ : ∃ n, n = l.length := ⟨_, rfl⟩
  have HN := hid hn
  rw [← hn] at hl1 hl hcb HS ⊢
  clear hn
  obtain ⟨q, hq⟩ : ∃ q, q = k % n := ⟨_, rfl⟩
  have hqn : q < n := by rw [hq]; exact Nat.mod_lt _ (by omega)
  have hqc : (k : Int) % (n : Int) = (q : Int) := by rw [hq]; simp
  have h0 : ((n : Int) == 0) = false := by rw [beq_eq_false_iff_ne]; omega
  have h0' : ¬ (n : Int) = 0 := by omega
  have hqn' : (q : Int) < (n : Int) := by omega
  clear hq
  have hcm' : cb ≤ 9223372036854775807 := by unfold maxLen at hcm; omega
  go_enter Try.func5, Try.ntmps5
  go_wp2_with (go_at_call 6; refine HS.out.mono ?_; rintro e w1 ⟨⟨A, M, er, hT, rfl⟩, hB1⟩; have HT := hid hT; clear hT)
  rw [hqc]
  have hBW : Below w.heap.size w (w1.alloc (.cells #[.int .i64 A, .int .i64 M] 24)) := hB1.alloc hB1.size _
  have bR : Hid (BoxC (w1.alloc (.cells #[.int .i64 A, .int .i64 M] 24)) w1.heap.size 24 #[.int .i64 A, .int .i64 M]) := BoxC.new w1 24 _
  obtain ⟨W, hW⟩ : ∃ W, w1.alloc (.cells #[.int .i64 A, .int .i64 M] 24) = W := ⟨_, rfl⟩
  rw [hW] at hBW bR ⊢
  clear hW
  have hR := hid (prow_below hrow hBW hblk)
  have hqle : q ≤ n := by omega
  have hcq : ¬ cb = q := by omega
  have hqcb : q ≤ cb := by omega
  have hLW : Hid (Lies W (some ad) l) := hblk.below hBW
  have own0 := hid ((owns_empty W W.heap.size 24 2 (Nat.le_refl _)).drew)
  have hB0 : Hid (Below W.heap.size W (W.alloc (.cells #[] 24)).drew) := ((Below.refl _ W).alloc (Nat.le_refl _) _).drew
  have hd1 : Hid ((flatP (l.drop q)).length = (n - q) * 2) := by show _ = _; rw [flatP_length, List.length_drop, HN.out]
  have hd2 : Hid ((flatP (l.take q)).length = q * 2) := by show _ = _; rw [flatP_length, List.length_take, ← HN.out, Nat.min_eq_left hqle]
  go_region_law ((first
    | (refine step_append_own0 _ (by rfl) (.tmp 41) (.tmp 44) 22 (by rfl) W.heap.size 24 i0 (.agg #[.int .i64 0, .int .i64 0]) 2 16 Try.underlying22 hi hz0 hz1 hz2 rfl (by decide) (.slice (some ⟨W.heap.size, 0, none⟩) 0 0) 0 [] (by rfl) own0.out (ad.add (q * 2)) (n - q) (cb - q) (flatP (l.drop q)) (by rfl) hd1.out (prow_news (prow_drop (prow_below hR.out hB0.out hLW.out) q)) (flatP_one _) (by omega) (by unfold maxLen; omega) (by omega) (by simp) ?_; intro g2 c2 w2 hown2 hgrow2 hat2 hlt2; simp only [Nat.zero_add, List.nil_append] at hown2 ⊢; have hB2 := hid (hB0.out.trans (below_grown own0.out hgrow2 (Nat.le_refl _) (by simp))))
    | (refine step_append_own0 _ (by rfl) (.tmp 45) (.tmp 48) 22 (by rfl) W.heap.size 24 i0 (.agg #[.int .i64 0, .int .i64 0]) 2 16 Try.underlying22 hi hz0 hz1 hz2 rfl (by decide) (.slice (some ⟨g2, 0, none⟩) (n - q) c2) (n - q) (flatP (l.drop q)) (by rfl) hown2 ad q cb (flatP (l.take q)) (by rfl) hd2.out (prow_news (prow_take (prow_below hR.out hB2.out hLW.out) q)) (flatP_one _) (by omega) (by unfold maxLen; omega) (by omega) hB2.out.size ?_; intro g3 c3 w3 hown3 hgrow3 hat3 hlt3; rw [← flatP_append] at hown3; rw [show n - q + q = n by omega] at hown3 ⊢; have hB3 := hid (hB2.out.trans (below_grown hown2 hgrow3 (Nat.le_refl _) hB2.out.size)))))
  have hRow3 := prow_below hR.out hB3.out hLW.out
  obtain ⟨c1, c2⟩ := prow_at hRow3 (show q < l.length by have := HN.out; omega)
  obtain ⟨x, hx⟩ : ∃ x, l.getD q (0, 0) = x := ⟨_, rfl⟩
  rw [hx] at c1 c2
  have hrl : Hid ((rot l q).length = n + 1) := by show _ = _; rw [rot_length (by have := HN.out; omega), HN.out]
  have hfl : Hid (flatP (l.drop q ++ l.take q) ++ [.int .i64 x.1, .int .i64 x.2] = flatP (rot l q)) := by
    show _ = _
    unfold rot
    rw [hx, flatP_append (l.drop q ++ l.take q)]
    rfl
  have hmem := hid (rot_mem (l := l) (k := q) (by have := HN.out; omega))
  have hs3 := hB3.out.size
  clear hx hRow3
  have hmax : n + 1 ≤ maxLen := by unfold maxLen; omega
  have bR3 := hid ((bR.out.below hB3.out bR.out.lt).alloc (.cells #[.int .i64 x.1, .int .i64 x.2] 24))
  go_wp2_with (first
    | (at_builtin; refine wpList_append_own0 _ rfl (.tmp 51) (.tmp 56) 22 rfl W.heap.size 24 i0 (.agg #[.int .i64 0, .int .i64 0]) 2 16 Try.underlying22 hi hz0 hz1 hz2 rfl (by decide) (.slice (some ⟨g3, 0, none⟩) n c3) n (flatP (l.drop q ++ l.take q)) rfl (hown3.alloc _) ⟨w3.heap.size, 0, none⟩ 1 1 [.int .i64 x.1, .int .i64 x.2] rfl rfl (World.news_of_block (World.alloc_heap_new w3 _)) (by simp [Value.oneCell']) (by omega) hmax (by omega) (by simp; omega) ?_; intro g4 c4 w4 hown4 hgrow4 hat4 hlt4; rw [hfl.out] at hown4; have hB4 := hid (below_grown (hown3.alloc _) hgrow4 (Nat.le_refl _) (by simp; omega)); have hS4 := hid (Solve_tells (some ⟨g4, 0, none⟩) c4 (rot l q) (by rw [hrl.out]; omega) w4 (prow_owned hown4) (fun ad' e => .inr (by cases e; exact hlt4))); rw [hrl.out] at hS4)
    | (go_at_call 6; refine hS4.out.mono ?_; rintro e w5 ⟨⟨A', M', er', hT', rfl⟩, hB5⟩; obtain ⟨e1, e2, e3, e4⟩ := HT.out.same hmem.out hT'; subst e1; subst e2; subst e3; have HE4 := hid e4; clear e4; have bR5 := hid (((bR3.out.below hB4.out bR.out.lt).below hB5 (by have h9 := bR.out.lt; have h8 := hB4.out.size; simp at h8; omega)).alloc (.cells #[.int .i64 A, .int .i64 M] 24)); have z0 := bR5.out.cell 0; have z1 := bR5.out.cell 1; simp at z0 z1))
  all_goals (
    have h4 : Below W.heap.size W w4 := hB3.out.trans (((Below.refl _ w3).alloc hs3 _).trans hB4.out)
    have h5 : Below w.heap.size w w5 := hBW.trans ((below_trans h4 hB5).mono hBW.size)
    go_ret
    refine ⟨ret_bool ?_, h5.alloc h5.size _⟩)
  · exact decide_eq_true (HE4.out (by assumption))
  · rfl

theorem walk (bo : Option Addr) (cb : Nat) (l : List (Int × Int)) (k : Int) (hk0 : 0 ≤ k) (hk : k ≤ 255) (hcb : l.length ≤ cb) (hcm : cb ≤ maxLen) (w : World) (hrow : PRow w bo l) (hblk : Lies w bo l) :
    Calls Try.prog 5 #[.slice bo l.length cb, .int .u8 k] w fun e w' => e = .returned (.bool true) ∧ Below w.heap.size w w' := by
  by_cases h8 : 8 ≤ l.length
  · exact walk_eight bo cb l k h8 w hrow hblk
  · by_cases h0 : l.length = 0
    · rw [h0]; exact walk_zero bo cb k w
    · rcases bo with _ | ad
      · exact absurd (by rw [hrow.1 rfl]; rfl) h0
      · obtain ⟨n, rfl⟩ : ∃ n : Nat, k = (n : Int) := ⟨k.toNat, by omega⟩
        exact walk_in ad cb l n (by omega) (by omega) (by omega) hcb hcm w hrow hblk

set_option maxRecDepth 100000 in
theorem lifted (os : Os) (started : os.Started) (H : Type) (enc : TypeId × Value → H) :
    ReturnsInHanded {} Try.checked os 5 .any (Rows.crtOrderSpec.pre6 enc Try.prog Try.f5 Rows.crtOrderRow.domain false) (Rows.crtOrderSpec.post enc Try.prog Try.f5 false true false false) := by
  refine returnsInHanded_of_change (C := Try.checked) own started (by kernel_rfl) Try.func5
    (ChangeSpec.witness6 (enc := enc) (C := Try.checked) false ⟨#[], #[.slice none 0 0, .int .u8 0], []⟩ 8 (by kernel_rfl) (by kernel_rfl) (by kernel_rfl) (by kernel_rfl)) ?_
  intro W base args ds gs before hval0 hW hcnd _
  have hval : ∀ (j : Nat) t v, Try.f5.params[j]? = some t → args[j]? = some v → Value.okWide Try.prog W .any base t v := hval0
  have hW' := hW
  obtain ⟨p, q, hA0, hV, rfl, _, _⟩ := hW
  have hA : DataW.TrodAll enc Try.prog W 0 (fun _ => true) true Try.f5.params.toList args.toList ds p := hA0
  rw [Try.params5] at hA hval
  obtain ⟨v1, v2, d1, d2, p1, p2, rfl, rfl, rfl, h1, h2⟩ := trodAll_two hA
  obtain ⟨rfl, rfl⟩ := trodVars_none hV
  have hsl := okWide_slice Try.underlying22 (hval 0 22 v1 rfl rfl)
  obtain ⟨a0, rfl, rfl, rfl, w0⟩ := open_int Try.underlying5 (hval 1 5 v2 rfl rfl) h2
  have hk0 : 0 ≤ a0 := by
    simp [Lit.wf] at w0
    have hu : IntKind.u8.min = 0 := by decide
    omega
  have hk1 : a0 ≤ 255 := by
    simp [Lit.wf] at w0
    have hu : IntKind.u8.max = 255 := by decide
    omega
  clear hA0 hval0
  simp only [List.append_nil] at hW'
  have hlt : ∀ x ∈ p1, x.block < W.heap.size := fun x hx => by simpa using hW'.lt x (by simpa using hx)
  have harg1 : ∀ (W' : World), Below W.heap.size W W' → DataW.Trod enc Try.prog W' 0 (fun b => decide (b < W.heap.size)) true 22 v1 d1 p1 :=
    fun W' hn => Below.trod laidOut (by kernel_rfl) (of_decide_eq_true (by kernel_rfl)) h1 hn hlt
  obtain ⟨bo, cb, l, rfl, hl, hrow, hblk, _, hcb, hcm⟩ := pairs_view (fun _ => rfl) Try.underlying22 Try.underlying24 cellsR rfl rfl cells2 cells2 Try.underlying2 Try.underlying2 h1 hsl
  refine (walk bo cb l a0 hk0 hk1 hcb hcm W hrow hblk).mono fun e W' ⟨he, hg⟩ => ?_
  subst he
  refine ⟨_, rfl, _, _, _, [], p1 ++ [], [], hW', ?_, ?_, rfl, hg.frame _, fun h => by cases h⟩
  · exact trodAll_mk1 (shut_bool Try.underlying4 true)
  · exact trodAll_mk2 (harg1 _ hg) (shut_int Try.underlying5 w0)

theorem over : Rows.crtOrderRow.holds Try.pinned (OpenSpec.ofChange Rows.crtOrderSpec) :=
  OpenClaim.holds_of_wide 5 Try.f5 rfl rfl rfl rfl rfl rfl rfl ⟨rfl, rfl, rfl, rfl, rfl⟩ rfl rfl rfl rfl rfl (by kernel_rfl) Try.func5 (by kernel_rfl)
    (of_decide_eq_true (by kernel_rfl)) (by unfold Func.isWrapper; first | (rw [if_pos (by decide +kernel)]; kernel_rfl) | (rw [if_neg (by decide +kernel)]; exact ⟨rfl, rfl⟩))
    (fun os started H enc _ => lifted os started H enc)

/-- ████ THE STATEMENT ████ -/
theorem proved : Rows.CrtOrderSaid :=
  over

end Go.Proofs.Ytiphbddalmpifaa.crtOrder
