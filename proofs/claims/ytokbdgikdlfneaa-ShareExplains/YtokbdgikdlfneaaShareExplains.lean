/-
  For any points and any secret the program tells how they might be shares of the secret, or the document's error: with no condition.
-/
import Derived.Test.YtokbdgikdlfneaaRows
import Derived.Test.YtokbdgikdlfneaaCalls61
import Derived.Test.YtokbdgikdlfneaaCalls92
import Derived.Test.YtokbdgikdlfneaaCalls93
import Derived.WalkKit
import Derived.ProofKit
import Derived.OpenShut
import Derived.Carry
namespace Go.Proofs.Ytokbdgikdlfneaa.shareExplains
open Go.ChangeShapes Go.WideShapes Go.ChangeAt Go.RowKit Go.Deep Go.Proofs.Ytokbdgikdlfneaa.Base Go.Proofs.Ytokbdgikdlfneaa.Base2 Go.Proofs.Ytokbdgikdlfneaa.Num Go.Proofs.Ytokbdgikdlfneaa.Num7 Go.Proofs.Ytokbdgikdlfneaa.Num13 Go.Proofs.Ytokbdgikdlfneaa.Num16 Go.Proofs.Ytokbdgikdlfneaa.Num17 Go.Proofs.Ytokbdgikdlfneaa.Num34 Go.Proofs.Ytokbdgikdlfneaa.Num35 Go.Proofs.Ytokbdgikdlfneaa.Num39 Go.Proofs.Ytokbdgikdlfneaa.Base4 Go.Proofs.Ytokbdgikdlfneaa.Calls56 Go.Proofs.Ytokbdgikdlfneaa.Calls57 Go.Proofs.Ytokbdgikdlfneaa.Calls61 Go.Proofs.Ytokbdgikdlfneaa.Calls69 Go.Proofs.Ytokbdgikdlfneaa.Calls87 Go.Proofs.Ytokbdgikdlfneaa.Calls91 Go.Proofs.Ytokbdgikdlfneaa.Calls92 Go.Proofs.Ytokbdgikdlfneaa.Calls93
set_option linter.unusedVariables false

theorem own : ownKnob Try.prog.godebug = none := by kernel_rfl

theorem laidOut : laidOutB Try.prog = true := by kernel_rfl

theorem cells2 : Try.prog.cellsOf 2 = 1 := by kernel_rfl

theorem cellsP : Try.prog.cellsOf 39 = 2 := by kernel_rfl

theorem al {w W : World} (h : Below w.heap.size w W) (o : Obj) : Below w.heap.size w (W.alloc o) := h.alloc h.size o

theorem vrow {W : World} {base g n cap : Nat} {s : Int} {m : List Int} (hn : n = m.length) (h : W.ownsRow base 2 1 (.slice (some ⟨g, 0, none⟩) (1 + n) cap) (1 + n) ([.int .i64 s] ++ ivals m)) : IRow W (some ⟨g, 0, none⟩) (s :: m) := by
  have h2 : W.ownsRow base 2 1 (.slice (some ⟨g, 0, none⟩) (1 + n) cap) (1 + n) (ivals (s :: m)) := h
  obtain ⟨ao, c, e1, _, e2⟩ := irow_owns h2
  simp only [Value.slice.injEq] at e1
  rw [e1.1]; exact e2

theorem fin_below {w W3 w5 w6 : World} {o : Obj} (h4 : Below w.heap.size w (W3.drew.alloc o)) (h5 : Below W3.drew.heap.size (W3.drew.alloc o) w5) (h6 : Below w5.heap.size w5 w6) (hs : w.heap.size ≤ W3.heap.size) : Below w.heap.size w w6 :=
  below_trans (h4.trans (h5.mono hs)) h6

theorem ret_ok {P : Nat} {s : Int} {m : List Int} (hp : 1 ≤ P) {x y : Int} (h : y = ev (s :: m) x % (P : Int)) : (rs (ev (s :: m) x) P : Int) = y := by rw [h]; exact rs_cast _ hp

theorem walk_bad (p : Int) (ao : Option Addr) (cap : Nat) (l : List (Int × Int)) (ml : l.length ≤ 9223372036854775807) (s c : Int) (hc : ExC p l s c) (h0 : c ≠ 0) (w : World) (hrow : PRow w ao l) :
    Calls Try.prog 5 #[.int .i64 p, .slice ao l.length cap, .int .i64 s] w fun e w' => e = .returned (.bool true) ∧ Below w.heap.size w w' := by
  have cE := Explain_bad p ao cap l ml s c hc h0 w hrow
  have h1 : (c != 0) = true := by simpa using h0
  have h2 : (c == 0) = false := by simpa using h0
  rcases hc with ⟨hj, _⟩ | ⟨hj, h3⟩
  · have cC := fun w' (hB : Below w.heap.size w w') => refJoinCheck_any p ao cap l ml c hj w' (pb hrow hB)
    generalize l.length = n at *
    clear hj hrow
    go_enter Try.func5, Try.ntmps5
    go_wp2_with (first
      | (go_at_call 16; refine cE.mono ?_; rintro e w1 ⟨rfl, hB⟩)
      | (go_at_call 14; refine (cC _ hB).mono ?_; rintro e w2 ⟨rfl, hB2⟩))
    go_ret
    exact ⟨rfl, below_trans hB hB2⟩
  · have cC := fun w' (hB : Below w.heap.size w w') => refJoinCheck_any p ao cap l ml 0 hj w' (pb hrow hB)
    generalize l.length = n at *
    clear hj hrow
    rcases h3 with ⟨h3, rfl⟩ | ⟨h3, ⟨h4, rfl⟩ | ⟨h4, rfl⟩⟩
    · by_cases o1 : s < 0
      · clear h3
        go_enter Try.func5, Try.ntmps5
        go_wp2_with (first
          | (go_at_call 16; refine cE.mono ?_; rintro e w1 ⟨rfl, hB⟩)
          | (go_at_call 14; refine (cC _ hB).mono ?_; rintro e w2 ⟨rfl, hB2⟩))
        go_ret
        exact ⟨rfl, below_trans hB hB2⟩
      · have o1' : decide (s < 0) = false := by simpa using o1
        have o2 : p ≤ s := by omega
        clear h3
        go_enter Try.func5, Try.ntmps5
        go_wp2_with (first
          | (go_at_call 16; refine cE.mono ?_; rintro e w1 ⟨rfl, hB⟩)
          | (go_at_call 14; refine (cC _ hB).mono ?_; rintro e w2 ⟨rfl, hB2⟩))
        go_ret
        exact ⟨rfl, below_trans hB hB2⟩
    · obtain ⟨o1, o2⟩ := h3
      have o1' : decide (s < 0) = false := by simp; omega
      have o2' : decide (p ≤ s) = false := by simp; omega
      have h4' : (12 : Int) < (n : Int) := by omega
      go_enter Try.func5, Try.ntmps5
      go_wp2_with (first
        | (go_at_call 16; refine cE.mono ?_; rintro e w1 ⟨rfl, hB⟩)
        | (go_at_call 14; refine (cC _ hB).mono ?_; rintro e w2 ⟨rfl, hB2⟩))
      go_ret
      exact ⟨rfl, below_trans hB hB2⟩
    · exact absurd rfl h0

set_option maxRecDepth 100000 in
set_option maxHeartbeats 2000000 in
theorem walk_ok (P : Nat) (hP : Pr P) (hP2 : P ≤ 251) (ao : Option Addr) (cap : Nat) (l : List (Int × Int)) (hl : l.length ≤ 12) (s : Int) (hs : 0 ≤ s ∧ s < (P : Int)) (hc : ExC (P : Int) l s 0) (hj : JnC (P : Int) l 0) (w : World) (hrow : PRow w ao l) :
    Calls Try.prog 5 #[.int .i64 (P : Int), .slice ao l.length cap, .int .i64 s] w fun e w' => e = .returned (.bool true) ∧ Below w.heap.size w w' := by
  obtain ⟨i0, hi, hz0, hz1, hz2⟩ := info_ex
  have hp1 : 1 ≤ P := by have := hP.1; omega
  have cE := (Explain_any (P : Int) ao cap l (by omega) s 0 hc w hrow).mono (R' := fun e w' => (∃ m bo cb, Hid (ExpIs P (px l) (py l) l.length s m) ∧ Hid (IRow w' bo m) ∧ e = .returned (.tuple #[.slice bo l.length cb, .int .i64 0])) ∧ Below w.heap.size w w') (fun e w' h => ⟨by
    obtain ⟨bo, k, cb, he, _, h2, _⟩ := h.1
    obtain ⟨m, h3, h4, h5⟩ := h2 rfl
    rw [Int.toNat_natCast] at h3
    refine ⟨m, bo, cb, h3, h5, ?_⟩
    rw [he, h4, h3.1], h.2⟩)
  have cC := fun w' (hB : Below w.heap.size w w') => refJoinCheck_any (P : Int) ao cap l (by omega) 0 hj w' (pb hrow hB)
  obtain ⟨o1, o2⟩ := hs
  have o1' : decide (s < 0) = false := by simp; omega
  have o2' : decide ((P : Int) ≤ s) = false := by simp; omega
  have HR := hid hrow
  obtain ⟨n, hn⟩ : ∃ n, n = l.length := ⟨_, rfl⟩
  have HN : Hid (n = l.length) := hn
  have hl' : decide ((12 : Int) < (n : Int)) = false := by simp; omega
  simp only [← hn] at cE cC hl ⊢
  clear hc hj hrow hn
  go_enter Try.func5, Try.ntmps5
  go_wp2_with (first
    | (go_at_call 16; refine cE.mono ?_; rintro e w1 ⟨⟨m, bo, cb, HX, HM1, rfl⟩, hB⟩; have HB := hid hB; clear hB)
    | (go_at_call 14; refine (cC _ HB.out).mono ?_; rintro e w2 ⟨rfl, hB2⟩; have HB2 := hid (below_trans HB.out hB2); have HM := hid (ib HM1.out hB2); clear hB2))
  clear cE cC HM1 HB
  have HML : Hid (n = m.length) := HX.out.1.symm
  go_loop [54] (fun vi => ∃ k : Nat, vi = .int .i64 (k : Int) ∧ k ≤ n) (fun vi => ((n : Int) - intOf vi).toNat)
  case atStart => exact ⟨0, rfl, by omega⟩
  case round =>
    obtain ⟨k, rfl, hk⟩ := hrel
    by_cases hgo : k < n
    · have hgo' : (k : Int) < (n : Int) := by omega
      have hkl : Hid (k < m.length) := by have := HML.out; show k < m.length; omega
      rcases bo with _ | bd
      · exact (irow_none HM.out hkl.out).elim
      · have d0 := HM.out.2 bd rfl k hkl.out
        obtain ⟨b1, b2⟩ := HX.out.2.1.at hp1 k
        generalize co m k = y at *
        have b1' : decide (y < 0) = false := by simp; omega
        have b2' : decide ((P : Int) ≤ y) = false := by simp; omega
        go_wp2
        go_round
        case rel => exact ⟨k + 1, by simp, by omega⟩
        case measure => exact measK hgo
    · have hgo' : ¬ (k : Int) < (n : Int) := by omega
      clear hgo
      go_wp2
      go_loopw [68] (fun vi wr => ∃ k : Nat, vi = .int .i64 (k : Int) ∧ k ≤ n ∧ Hid (Below w2.heap.size w2 wr)) (fun vi wr => ((n : Int) - intOf vi).toNat)
      case atStart => exact ⟨0, rfl, by omega, Below.refl _ _⟩
      case round =>
        obtain ⟨j, rfl, hj, HBr⟩ := hrel
        by_cases hgj : j < n
        · have hgj' : (j : Int) < (n : Int) := by omega
          have hjl : Hid (j < l.length) := by have := HN.out; show j < l.length; omega
          rcases ao with _ | ad
          · exact (prow_none HR.out hjl.out).elim
          · obtain ⟨c1, c2⟩ := pcell (pb (pb HR.out HB2.out) HBr.out) hjl.out
            have cV := fun o8 c8 w' (r : IRow w' o8 (s :: m)) => refValue_any P hp1 hP2 o8 c8 (s :: m) (px l j) (fun x hx => by
              rcases List.mem_cons.1 hx with e | e
              · rw [e]; exact ⟨o1, o2⟩
              · exact HX.out.2.1 x e) (by have := HML.out; simp; omega) w' r
            simp only [ret_ok hp1 (HX.out.2.2 j hgj)] at cV
            simp only [show (s :: m).length = 1 + n by have := HML.out; simp; omega] at cV
            generalize px l j = x at *
            generalize py l j = y at *
            go_wp2
            obtain ⟨W3, hW3⟩ : ∃ W3, W3 = wr.alloc (.cells #[.int .i64 x, .int .i64 y] 39) := ⟨_, rfl⟩
            have hbx : BoxC W3 wr.heap.size 39 #[.int .i64 x, .int .i64 y] := by rw [hW3]; exact BoxC.new wr 39 _
            have HB3 : Hid (Below w2.heap.size w2 W3) := by rw [hW3]; exact al HBr.out _
            obtain ⟨B, hBe⟩ : ∃ B, B = wr.heap.size := ⟨_, rfl⟩
            rw [← hBe] at hbx
            have HBX := hid hbx
            have e0 : W3.drew.cell? ⟨B, 0, none⟩ = some (.int .i64 x) := hbx.cell 0
            have e1 : W3.drew.cell? ⟨B, 1, none⟩ = some (.int .i64 y) := hbx.cell 1
            have hA := (Below.refl _ W3.drew).alloc (Nat.le_refl _) (.cells #[.int .i64 s] 2)
            have hA3 : Below W3.heap.size W3 (W3.drew.alloc (.cells #[.int .i64 s] 2)) := (Below.refl _ W3).drew.alloc (Nat.le_refl _) _
            have f0 := (hA.cell (p := ⟨B, 0, none⟩) (cell_lt e0)).trans e0
            have f1 := (hA.cell (p := ⟨B, 1, none⟩) (cell_lt e1)).trans e1
            have own1 := hid (owns_one W3.drew W3.drew.heap.size s (Nat.le_refl _))
            have HMd : Hid (IRow (W3.drew.alloc (.cells #[.int .i64 s] 2)) bo m) := ib (ib HM.out HB3.out) hA3
            have HB4 : Hid (Below w2.heap.size w2 (W3.drew.alloc (.cells #[.int .i64 s] 2))) := HB3.out.trans (hA3.mono HB3.out.size)
            have hsz : W3.drew.heap.size ≤ (W3.drew.alloc (.cells #[.int .i64 s] 2)).heap.size := hA.size
            rw [← hW3, ← hBe]
            clear hW3 hBe hbx hA hA3 c1 c2
            go_region_held3 (fun w' => w'.cell? ⟨B, 0, none⟩ = some (.int .i64 x) ∧ w'.cell? ⟨B, 1, none⟩ = some (.int .i64 y)) (first | exact ⟨i0', i1'⟩ | exact ⟨g0, g1⟩ | exact ⟨f0, f1⟩ | exact ⟨e0, e1⟩)
              (first
                | (refine step_append_sl (W3.drew.alloc (.cells #[.int .i64 s] 2)) rfl _ _ 22 rfl W3.drew.heap.size 2 i0 Try.underlying22 hi hz0 hz1 hz2 W3.drew.heap.size 1 1 [.int .i64 s] rfl own1.out bo n cb m rfl HML.out HMd.out (by omega) hsz ?_; intro g5 c5 w5 hO hB5; have HO := hid hO; have HB5 := hid hB5; have g0 := (hB5.cell (p := ⟨B, 0, none⟩) (cell_lt e0)).trans f0; have g1 := (hB5.cell (p := ⟨B, 1, none⟩) (cell_lt e1)).trans f1; clear hO hB5)
                | (go_at_call 17; refine (cV _ _ _ (vrow HML.out HO.out)).mono ?_; rintro e w6 ⟨rfl, hB6⟩; have HB6 := hid hB6; have i0' := (hB6.cell (p := ⟨B, 0, none⟩) (cell_lt g0)).trans g0; have i1' := (hB6.cell (p := ⟨B, 1, none⟩) (cell_lt g1)).trans g1; clear hB6))
            go_wp2
            go_roundw
            case rel => exact ⟨j + 1, by simp, by omega, hid (fin_below HB4.out HB5.out HB6.out HB3.out.size)⟩
            case measure => exact measK hgj
        · have hgj' : ¬ (j : Int) < (n : Int) := by omega
          go_wp2
          go_ret
          exact ⟨rfl, below_trans HB2.out HBr.out⟩

theorem walk (p : Int) (ao : Option Addr) (cap : Nat) (l : List (Int × Int)) (kl : l.length ≤ cap) (ml : l.length ≤ 9223372036854775807) (s : Int) (w : World) (hrow : PRow w ao l) (hli : Lies w ao l) :
    Calls Try.prog 5 #[.int .i64 p, .slice ao l.length cap, .int .i64 s] w fun e w' => e = .returned (.bool true) ∧ Below w.heap.size w w' := by
  obtain ⟨c, hc⟩ := exc_ex p l s
  by_cases h0 : c = 0
  · subst h0
    obtain ⟨hj, hs, hl⟩ := hc.ok
    obtain ⟨hpt, hz⟩ := hj.ok
    obtain ⟨P, rfl, hP, hP2, _, hI, hD⟩ := hpt.ok
    exact walk_ok P hP hP2 ao cap l hl s hs hc hj w hrow
  · exact walk_bad p ao cap l ml s c hc h0 w hrow

set_option maxRecDepth 100000 in
theorem lifted (os : Os) (started : os.Started) (H : Type) (enc : TypeId × Value → H) :
    ReturnsInHanded {} Try.checked os 5 .any (Rows.shareExplainsSpec.pre6 enc Try.prog Try.f5 Rows.shareExplainsRow.domain false) (Rows.shareExplainsSpec.post enc Try.prog Try.f5 false true false false) := by
  refine returnsInHanded_of_change (C := Try.checked) own started (by kernel_rfl) Try.func5
    (ChangeSpec.witness6 (enc := enc) (C := Try.checked) false ⟨#[], #[.int .i64 0, .slice none 0 0, .int .i64 0], []⟩ 8 (by kernel_rfl) (by kernel_rfl) (by kernel_rfl) (by kernel_rfl)) ?_
  intro W base args ds gs before hval0 hW hcnd _
  have hval : ∀ (j : Nat) t v, Try.f5.params[j]? = some t → args[j]? = some v → Value.okWide Try.prog W .any base t v := hval0
  have hW' := hW
  obtain ⟨p, q, hA0, hV, rfl, _, _⟩ := hW
  have hA : DataW.TrodAll enc Try.prog W 0 (fun _ => true) true Try.f5.params.toList args.toList ds p := hA0
  rw [Try.params5] at hA hval
  obtain ⟨v0, v1, v2, d0, d1, d2, p0, p1, p2, rfl, rfl, rfl, h0, h1, h2⟩ := trodAll_three hA
  obtain ⟨rfl, rfl⟩ := trodVars_none hV
  obtain ⟨a0, rfl, rfl, rfl, w0⟩ := open_int Try.underlying2 (hval 0 2 v0 rfl rfl) h0
  have hsl1 := okWide_slice Try.underlying23 (hval 1 23 v1 rfl rfl)
  obtain ⟨a2, rfl, rfl, rfl, w2⟩ := open_int Try.underlying2 (hval 2 2 v2 rfl rfl) h2
  clear hA0 hval0
  simp only [List.append_nil, List.nil_append] at hW'
  have hlt1 : ∀ x ∈ p1, x.block < W.heap.size := fun x hx => by simpa using hW'.lt x (by simp [hx])
  have harg1 : ∀ (W' : World), Below W.heap.size W W' → DataW.Trod enc Try.prog W' 0 (fun b => decide (b < W.heap.size)) true 23 v1 d1 p1 :=
    fun W' hn => Below.trod laidOut (by kernel_rfl) (of_decide_eq_true (by kernel_rfl)) h1 hn hlt1
  obtain ⟨o1, c1, l1, rfl, m1, r1, b1, z1, k1, _⟩ := pairs_view (fun _ => rfl) Try.underlying23 Try.underlying39 cellsP rfl rfl cells2 cells2 Try.underlying2 Try.underlying2 h1 hsl1
  refine (walk a0 o1 c1 l1 k1 m1 a2 W r1 b1).mono fun e W' ⟨he, hg⟩ => ?_
  subst he
  refine ⟨_, rfl, _, _, _, [], ([] : List MemPlace) ++ (p1 ++ (([] : List MemPlace))), [], hW', ?_, ?_, rfl, hg.frame _, fun h => by cases h⟩
  · exact trodAll_mk1 (shut_bool Try.underlying4 true)
  · exact trodAll_mk3 (shut_int Try.underlying2 w0) (harg1 _ hg) (shut_int Try.underlying2 w2)

theorem over : Rows.shareExplainsRow.holds Try.pinned (OpenSpec.ofChange Rows.shareExplainsSpec) :=
  OpenClaim.holds_of_wide 5 Try.f5 rfl rfl rfl rfl rfl rfl rfl ⟨rfl, rfl, rfl, rfl, rfl⟩ rfl rfl rfl rfl rfl (by kernel_rfl) Try.func5 (by kernel_rfl)
    (of_decide_eq_true (by kernel_rfl)) (by unfold Func.isWrapper; first | (rw [if_pos (by decide +kernel)]; kernel_rfl) | (rw [if_neg (by decide +kernel)]; exact ⟨rfl, rfl⟩))
    (fun os started H enc _ => lifted os started H enc)

/-- ████ THE STATEMENT ████ -/
theorem proved : Rows.ShareExplainsSaid :=
  over

end Go.Proofs.Ytokbdgikdlfneaa.shareExplains
