/-
  LAGRANGE: for any points and any polynomial of a degree less than there are points: if it goes through all of them, it is what is told: with no condition.
-/
import Derived.Test.YtiaabkadonimjabRows
import Derived.Test.YtiaabkadonimjabCalls61
import Derived.Test.YtiaabkadonimjabCalls67
import Derived.Test.YtiaabkadonimjabCalls68
import Derived.Test.YtiaabkadonimjabCalls72
import Derived.Test.YtiaabkadonimjabCalls73
import Derived.WalkKit
import Derived.ProofKit
import Derived.OpenShut
import Derived.Carry
namespace Go.Proofs.Ytiaabkadonimjab.polyOne
open Go.ChangeShapes Go.WideShapes Go.ChangeAt Go.RowKit Go.Deep Go.Proofs.Ytiaabkadonimjab.Base Go.Proofs.Ytiaabkadonimjab.Num Go.Proofs.Ytiaabkadonimjab.Num7 Go.Proofs.Ytiaabkadonimjab.Num13 Go.Proofs.Ytiaabkadonimjab.Num16 Go.Proofs.Ytiaabkadonimjab.Num17 Go.Proofs.Ytiaabkadonimjab.Num34 Go.Proofs.Ytiaabkadonimjab.Num35 Go.Proofs.Ytiaabkadonimjab.Base4 Go.Proofs.Ytiaabkadonimjab.Calls56 Go.Proofs.Ytiaabkadonimjab.Calls57 Go.Proofs.Ytiaabkadonimjab.Calls61 Go.Proofs.Ytiaabkadonimjab.Calls62 Go.Proofs.Ytiaabkadonimjab.Calls67 Go.Proofs.Ytiaabkadonimjab.Calls68 Go.Proofs.Ytiaabkadonimjab.Calls69 Go.Proofs.Ytiaabkadonimjab.Calls72 Go.Proofs.Ytiaabkadonimjab.Calls73
set_option linter.unusedVariables false

theorem own : ownKnob Try.prog.godebug = none := by kernel_rfl

theorem laidOut : laidOutB Try.prog = true := by kernel_rfl

theorem cells2 : Try.prog.cellsOf 2 = 1 := by kernel_rfl

theorem cellsP : Try.prog.cellsOf 45 = 2 := by kernel_rfl

theorem ir {W : World} {ao : Option Addr} {l : List Int} (h : IRow W ao l) (o : Obj) : IRow (W.alloc o) ao l := irow_below h ((Below.refl _ W).alloc (Nat.le_refl _) _) (Nat.le_refl _)

/-- All is as it should be so far. -/
def AllG (P : Nat) (l : List (Int × Int)) (a : List Int) (c : Int) (k : Nat) : Prop := ∀ j, j < k → c = 0 ∧ (rs (ev a (px l j)) P : Int) = py l j

theorem allG_next {P : Nat} {l : List (Int × Int)} {a : List Int} {c : Int} {k : Nat} (h : AllG P l a c k) (h0 : c = 0) (hv : (rs (ev a (px l k)) P : Int) = py l k) : AllG P l a c (k + 1) := fun j hj => by
  by_cases e : j = k
  · subst e; exact ⟨h0, hv⟩
  · exact h j (by omega)

theorem val_is {P : Nat} (hp : 1 ≤ P) {z y : Int} (h : (P : Int) ∣ z - y) (hy : 0 ≤ y ∧ y < (P : Int)) : (rs z P : Int) = y := small_of (cong_tr (rs_cong hp z) h) (rs_bd hp z) hy

theorem rs_dvd {P : Nat} (hp : 1 ≤ P) {z y : Int} (h : (rs z P : Int) = y) : (P : Int) ∣ z - y := by rw [← h]; exact cong_sy (rs_cong hp z)

set_option maxRecDepth 100000 in
set_option maxHeartbeats 2000000 in
theorem walk_yes (P : Nat) (hP : Pr P) (hP2 : P ≤ 251) (ao : Option Addr) (cap : Nat) (l : List (Int × Int)) (hl : l.length ≤ 13) (hI : InP (P : Int) l l.length) (hD : Dis l l.length) (hc : PtC (P : Int) l 0) (bo : Option Addr) (cb : Nat) (a : List Int) (ma : a.length ≤ 9223372036854775807) (w : World) (hrow : PRow w ao l) (hli : Lies w ao l) (rb : IRow w bo a) :
    Calls Try.prog 8 #[.int .i64 (P : Int), .slice ao l.length cap, .slice bo a.length cb] w fun e w' => e = .returned (.bool true) ∧ Below w.heap.size w w' := by
  have hp1 : 1 ≤ P := by have := hP.1; omega
  obtain ⟨c, hca⟩ := pc_ex (P : Int) a
  have cC := fun w' (hB : Below w.heap.size w w') => refPointsCheck_any (P : Int) ao cap l 0 hc w' (prow_below hrow hB hli) (hli.below hB)
  have cT := Through_yes P hP hP2 ao cap l hl hI hD hc w hrow hli
  have cSt := fun (t : List Int) (ot : Option Addr) (ct : Nat) (ht : ThrIs P (px l) (py l) l.length t) w' (r : IRow w' ot t) => sound1 (P : Int) ot ct t (by have := ht.2.1; omega) 0 (PC.of hP hP2 (Nat.le_trans ht.2.1 hl) ht.1) true (by simp) w' r
  have cAt := fun (t : List Int) (ot : Option Addr) (ct : Nat) (ht : ThrIs P (px l) (py l) l.length t) (k : Nat) (hk : k < l.length) w' (r : IRow w' ot t) => At_yes P hP hP2 ot ct t (Nat.le_trans ht.2.1 hl) ht.1 (px l k) ⟨by have := (hI k hk).1; omega, by have := (hI k hk).1; omega⟩ w' r
  have HV : Hid (∀ t, ThrIs P (px l) (py l) l.length t → ∀ k, k < l.length → (rs (ev t (px l k)) P : Int) = py l k) := fun t ht k hk => val_is hp1 (ht.2.2 k hk) (hI k hk).2
  have HU : Hid (c = 0 → AllG P l a c l.length → a.length ≤ l.length → ∀ t, ThrIs P (px l) (py l) l.length t → a = t) := fun h0 hA hle t ht => by
    subst h0
    obtain ⟨P', e, _, _, h3, h4⟩ := hca.ok
    obtain rfl : P' = P := by omega
    exact ThrIs.uniq hP (dist_of hI hD) ⟨h4, hle, fun j hj => rs_dvd hp1 (hA j hj).2⟩ ht
  have HC0 : Hid (c = 0 → Cn P a ∧ a.length ≤ 13) := fun h0 => by
    subst h0
    obtain ⟨P', e, _, _, h3, h4⟩ := hca.ok
    obtain rfl : P' = P := by omega
    exact ⟨h4, h3⟩
  have HL := hid (fun t (ht : ThrIs P (px l) (py l) l.length t) => ht.2.1)
  have HI := hid hI
  have RA := hid rb
  have HPC := hid hca
  obtain ⟨N, hN⟩ : ∃ N, N = l.length := ⟨_, rfl⟩
  have HN : Hid (N = l.length) := hN
  obtain ⟨na, hna⟩ : ∃ na, na = a.length := ⟨_, rfl⟩
  have HNA : Hid (na = a.length) := hna
  simp only [← hN, ← hna] at cC cT hl ma ⊢
  clear hN hna hI hD hc hca rb
  go_enter Try.func8, Try.ntmps8
  go_wp2_with (first
    | (go_at_call 9; refine cT.mono ?_; rintro e w1 ⟨⟨t, ht, ot, ct, rfl, hct, hr1⟩, hB1⟩; have HT := hid ht; have R1 := hid hr1; have hlt := HL.out t ht; have cSt1 := cSt t ot ct ht; have cAt1 := cAt t ot ct ht; obtain ⟨nt, hnt⟩ : ∃ nt, nt = t.length := ⟨_, rfl⟩; have HNT := hid hnt; simp only [← hnt] at cSt1 cAt1; rw [← hnt]; rw [← hnt, ← HN.out] at hlt; have hlt' : decide ((N : Int) < (nt : Int)) = false := (by simp; omega); have hlt2 : decide (N < nt) = false := (by simp; omega); clear ht hr1 hnt cSt cAt)
    | (go_at_call 10; refine (cC _ hB1).mono ?_; rintro e w2 ⟨rfl, hB2⟩; have R2 := hid (ib R1.out hB2); have HB2 := hid (below_trans hB1 hB2))
    | (go_at_call 14; refine (cSt1 _ R2.out).mono ?_; rintro e ws ⟨rfl, hw⟩; subst ws))
  have R3 := hid (ir R2.out (.cells #[.slice ot nt ct] 23))
  have HB3 := hid (al HB2.out (.cells #[.slice ot nt ct] 23))
  clear R1 R2 HB2 hB1 hB2 cC cT cSt1
  go_loopw [9, 44] (fun va vi wr => ∃ (k : Nat) (b : Bool), va = .bool b ∧ vi = .int .i64 (k : Int) ∧ k ≤ N ∧ Hid (b = true ↔ AllG P l a c k) ∧ Hid (IRow wr ot t) ∧ Hid (Below w.heap.size w wr)) (fun va vi wr => ((N : Int) - intOf vi).toNat)
  case atStart => exact ⟨0, true, rfl, rfl, by omega, ⟨fun _ j hj => absurd hj (by omega), fun _ => rfl⟩, R3, HB3⟩
  case round =>
    obtain ⟨k, b, rfl, rfl, hk, hA, RT, HB⟩ := hrel
    by_cases hgo : k < N
    · have hgo' : (k : Int) < (N : Int) := by omega
      have hkl : Hid (k < l.length) := by have := HN.out; show k < l.length; omega
      rcases ao with _ | ad
      · exact (prow_none hrow hkl.out).elim
      obtain ⟨e1, e2⟩ := pcell (prow_below hrow HB.out hli) hkl.out
      have hxb := (HI.out k hkl.out).1
      have hyb := (HI.out k hkl.out).2
      have cA1 := fun w' (r : IRow w' ot t) => cAt1 k hkl.out w' r
      simp only [HV.out t HT.out k hkl.out] at cA1
      have hA2 : Hid (c = 0 → (rs (ev a (px l k)) P : Int) = py l k → AllG P l a c k → AllG P l a c (k + 1)) := fun h0 hv h => allG_next h h0 hv
      have hA3 : Hid (AllG P l a c (k + 1) → AllG P l a c k ∧ c = 0 ∧ (rs (ev a (px l k)) P : Int) = py l k) := fun h => ⟨fun j hj => h j (by omega), h k (by omega)⟩
      have BX := hid (BoxC.new wr 45 #[.int .i64 (px l k), .int .i64 (py l k)])
      have RT2 := hid (ir RT.out (.cells #[.int .i64 (px l k), .int .i64 (py l k)] 45))
      have HB2 := hid (al HB.out (.cells #[.int .i64 (px l k), .int .i64 (py l k)] 45))
      have cV : Hid (c = 0 → ∀ w', IRow w' bo a → Calls Try.prog 23 #[.int .i64 (P : Int), .slice bo na cb, .int .i64 (px l k)] w' fun e w'' => e = .returned (.int .i64 (rs (ev a (px l k)) P : Int)) ∧ Below w'.heap.size w' w'') := fun h0 w' r => by
        obtain ⟨h1, h2⟩ := HC0.out h0
        rw [HNA.out]
        exact refValue_any P hp1 hP2 bo cb a (px l k) h1.1 (by omega) w' r
      generalize (rs (ev a (px l k)) P : Int) = v at *
      generalize px l k = x at *
      generalize py l k = y at *
      have hyy : (y != y) = false := by simp
      clear RT HB
      go_wp2_with (go_at_call 19; refine (cA1 _ RT2.out).mono ?_; rintro e w4 ⟨rfl, hB4⟩; have BX4 := hid (boxc_below BX.out hB4); have d0 : w4.cell? ⟨wr.heap.size, 0, none⟩ = some (.int .i64 x) := BX4.out.cell 0; have d1 : w4.cell? ⟨wr.heap.size, 1, none⟩ = some (.int .i64 y) := BX4.out.cell 1; have RT4 := hid (ib RT2.out hB4); have HB4 := hid (below_trans HB2.out hB4))
      clear hB4 BX RT2 HB2 e1 e2
      obtain ⟨B, hBe⟩ : ∃ B, B = wr.heap.size := ⟨_, rfl⟩
      rw [← hBe] at d0 d1 BX4 ⊢
      clear hBe
      have RTd : Hid (IRow w4.drew ot t) := RT4.out
      have HBd : Hid (Below w.heap.size w w4.drew) := HB4.out.drew
      cases b with
      | false =>
        have hA4 : Hid (false = true ↔ AllG P l a c (k + 1)) := ⟨fun h => (by cases h), fun h => absurd (hA.out.2 (hA3.out h).1) (by simp)⟩
        go_quiet (fail)
        go_wp2
        go_roundw
        case rel => exact ⟨k + 1, false, rfl, by simp, by omega, hA4, RT4, below_drewN HB4.out _⟩
        case measure => exact measK hgo
      | true =>
        have RAd : Hid (IRow w4.drew bo a) := irow_below RA.out HBd.out (Nat.le_refl _)
        have RAa := hid (ir RAd.out (.cells #[.slice bo na cb] 23))
        have RTa := hid (ir RTd.out (.cells #[.slice bo na cb] 23))
        have HBa := hid (al HBd.out (.cells #[.slice bo na cb] 23))
        have BXd : Hid (BoxC w4.drew B 45 #[.int .i64 x, .int .i64 y]) := BX4.out
        have BXa := hid (BXd.out.alloc (.cells #[.slice bo na cb] 23))
        have da0 : (w4.drew.alloc (.cells #[.slice bo na cb] 23)).cell? ⟨B, 0, none⟩ = some (.int .i64 x) := BXa.out.cell 0
        have da1 : (w4.drew.alloc (.cells #[.slice bo na cb] 23)).cell? ⟨B, 1, none⟩ = some (.int .i64 y) := BXa.out.cell 1
        have dc0 : (w4.alloc (.cells #[.slice bo na cb] 23)).cell? ⟨B, 0, none⟩ = some (.int .i64 x) := BXa.out.cell 0
        have dc1 : (w4.alloc (.cells #[.slice bo na cb] 23)).cell? ⟨B, 1, none⟩ = some (.int .i64 y) := BXa.out.cell 1
        have hAk := hid (hA.out.1 rfl)
        by_cases h0 : c = 0
        · have cS1 := sound1 (P : Int) bo cb a (by rw [← HNA.out]; exact ma) c HPC.out true (by simp [h0]) w4.drew RAd.out
          rw [← HNA.out] at cS1
          have cV1 := cV.out h0 _ RAa.out
          by_cases hv : v = y
          · have hA5 : Hid (AllG P l a c (k + 1)) := hA2.out h0 hv hAk.out
            subst hv
            have hvv : (v == v) = true := by simp
            refine wp_region_any (by kernel_rfl) ?_
            change wpAny _ _ _ _ _ _ _ (World.drew _)
            refine wpAny_take (i := 0) (v := .bool true) rfl (by kernel_rfl) (by kernel_rfl) (by kernel_rfl) (fun _ _ _ h => h) (Or.inl ⟨by kernel_rfl, by intro w; go_simp; try with_reducible rfl⟩) ?_
            refine wpAny_take (i := 1) (v := .bool true) rfl (by kernel_rfl) (by kernel_rfl) (by kernel_rfl) (fun _ _ _ h => h) (Or.inl ⟨by kernel_rfl, by intro w; go_simp; try with_reducible rfl⟩) ?_
            refine wpAny_take (i := 2) (v := .int .i64 (P : Int)) rfl (by kernel_rfl) (by kernel_rfl) (by kernel_rfl) (fun _ _ _ h => h) (Or.inl ⟨by kernel_rfl, by intro w; go_simp; try with_reducible rfl⟩) ?_
            refine wpAny_take (i := 3) (v := .slice bo na cb) rfl (by kernel_rfl) (by kernel_rfl) (by kernel_rfl) (fun _ _ _ h => h) (Or.inl ⟨by kernel_rfl, by intro w; go_simp; try with_reducible rfl⟩) ?_
            refine wpAny_ready (rs := [4]) (by kernel_rfl) (by simp) ?_
            refine AllReady.cons rfl (fun K hK => ?_) AllReady.nil
            go_simp
            try (refine hK _ _ ?_; clear hK K)
            refine wpAny_ready (rs := [5]) (by kernel_rfl) (by simp) ?_
            refine AllReady.cons rfl (fun K hK => ?_) AllReady.nil
            go_simp
            go_wp2_with (go_at_call 14; refine cS1.mono ?_; rintro e ws ⟨rfl, hw⟩; subst ws)
            try (refine hK _ _ ?_; clear hK K)
            refine wpAny_take (i := 6) (v := .bool true) rfl (by kernel_rfl) (by kernel_rfl) (by kernel_rfl) (fun _ _ _ h => h) (Or.inl ⟨by kernel_rfl, by intro w; go_simp; try with_reducible rfl⟩) ?_
            refine wpAny_take (i := 7) (v := .bool true) rfl (by kernel_rfl) (by kernel_rfl) (by kernel_rfl) (fun _ _ _ h => h) (Or.inl ⟨by kernel_rfl, by intro w; go_simp; try with_reducible rfl⟩) ?_
            refine wpAny_take (i := 8) (v := .int .i64 (P : Int)) rfl (by kernel_rfl) (by kernel_rfl) (by kernel_rfl) (fun _ _ _ h => h) (Or.inl ⟨by kernel_rfl, by intro w; go_simp; try with_reducible rfl⟩) ?_
            refine wpAny_take (i := 9) (v := .slice bo na cb) rfl (by kernel_rfl) (by kernel_rfl) (by kernel_rfl) (fun _ _ _ h => h) (Or.inl ⟨by kernel_rfl, by intro w; go_simp; try with_reducible rfl⟩) ?_
            refine wpAny_take (i := 10) (v := .pointer (some ⟨B, 0, none⟩)) rfl (by kernel_rfl) (by kernel_rfl) (by kernel_rfl) (fun _ _ _ h => h) (Or.inl ⟨by kernel_rfl, by intro w; go_simp; try with_reducible rfl⟩) ?_
            refine wpAny_take (i := 13) (v := .pointer (some ⟨B, 1, none⟩)) rfl (by kernel_rfl) (by kernel_rfl) (by kernel_rfl) (fun _ _ _ h => h) (Or.inl ⟨by kernel_rfl, by intro w; go_simp; try with_reducible rfl⟩) ?_
            refine wpAny_ready (rs := [11, 14]) (by kernel_rfl) (by simp) ?_
            refine AllReady.cons rfl (fun K hK => ?_) (AllReady.cons rfl (fun K hK => ?_) AllReady.nil)
            · go_simp
              try (refine hK _ _ ?_; clear hK K)
              refine wpAny_ready (rs := [12, 14]) (by kernel_rfl) (by simp) ?_
              refine AllReady.cons rfl (fun K hK => ?_) (AllReady.cons rfl (fun K hK => ?_) AllReady.nil)
              · go_simp
                go_wp2_with (go_at_call 23; refine cV1.mono ?_; rintro e w6 ⟨rfl, hB6⟩; have BX6 := hid (boxc_below BXa.out hB6); have db1 : w6.cell? ⟨B, 1, none⟩ = some (.int .i64 v) := BX6.out.cell 1; have RT6 := hid (ib RTa.out hB6); have HB6 := hid (below_trans HBa.out hB6))
                try (refine hK _ _ ?_; clear hK K)
                refine wpAny_ready (rs := [14]) (by kernel_rfl) (by simp) ?_
                refine AllReady.cons rfl (fun K hK => ?_) AllReady.nil
                go_simp
                try (refine hK _ _ ?_; clear hK K)
                refine wpAny_take (i := 15) (v := .bool true) rfl (by kernel_rfl) (by kernel_rfl) (by kernel_rfl) (fun _ _ _ h => h) (Or.inl ⟨by kernel_rfl, by intro w; go_simp; try with_reducible rfl⟩) ?_
                refine wpAny_take (i := 16) (v := .bool true) rfl (by kernel_rfl) (by kernel_rfl) (by kernel_rfl) (fun _ _ _ h => h) (Or.inl ⟨by kernel_rfl, by intro w; go_simp; try with_reducible rfl⟩) ?_
                refine wpAny_take (i := 17) (v := .bool true) rfl (by kernel_rfl) (by kernel_rfl) (by kernel_rfl) (fun _ _ _ h => h) (Or.inl ⟨by kernel_rfl, by intro w; go_simp; try with_reducible rfl⟩) ?_
                refine wpAny_done (by kernel_rfl) ?_ _
                go_wp2
                go_roundw
                case rel => exact ⟨k + 1, true, rfl, by simp, by omega, ⟨fun _ => hA5.out, fun _ => rfl⟩, RT6, HB6⟩
                case measure => exact measK hgo
              · go_simp
                try (refine hK _ _ ?_; clear hK K)
                refine wpAny_ready (rs := [12]) (by kernel_rfl) (by simp) ?_
                refine AllReady.cons rfl (fun K hK => ?_) AllReady.nil
                go_simp
                go_wp2_with (go_at_call 23; refine cV1.mono ?_; rintro e w6 ⟨rfl, hB6⟩; have BX6 := hid (boxc_below BXa.out hB6); have db1 : w6.cell? ⟨B, 1, none⟩ = some (.int .i64 v) := BX6.out.cell 1; have RT6 := hid (ib RTa.out hB6); have HB6 := hid (below_trans HBa.out hB6))
                try (refine hK _ _ ?_; clear hK K)
                refine wpAny_take (i := 15) (v := .bool true) rfl (by kernel_rfl) (by kernel_rfl) (by kernel_rfl) (fun _ _ _ h => h) (Or.inl ⟨by kernel_rfl, by intro w; go_simp; try with_reducible rfl⟩) ?_
                refine wpAny_take (i := 16) (v := .bool true) rfl (by kernel_rfl) (by kernel_rfl) (by kernel_rfl) (fun _ _ _ h => h) (Or.inl ⟨by kernel_rfl, by intro w; go_simp; try with_reducible rfl⟩) ?_
                refine wpAny_take (i := 17) (v := .bool true) rfl (by kernel_rfl) (by kernel_rfl) (by kernel_rfl) (fun _ _ _ h => h) (Or.inl ⟨by kernel_rfl, by intro w; go_simp; try with_reducible rfl⟩) ?_
                refine wpAny_done (by kernel_rfl) ?_ _
                go_wp2
                go_roundw
                case rel => exact ⟨k + 1, true, rfl, by simp, by omega, ⟨fun _ => hA5.out, fun _ => rfl⟩, RT6, HB6⟩
                case measure => exact measK hgo
            · go_simp
              try (refine hK _ _ ?_; clear hK K)
              refine wpAny_ready (rs := [11]) (by kernel_rfl) (by simp) ?_
              refine AllReady.cons rfl (fun K hK => ?_) AllReady.nil
              go_simp
              try (refine hK _ _ ?_; clear hK K)
              refine wpAny_ready (rs := [12]) (by kernel_rfl) (by simp) ?_
              refine AllReady.cons rfl (fun K hK => ?_) AllReady.nil
              go_simp
              go_wp2_with (go_at_call 23; refine cV1.mono ?_; rintro e w6 ⟨rfl, hB6⟩; have BX6 := hid (boxc_below BXa.out hB6); have db1 : w6.cell? ⟨B, 1, none⟩ = some (.int .i64 v) := BX6.out.cell 1; have RT6 := hid (ib RTa.out hB6); have HB6 := hid (below_trans HBa.out hB6))
              try (refine hK _ _ ?_; clear hK K)
              refine wpAny_take (i := 15) (v := .bool true) rfl (by kernel_rfl) (by kernel_rfl) (by kernel_rfl) (fun _ _ _ h => h) (Or.inl ⟨by kernel_rfl, by intro w; go_simp; try with_reducible rfl⟩) ?_
              refine wpAny_take (i := 16) (v := .bool true) rfl (by kernel_rfl) (by kernel_rfl) (by kernel_rfl) (fun _ _ _ h => h) (Or.inl ⟨by kernel_rfl, by intro w; go_simp; try with_reducible rfl⟩) ?_
              refine wpAny_take (i := 17) (v := .bool true) rfl (by kernel_rfl) (by kernel_rfl) (by kernel_rfl) (fun _ _ _ h => h) (Or.inl ⟨by kernel_rfl, by intro w; go_simp; try with_reducible rfl⟩) ?_
              refine wpAny_done (by kernel_rfl) ?_ _
              go_wp2
              go_roundw
              case rel => exact ⟨k + 1, true, rfl, by simp, by omega, ⟨fun _ => hA5.out, fun _ => rfl⟩, RT6, HB6⟩
              case measure => exact measK hgo
          · have hA4 : Hid (false = true ↔ AllG P l a c (k + 1)) := ⟨fun h => (by cases h), fun h => absurd (hA3.out h).2.2 hv⟩
            have hvv : (v == y) = false := by simpa using hv
            refine wp_region_any (by kernel_rfl) ?_
            change wpAny _ _ _ _ _ _ _ (World.drew _)
            refine wpAny_take (i := 0) (v := .bool true) rfl (by kernel_rfl) (by kernel_rfl) (by kernel_rfl) (fun _ _ _ h => h) (Or.inl ⟨by kernel_rfl, by intro w; go_simp; try with_reducible rfl⟩) ?_
            refine wpAny_take (i := 1) (v := .bool true) rfl (by kernel_rfl) (by kernel_rfl) (by kernel_rfl) (fun _ _ _ h => h) (Or.inl ⟨by kernel_rfl, by intro w; go_simp; try with_reducible rfl⟩) ?_
            refine wpAny_take (i := 2) (v := .int .i64 (P : Int)) rfl (by kernel_rfl) (by kernel_rfl) (by kernel_rfl) (fun _ _ _ h => h) (Or.inl ⟨by kernel_rfl, by intro w; go_simp; try with_reducible rfl⟩) ?_
            refine wpAny_take (i := 3) (v := .slice bo na cb) rfl (by kernel_rfl) (by kernel_rfl) (by kernel_rfl) (fun _ _ _ h => h) (Or.inl ⟨by kernel_rfl, by intro w; go_simp; try with_reducible rfl⟩) ?_
            refine wpAny_ready (rs := [4]) (by kernel_rfl) (by simp) ?_
            refine AllReady.cons rfl (fun K hK => ?_) AllReady.nil
            go_simp
            try (refine hK _ _ ?_; clear hK K)
            refine wpAny_ready (rs := [5]) (by kernel_rfl) (by simp) ?_
            refine AllReady.cons rfl (fun K hK => ?_) AllReady.nil
            go_simp
            go_wp2_with (go_at_call 14; refine cS1.mono ?_; rintro e ws ⟨rfl, hw⟩; subst ws)
            try (refine hK _ _ ?_; clear hK K)
            refine wpAny_take (i := 6) (v := .bool true) rfl (by kernel_rfl) (by kernel_rfl) (by kernel_rfl) (fun _ _ _ h => h) (Or.inl ⟨by kernel_rfl, by intro w; go_simp; try with_reducible rfl⟩) ?_
            refine wpAny_take (i := 7) (v := .bool true) rfl (by kernel_rfl) (by kernel_rfl) (by kernel_rfl) (fun _ _ _ h => h) (Or.inl ⟨by kernel_rfl, by intro w; go_simp; try with_reducible rfl⟩) ?_
            refine wpAny_take (i := 8) (v := .int .i64 (P : Int)) rfl (by kernel_rfl) (by kernel_rfl) (by kernel_rfl) (fun _ _ _ h => h) (Or.inl ⟨by kernel_rfl, by intro w; go_simp; try with_reducible rfl⟩) ?_
            refine wpAny_take (i := 9) (v := .slice bo na cb) rfl (by kernel_rfl) (by kernel_rfl) (by kernel_rfl) (fun _ _ _ h => h) (Or.inl ⟨by kernel_rfl, by intro w; go_simp; try with_reducible rfl⟩) ?_
            refine wpAny_take (i := 10) (v := .pointer (some ⟨B, 0, none⟩)) rfl (by kernel_rfl) (by kernel_rfl) (by kernel_rfl) (fun _ _ _ h => h) (Or.inl ⟨by kernel_rfl, by intro w; go_simp; try with_reducible rfl⟩) ?_
            refine wpAny_take (i := 13) (v := .pointer (some ⟨B, 1, none⟩)) rfl (by kernel_rfl) (by kernel_rfl) (by kernel_rfl) (fun _ _ _ h => h) (Or.inl ⟨by kernel_rfl, by intro w; go_simp; try with_reducible rfl⟩) ?_
            refine wpAny_ready (rs := [11, 14]) (by kernel_rfl) (by simp) ?_
            refine AllReady.cons rfl (fun K hK => ?_) (AllReady.cons rfl (fun K hK => ?_) AllReady.nil)
            · go_simp
              try (refine hK _ _ ?_; clear hK K)
              refine wpAny_ready (rs := [12, 14]) (by kernel_rfl) (by simp) ?_
              refine AllReady.cons rfl (fun K hK => ?_) (AllReady.cons rfl (fun K hK => ?_) AllReady.nil)
              · go_simp
                go_wp2_with (go_at_call 23; refine cV1.mono ?_; rintro e w6 ⟨rfl, hB6⟩; have BX6 := hid (boxc_below BXa.out hB6); have db1 : w6.cell? ⟨B, 1, none⟩ = some (.int .i64 y) := BX6.out.cell 1; have RT6 := hid (ib RTa.out hB6); have HB6 := hid (below_trans HBa.out hB6))
                try (refine hK _ _ ?_; clear hK K)
                refine wpAny_ready (rs := [14]) (by kernel_rfl) (by simp) ?_
                refine AllReady.cons rfl (fun K hK => ?_) AllReady.nil
                go_simp
                try (refine hK _ _ ?_; clear hK K)
                refine wpAny_take (i := 15) (v := .bool false) rfl (by kernel_rfl) (by kernel_rfl) (by kernel_rfl) (fun _ _ _ h => h) (Or.inl ⟨by kernel_rfl, by intro w; go_simp; try with_reducible rfl⟩) ?_
                refine wpAny_take (i := 16) (v := .bool false) rfl (by kernel_rfl) (by kernel_rfl) (by kernel_rfl) (fun _ _ _ h => h) (Or.inl ⟨by kernel_rfl, by intro w; go_simp; try with_reducible rfl⟩) ?_
                refine wpAny_take (i := 17) (v := .bool false) rfl (by kernel_rfl) (by kernel_rfl) (by kernel_rfl) (fun _ _ _ h => h) (Or.inl ⟨by kernel_rfl, by intro w; go_simp; try with_reducible rfl⟩) ?_
                refine wpAny_done (by kernel_rfl) ?_ _
                go_wp2
                go_roundw
                case rel => exact ⟨k + 1, false, rfl, by simp, by omega, hA4, RT6, HB6⟩
                case measure => exact measK hgo
              · go_simp
                try (refine hK _ _ ?_; clear hK K)
                refine wpAny_ready (rs := [12]) (by kernel_rfl) (by simp) ?_
                refine AllReady.cons rfl (fun K hK => ?_) AllReady.nil
                go_simp
                go_wp2_with (go_at_call 23; refine cV1.mono ?_; rintro e w6 ⟨rfl, hB6⟩; have BX6 := hid (boxc_below BXa.out hB6); have db1 : w6.cell? ⟨B, 1, none⟩ = some (.int .i64 y) := BX6.out.cell 1; have RT6 := hid (ib RTa.out hB6); have HB6 := hid (below_trans HBa.out hB6))
                try (refine hK _ _ ?_; clear hK K)
                refine wpAny_take (i := 15) (v := .bool false) rfl (by kernel_rfl) (by kernel_rfl) (by kernel_rfl) (fun _ _ _ h => h) (Or.inl ⟨by kernel_rfl, by intro w; go_simp; try with_reducible rfl⟩) ?_
                refine wpAny_take (i := 16) (v := .bool false) rfl (by kernel_rfl) (by kernel_rfl) (by kernel_rfl) (fun _ _ _ h => h) (Or.inl ⟨by kernel_rfl, by intro w; go_simp; try with_reducible rfl⟩) ?_
                refine wpAny_take (i := 17) (v := .bool false) rfl (by kernel_rfl) (by kernel_rfl) (by kernel_rfl) (fun _ _ _ h => h) (Or.inl ⟨by kernel_rfl, by intro w; go_simp; try with_reducible rfl⟩) ?_
                refine wpAny_done (by kernel_rfl) ?_ _
                go_wp2
                go_roundw
                case rel => exact ⟨k + 1, false, rfl, by simp, by omega, hA4, RT6, HB6⟩
                case measure => exact measK hgo
            · go_simp
              try (refine hK _ _ ?_; clear hK K)
              refine wpAny_ready (rs := [11]) (by kernel_rfl) (by simp) ?_
              refine AllReady.cons rfl (fun K hK => ?_) AllReady.nil
              go_simp
              try (refine hK _ _ ?_; clear hK K)
              refine wpAny_ready (rs := [12]) (by kernel_rfl) (by simp) ?_
              refine AllReady.cons rfl (fun K hK => ?_) AllReady.nil
              go_simp
              go_wp2_with (go_at_call 23; refine cV1.mono ?_; rintro e w6 ⟨rfl, hB6⟩; have BX6 := hid (boxc_below BXa.out hB6); have db1 : w6.cell? ⟨B, 1, none⟩ = some (.int .i64 y) := BX6.out.cell 1; have RT6 := hid (ib RTa.out hB6); have HB6 := hid (below_trans HBa.out hB6))
              try (refine hK _ _ ?_; clear hK K)
              refine wpAny_take (i := 15) (v := .bool false) rfl (by kernel_rfl) (by kernel_rfl) (by kernel_rfl) (fun _ _ _ h => h) (Or.inl ⟨by kernel_rfl, by intro w; go_simp; try with_reducible rfl⟩) ?_
              refine wpAny_take (i := 16) (v := .bool false) rfl (by kernel_rfl) (by kernel_rfl) (by kernel_rfl) (fun _ _ _ h => h) (Or.inl ⟨by kernel_rfl, by intro w; go_simp; try with_reducible rfl⟩) ?_
              refine wpAny_take (i := 17) (v := .bool false) rfl (by kernel_rfl) (by kernel_rfl) (by kernel_rfl) (fun _ _ _ h => h) (Or.inl ⟨by kernel_rfl, by intro w; go_simp; try with_reducible rfl⟩) ?_
              refine wpAny_done (by kernel_rfl) ?_ _
              go_wp2
              go_roundw
              case rel => exact ⟨k + 1, false, rfl, by simp, by omega, hA4, RT6, HB6⟩
              case measure => exact measK hgo
        · have cS1 := sound1 (P : Int) bo cb a (by rw [← HNA.out]; exact ma) c HPC.out false (by simp [h0]) w4.drew RAd.out
          rw [← HNA.out] at cS1
          have hA4 : Hid (false = true ↔ AllG P l a c (k + 1)) := ⟨fun h => (by cases h), fun h => absurd (hA3.out h).2.1 h0⟩
          refine wp_region_any (by kernel_rfl) ?_
          change wpAny _ _ _ _ _ _ _ (World.drew _)
          refine wpAny_take (i := 0) (v := .bool true) rfl (by kernel_rfl) (by kernel_rfl) (by kernel_rfl) (fun _ _ _ h => h) (Or.inl ⟨by kernel_rfl, by intro w; go_simp; try with_reducible rfl⟩) ?_
          refine wpAny_take (i := 1) (v := .bool true) rfl (by kernel_rfl) (by kernel_rfl) (by kernel_rfl) (fun _ _ _ h => h) (Or.inl ⟨by kernel_rfl, by intro w; go_simp; try with_reducible rfl⟩) ?_
          refine wpAny_take (i := 2) (v := .int .i64 (P : Int)) rfl (by kernel_rfl) (by kernel_rfl) (by kernel_rfl) (fun _ _ _ h => h) (Or.inl ⟨by kernel_rfl, by intro w; go_simp; try with_reducible rfl⟩) ?_
          refine wpAny_take (i := 3) (v := .slice bo na cb) rfl (by kernel_rfl) (by kernel_rfl) (by kernel_rfl) (fun _ _ _ h => h) (Or.inl ⟨by kernel_rfl, by intro w; go_simp; try with_reducible rfl⟩) ?_
          refine wpAny_ready (rs := [4]) (by kernel_rfl) (by simp) ?_
          refine AllReady.cons rfl (fun K hK => ?_) AllReady.nil
          go_simp
          try (refine hK _ _ ?_; clear hK K)
          refine wpAny_ready (rs := [5]) (by kernel_rfl) (by simp) ?_
          refine AllReady.cons rfl (fun K hK => ?_) AllReady.nil
          go_simp
          go_wp2_with (go_at_call 14; refine cS1.mono ?_; rintro e ws ⟨rfl, hw⟩; subst ws)
          try (refine hK _ _ ?_; clear hK K)
          refine wpAny_take (i := 6) (v := .bool false) rfl (by kernel_rfl) (by kernel_rfl) (by kernel_rfl) (fun _ _ _ h => h) (Or.inl ⟨by kernel_rfl, by intro w; go_simp; try with_reducible rfl⟩) ?_
          refine wpAny_take (i := 7) (v := .bool false) rfl (by kernel_rfl) (by kernel_rfl) (by kernel_rfl) (fun _ _ _ h => h) (Or.inl ⟨by kernel_rfl, by intro w; go_simp; try with_reducible rfl⟩) ?_
          refine wpAny_take (i := 8) (v := undef) rfl (by kernel_rfl) (by kernel_rfl) (by kernel_rfl) (fun _ _ _ h => h) (Or.inr ⟨by kernel_rfl, rfl⟩) ?_
          refine wpAny_take (i := 9) (v := undef) rfl (by kernel_rfl) (by kernel_rfl) (by kernel_rfl) (fun _ _ _ h => h) (Or.inr ⟨by kernel_rfl, rfl⟩) ?_
          refine wpAny_take (i := 10) (v := undef) rfl (by kernel_rfl) (by kernel_rfl) (by kernel_rfl) (fun _ _ _ h => h) (Or.inr ⟨by kernel_rfl, rfl⟩) ?_
          refine wpAny_take (i := 11) (v := undef) rfl (by kernel_rfl) (by kernel_rfl) (by kernel_rfl) (fun _ _ _ h => h) (Or.inr ⟨by kernel_rfl, rfl⟩) ?_
          refine wpAny_take (i := 12) (v := undef) rfl (by kernel_rfl) (by kernel_rfl) (by kernel_rfl) (fun _ _ _ h => h) (Or.inr ⟨by kernel_rfl, rfl⟩) ?_
          refine wpAny_take (i := 13) (v := undef) rfl (by kernel_rfl) (by kernel_rfl) (by kernel_rfl) (fun _ _ _ h => h) (Or.inr ⟨by kernel_rfl, rfl⟩) ?_
          refine wpAny_take (i := 14) (v := undef) rfl (by kernel_rfl) (by kernel_rfl) (by kernel_rfl) (fun _ _ _ h => h) (Or.inr ⟨by kernel_rfl, rfl⟩) ?_
          refine wpAny_take (i := 15) (v := undef) rfl (by kernel_rfl) (by kernel_rfl) (by kernel_rfl) (fun _ _ _ h => h) (Or.inr ⟨by kernel_rfl, rfl⟩) ?_
          refine wpAny_take (i := 16) (v := .bool false) rfl (by kernel_rfl) (by kernel_rfl) (by kernel_rfl) (fun _ _ _ h => h) (Or.inl ⟨by kernel_rfl, by intro w; go_simp; try with_reducible rfl⟩) ?_
          refine wpAny_take (i := 17) (v := .bool false) rfl (by kernel_rfl) (by kernel_rfl) (by kernel_rfl) (fun _ _ _ h => h) (Or.inl ⟨by kernel_rfl, by intro w; go_simp; try with_reducible rfl⟩) ?_
          refine wpAny_done (by kernel_rfl) ?_ _
          go_wp2
          go_roundw
          case rel => exact ⟨k + 1, false, rfl, by simp, by omega, hA4, RTa, HBa⟩
          case measure => exact measK hgo
    · have hgo' : ¬ (k : Int) < (N : Int) := by omega
      obtain rfl : k = N := by omega
      cases b with
      | false =>
        go_wp2
        go_ret
        exact ⟨rfl, HB.out⟩
      | true =>
        have hAk := hid (hA.out.1 rfl)
        have RA2 := hid (irow_below RA.out HB.out (Nat.le_refl _))
        have HBa := hid (al HB.out (.cells #[.slice bo na cb] 23))
        by_cases h0 : c = 0
        · have cS1 := sound1 (P : Int) bo cb a (by rw [← HNA.out]; exact ma) c HPC.out true (by simp [h0]) wr RA2.out
          rw [← HNA.out] at cS1
          by_cases hna2 : k < na
          · have z1 : (k : Int) < (na : Int) := by omega
            go_wp2_with (go_at_call 14; refine cS1.mono ?_; rintro e ws ⟨rfl, hw⟩; subst ws)
            go_ret
            exact ⟨rfl, HBa.out⟩
          · have z1 : decide ((k : Int) < (na : Int)) = false := by simp; omega
            have z2 : decide (k < na) = false := by simp; omega
            have hat := HU.out h0 (by rw [← HN.out]; exact hAk.out) (by rw [← HN.out, ← HNA.out]; omega) t HT.out
            have hnn : na = nt := by have h1 := HNA.out; have h2 := HNT.out; rw [hat] at h1; omega
            have RAa := hid (ir RA2.out (.cells #[.slice bo na cb] 23))
            have RTa := hid (ir RT.out (.cells #[.slice bo na cb] 23))
            have cL := Longs_same bo ot cb ct a (by rw [← HNA.out]; exact ma) _ RAa.out (by rw [hat]; exact RTa.out)
            rw [← HNA.out] at cL
            subst hnn
            clear hat
            go_wp2_with (first
              | (go_at_call 14; refine cS1.mono ?_; rintro e ws ⟨rfl, hw⟩; subst ws)
              | (go_at_call 11; refine cL.mono ?_; rintro e w5 ⟨rfl, hB5⟩))
            go_ret
            exact ⟨rfl, below_trans HBa.out hB5⟩
        · have cS1 := sound1 (P : Int) bo cb a (by rw [← HNA.out]; exact ma) c HPC.out false (by simp [h0]) wr RA2.out
          rw [← HNA.out] at cS1
          go_wp2_with (go_at_call 14; refine cS1.mono ?_; rintro e ws ⟨rfl, hw⟩; subst ws)
          go_ret
          exact ⟨rfl, HBa.out⟩

theorem walk (p : Int) (ao : Option Addr) (cap : Nat) (l : List (Int × Int)) (kl : l.length ≤ cap) (ml : l.length ≤ 9223372036854775807) (bo : Option Addr) (cb : Nat) (a : List Int) (ka : a.length ≤ cb) (ma : a.length ≤ 9223372036854775807) (w : World) (hrow : PRow w ao l) (hli : Lies w ao l) (rb : IRow w bo a) :
    Calls Try.prog 8 #[.int .i64 p, .slice ao l.length cap, .slice bo a.length cb] w fun e w' => e = .returned (.bool true) ∧ Below w.heap.size w w' := by
  obtain ⟨c, hc⟩ := ptc_ex p l
  by_cases h0 : c = 0
  · subst h0
    obtain ⟨P, rfl, hP, hP2, hl, hI, hD⟩ := hc.ok
    exact walk_yes P hP hP2 ao cap l hl hI hD hc bo cb a ma w hrow hli rb
  · have cC := fun w' (hB : Below w.heap.size w w') => refPointsCheck_any p ao cap l c hc w' (prow_below hrow hB hli) (hli.below hB)
    have cT := Through_bad p ao cap l ml c hc h0 w hrow hli
    generalize l.length = n at *
    generalize a.length = na at *
    have h1 : (c != 0) = true := by simpa using h0
    have h2 : (c == 0) = false := by simpa using h0
    clear hc hrow rb
    go_enter Try.func8, Try.ntmps8
    go_wp2_with (first
      | (go_at_call 9; refine cT.mono ?_; rintro e w1 ⟨rfl, hB⟩)
      | (go_at_call 10; refine (cC _ hB).mono ?_; rintro e w2 ⟨rfl, hB2⟩))
    go_ret
    exact ⟨rfl, below_trans hB hB2⟩

set_option maxRecDepth 100000 in
theorem lifted (os : Os) (started : os.Started) (H : Type) (enc : TypeId × Value → H) :
    ReturnsInHanded {} Try.checked os 8 .any (Rows.polyOneSpec.pre6 enc Try.prog Try.f8 Rows.polyOneRow.domain false) (Rows.polyOneSpec.post enc Try.prog Try.f8 false true false false) := by
  refine returnsInHanded_of_change (C := Try.checked) own started (by kernel_rfl) Try.func8
    (ChangeSpec.witness6 (enc := enc) (C := Try.checked) false ⟨#[], #[.int .i64 0, .slice none 0 0, .slice none 0 0], []⟩ 8 (by kernel_rfl) (by kernel_rfl) (by kernel_rfl) (by kernel_rfl)) ?_
  intro W base args ds gs before hval0 hW hcnd _
  have hval : ∀ (j : Nat) t v, Try.f8.params[j]? = some t → args[j]? = some v → Value.okWide Try.prog W .any base t v := hval0
  have hW' := hW
  obtain ⟨p, q, hA0, hV, rfl, _, _⟩ := hW
  have hA : DataW.TrodAll enc Try.prog W 0 (fun _ => true) true Try.f8.params.toList args.toList ds p := hA0
  rw [Try.params8] at hA hval
  obtain ⟨v0, v1, v2, d0, d1, d2, p0, p1, p2, rfl, rfl, rfl, h0, h1, h2⟩ := trodAll_three hA
  obtain ⟨rfl, rfl⟩ := trodVars_none hV
  obtain ⟨a0, rfl, rfl, rfl, w0⟩ := open_int Try.underlying2 (hval 0 2 v0 rfl rfl) h0
  have hsl1 := okWide_slice Try.underlying22 (hval 1 22 v1 rfl rfl)
  have hsl2 := okWide_slice Try.underlying23 (hval 2 23 v2 rfl rfl)
  clear hA0 hval0
  simp only [List.append_nil, List.nil_append] at hW'
  have hlt1 : ∀ x ∈ p1, x.block < W.heap.size := fun x hx => by simpa using hW'.lt x (by simp [hx])
  have harg1 : ∀ (W' : World), Below W.heap.size W W' → DataW.Trod enc Try.prog W' 0 (fun b => decide (b < W.heap.size)) true 22 v1 d1 p1 :=
    fun W' hn => Below.trod laidOut (by kernel_rfl) (of_decide_eq_true (by kernel_rfl)) h1 hn hlt1
  obtain ⟨o1, c1, l1, rfl, m1, r1, b1, z1, k1, _⟩ := pairs_view (fun _ => rfl) Try.underlying22 Try.underlying45 cellsP rfl rfl cells2 cells2 Try.underlying2 Try.underlying2 h1 hsl1
  have hlt2 : ∀ x ∈ p2, x.block < W.heap.size := fun x hx => by simpa using hW'.lt x (by simp [hx])
  have harg2 : ∀ (W' : World), Below W.heap.size W W' → DataW.Trod enc Try.prog W' 0 (fun b => decide (b < W.heap.size)) true 23 v2 d2 p2 :=
    fun W' hn => Below.trod laidOut (by kernel_rfl) (of_decide_eq_true (by kernel_rfl)) h2 hn hlt2
  obtain ⟨o2, c2, l2, rfl, r2, k2, m2⟩ := longs_view Try.underlying23 cells2 Try.underlying2 h2 hsl2
  refine (walk a0 o1 c1 l1 k1 m1 o2 c2 l2 k2 m2 W r1 b1 r2).mono fun e W' ⟨he, hg⟩ => ?_
  subst he
  refine ⟨_, rfl, _, _, _, [], ([] : List MemPlace) ++ (p1 ++ (p2)), [], hW', ?_, ?_, rfl, hg.frame _, fun h => by cases h⟩
  · exact trodAll_mk1 (shut_bool Try.underlying4 true)
  · exact trodAll_mk3 (shut_int Try.underlying2 w0) (harg1 _ hg) (harg2 _ hg)

theorem over : Rows.polyOneRow.holds Try.pinned (OpenSpec.ofChange Rows.polyOneSpec) :=
  OpenClaim.holds_of_wide 8 Try.f8 rfl rfl rfl rfl rfl rfl rfl ⟨rfl, rfl, rfl, rfl, rfl⟩ rfl rfl rfl rfl rfl (by kernel_rfl) Try.func8 (by kernel_rfl)
    (of_decide_eq_true (by kernel_rfl)) (by unfold Func.isWrapper; first | (rw [if_pos (by decide +kernel)]; kernel_rfl) | (rw [if_neg (by decide +kernel)]; exact ⟨rfl, rfl⟩))
    (fun os started H enc _ => lifted os started H enc)

/-- ████ THE STATEMENT ████ -/
theorem proved : Rows.PolyOneSaid :=
  over

end Go.Proofs.Ytiaabkadonimjab.polyOne
