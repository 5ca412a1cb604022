/-
  For any two secrets, each with as many numbers: shares of both together are shares of the sum: with no condition.
-/
import Derived.Test.YtokbdgikdlfneaaRows
import Derived.Test.YtokbdgikdlfneaaCalls95
import Derived.WalkKit
import Derived.ProofKit
import Derived.OpenShut
import Derived.Carry
namespace Go.Proofs.Ytokbdgikdlfneaa.shareAdds
open Go.ChangeShapes Go.WideShapes Go.ChangeAt Go.RowKit Go.Deep Go.Proofs.Ytokbdgikdlfneaa.Base Go.Proofs.Ytokbdgikdlfneaa.Base2 Go.Proofs.Ytokbdgikdlfneaa.Num Go.Proofs.Ytokbdgikdlfneaa.Num7 Go.Proofs.Ytokbdgikdlfneaa.Num13 Go.Proofs.Ytokbdgikdlfneaa.Num16 Go.Proofs.Ytokbdgikdlfneaa.Num17 Go.Proofs.Ytokbdgikdlfneaa.Num34 Go.Proofs.Ytokbdgikdlfneaa.Num35 Go.Proofs.Ytokbdgikdlfneaa.Num39 Go.Proofs.Ytokbdgikdlfneaa.Base4 Go.Proofs.Ytokbdgikdlfneaa.Calls56 Go.Proofs.Ytokbdgikdlfneaa.Calls57 Go.Proofs.Ytokbdgikdlfneaa.Calls69 Go.Proofs.Ytokbdgikdlfneaa.Calls87 Go.Proofs.Ytokbdgikdlfneaa.Calls88 Go.Proofs.Ytokbdgikdlfneaa.Calls90 Go.Proofs.Ytokbdgikdlfneaa.Calls91 Go.Proofs.Ytokbdgikdlfneaa.Calls94 Go.Proofs.Ytokbdgikdlfneaa.Calls95
set_option linter.unusedVariables false

theorem own : ownKnob Try.prog.godebug = none := by kernel_rfl

theorem laidOut : laidOutB Try.prog = true := by kernel_rfl

theorem cells2 : Try.prog.cellsOf 2 = 1 := by kernel_rfl

theorem below_snocd {W w1 : World} {e : TypeId} {size : Nat} {v : Value} {k : Nat} {xs : List Value} {tmp : Obj} {w : World} (hB : Below w.heap.size w W)
    (hown : W.ownsRow w.heap.size e size v k xs) (hgrow : ((W.alloc tmp).drew).grownBy w1 v.ownBlock) : Below w.heap.size w w1 :=
  ((hB.alloc hB.size tmp).drew).grown hgrow (by have := hB.size; simp; omega) fun j ej => (hown.lt j ej).1

theorem wrap_small {x y : Int} (hx : 0 ≤ x) (hx2 : x < 1048576) (hy : 0 ≤ y) (hy2 : y < 1048576) : IntKind.i64.wrap (x + y) = x + y := by
  rw [IntKind.wrap_i64]; omega

theorem gd_sum {P : Nat} (hp : 1 ≤ P) {a b n : Int} {m k : List Int} (h : Gd P a n m) (h2 : Gd P b n k) : Gd P ((a + b) % (P : Int)) n (mk m.length (fun i => (co m i + co k i) % (P : Int))) :=
  ⟨mod_bd hp _, Bd.mk fun i _ => mod_bd hp _, h.2.2⟩

set_option maxRecDepth 100000 in
set_option maxHeartbeats 1000000 in
theorem walk (p a b : Int) (mo : Option Addr) (cm : Nat) (m : List Int) (km : m.length ≤ cm) (mm : m.length ≤ 9223372036854775807) (ko : Option Addr) (ck : Nat) (k : List Int) (kk : k.length ≤ ck) (mk_ : k.length ≤ 9223372036854775807) (n : Int) (wn : (Lit.int .i64 n).wf = true) (w : World) (hm : IRow w mo m) (hk : IRow w ko k) :
    Calls Try.prog 8 #[.int .i64 p, .int .i64 a, .int .i64 b, .slice mo m.length cm, .slice ko k.length ck, .int .i64 n] w fun e w' => e = .returned (.bool true) ∧ Below w.heap.size w w' := by
  obtain ⟨c1, hc1⟩ := spc_ex p a n m
  obtain ⟨c2, hc2⟩ := spc_ex p b n k
  by_cases h1 : c1 = 0
  · by_cases h2 : c2 = 0
    · subst h1 h2
      obtain ⟨P, rfl, hP, hP2, hl, hg⟩ := hc1.ok
      obtain ⟨P', e', _, _, hl2, hg2⟩ := hc2.ok
      obtain rfl : P = P' := by omega
      obtain ⟨N, rfl⟩ : ∃ N : Nat, n = (N : Int) := ⟨n.toNat, by have := hg.2.2.1; omega⟩
      have hp2 := hP.1
      have hp1 : 1 ≤ P := by omega
      have hp0 : ¬ (P : Int) = 0 := by omega
      have hNP : N < P := by have := hg.2.2.2; omega
      have cS1 := Split_yes P hP hP2 a N mo cm m hl hg w hm
      have cS2 := fun w' (hB : Below w.heap.size w w') => Split_yes P hP hP2 b N ko ck k hl2 hg2 w' (ib hk hB)
      unfold RetPE at cS1 cS2
      by_cases he : m.length = k.length
      · have gs := gd_sum hp1 hg hg2
        obtain ⟨S, hS⟩ : ∃ S, S = mk m.length (fun i => (co m i + co k i) % (P : Int)) := ⟨_, rfl⟩
        have cS3 := fun o c w' (r : IRow w' o S) => Split_yes P hP hP2 ((a + b) % (P : Int)) N o c S (by rw [hS, mk_length]; omega) (by rw [hS]; exact gs) w' r
        unfold RetPE at cS3
        have hSl : S.length = m.length := by rw [hS, mk_length]
        have hval : Hid (∀ i, i < N → px (shl P ((a + b) % (P : Int)) S N) i = px (shl P a m N) i ∧ py (shl P ((a + b) % (P : Int)) S N) i = (py (shl P a m N) i + py (shl P b k N) i) % (P : Int)) := fun i hi => by
          rw [shl_px hi, shl_px hi, shl_py hi, shl_py hi, shl_py hi, hS]
          exact ⟨rfl, ev_sum hp1 a b m k he _⟩
        have HA := hid hg.2.1
        have HB := hid hg2.2.1
        have hab : 0 ≤ a ∧ a < (P : Int) := hg.1
        have hbb : 0 ≤ b ∧ b < (P : Int) := hg2.1
        obtain ⟨F, hF⟩ : ∃ F : Nat → Int, F = fun i => (co m i + co k i) % (P : Int) := ⟨_, rfl⟩
        have hsn : Hid (∀ j, ivals (mk (j + 1) F) = ivals (mk j F) ++ [.int .i64 ((co m j + co k j) % (P : Int))]) := fun j => by rw [mk_succ, ivals_snoc, hF]
        obtain ⟨i0, hi, hz0, hz1, hz2⟩ := info_ex
        have HM := hid hm
        have HK := hid hk
        simp only [shl_length] at cS1 cS2 cS3
        have hn1 := hid (shl_length P a m N)
        have hn2 := hid (shl_length P b k N)
        have hn3 := hid (shl_length P ((a + b) % (P : Int)) S N)
        have hy : Hid (∀ i, i < N → (0 ≤ py (shl P a m N) i ∧ py (shl P a m N) i < (P : Int)) ∧ (0 ≤ py (shl P b k N) i ∧ py (shl P b k N) i < (P : Int))) := fun i hi => by
          rw [shl_py hi, shl_py hi]; exact ⟨mod_bd hp1 _, mod_bd hp1 _⟩
        obtain ⟨nm, hnm⟩ : ∃ nm, nm = m.length := ⟨_, rfl⟩
        have HNM := hid hnm
        have HNK : Hid (nm = k.length) := hnm.trans he
        have HS : Hid (mk nm F = S) := by show mk nm F = S; rw [hS, hF, hnm]
        have hnk : nm = k.length := hnm.trans he
        simp only [hSl, ← hnm, ← hnk] at cS1 cS2 cS3 hl ⊢
        generalize shl P a m N = L1 at *
        generalize shl P b k N = L2 at *
        generalize shl P ((a + b) % (P : Int)) S N = L3 at *
        clear hnm hnk hS hSl hF he hc1 hc2 hg hg2 gs hm hk mm mk_ km kk wn e' hl2
        go_enter Try.func8, Try.ntmps8
        go_wp2_with (first
          | (go_at_call 9; refine cS1.mono ?_; rintro e w1 ⟨⟨o1, cc1, rfl, g1, g2⟩, hB⟩; have R1 := hid g2; clear cS1 g1 g2)
          | (go_at_call 9; refine (cS2 _ hB).mono ?_; rintro e w2 ⟨⟨o2, cc2, rfl, g1, g2⟩, hB2⟩; have R2 := hid g2; have HB2 := hid (below_trans hB hB2); have R1' := hid (pb R1.out hB2); clear cS2 g1 g2))
        clear R1 hB hB2
        go_loopw [17, 18] (fun v vi wr => ∃ j : Nat, vi = .int .i64 (j : Int) ∧ j ≤ nm ∧ Hid (wr.ownsRow w2.heap.size 2 1 v j (ivals (mk j F))) ∧ Hid (Below w2.heap.size w2 wr)) (fun v vi wr => ((nm : Int) - intOf vi).toNat)
        case atStart => exact ⟨0, rfl, by omega, World.ownsRow_nil _ _ _ _, Below.refl _ _⟩
        case round =>
          obtain ⟨j, rfl, hj, HO, HBr⟩ := hrel
          by_cases hgo : j < nm
          · have hgo' : (j : Int) < (nm : Int) := by omega
            have hjm : Hid (j < m.length) := by have := HNM.out; show j < m.length; omega
            have hjk : Hid (j < k.length) := by have := HNK.out; show j < k.length; omega
            rcases mo with _ | ad
            · exact (irow_none HM.out hjm.out).elim
            · rcases ko with _ | bd
              · exact (irow_none HK.out hjk.out).elim
              · have d0 := (ib (ib HM.out HB2.out) HBr.out).2 ad rfl j hjm.out
                have d1 := (ib (ib HK.out HB2.out) HBr.out).2 bd rfl j hjk.out
                obtain ⟨x1, x2⟩ := HA.out.at hp1 j
                obtain ⟨y1, y2⟩ := HB.out.at hp1 j
                have hs1 := hsn.out j
                have HSN := hid hs1
                generalize co m j = x at *
                generalize co k j = y at *
                clear hs1
                have hsz := HBr.out.size
                have hpN : ¬ P = 0 := by omega
                have hxy : (0 : Int) ≤ x + y := by omega
                have htm : (x + y).tmod (P : Int) = (x + y) % (P : Int) := Int.tmod_eq_emod_of_nonneg hxy
                have hwr := wrap_small x1 (by omega : x < 1048576) y1 (by omega : y < 1048576)
                go_wp2
                go_region_law ((refine step_append_lies _ (by rfl) _ _ _ (by rfl) w2.heap.size 2 i0 (.int .i64 0) 1 8 Try.underlying22 hi hz0 hz1 hz2 rfl (by decide) _ j (ivals (mk j F)) (by rfl) ((HO.out.alloc _).drew) ⟨wr.heap.size, 0, none⟩ 1 1 [.int .i64 ((x + y) % (P : Int))] (by rfl) (by rfl) (fun j u hj => one_cell j u hj) (by simp [Value.oneCell']) (by omega) (by unfold maxLen; omega) (by omega) (by simp; omega) (wr.heap.size + 1) (by simp) ?_; intro g5 c5 w5 hown5 hgrow5 hat5 hlt5))
                all_goals go_wp2
                all_goals (rw [← HSN.out] at hown5)
                all_goals (have HB5 := hid (below_snocd HBr.out HO.out hgrow5))
                all_goals (clear hgrow5 hat5 hlt5)
                all_goals go_roundw
                case rel => exact ⟨j + 1, by simp, by omega, hown5, HB5⟩
                case measure => exact measK hgo
                case rel => exact ⟨j + 1, by simp, by omega, hown5, HB5⟩
                case measure => exact measK hgo
          · have hgo' : ¬ (j : Int) < (nm : Int) := by omega
            obtain rfl : j = nm := by omega
            obtain ⟨vo, vc, rfl, hcap, hr⟩ := irow_owns HO.out
            rw [HS.out] at hr
            have cS3' := cS3 vo vc wr hr
            rw [mk_length] at hcap ⊢
            clear cS3 hr
            go_wp2_with (go_at_call 9; refine cS3'.mono ?_; rintro e w3 ⟨⟨o3, cc3, rfl, g1, g2⟩, hB3⟩; have R3 := hid g2; have R1'' := hid (pb (pb R1'.out HBr.out) hB3); have R2'' := hid (pb (pb R2.out HBr.out) hB3); have HB3 := hid (below_trans (below_trans HB2.out HBr.out) hB3); clear g1 g2 hB3)
            go_loopw [21] (fun vi wr => ∃ i : Nat, vi = .int .i64 (i : Int) ∧ i ≤ N ∧ ∃ d, wr = w3.drewN d) (fun vi wr => ((N : Int) - intOf vi).toNat)
            case atStart => exact ⟨0, rfl, by omega, 0, rfl⟩
            case round =>
              obtain ⟨i, rfl, hi', d, rfl⟩ := hrel
              by_cases hgi : i < N
              · have hgi' : (i : Int) < (N : Int) := by omega
                have hi1 : Hid (i < L1.length) := by have := hn1.out; show i < L1.length; omega
                have hi2 : Hid (i < L2.length) := by have := hn2.out; show i < L2.length; omega
                have hi3 : Hid (i < L3.length) := by have := hn3.out; show i < L3.length; omega
                rcases o1 with _ | a1
                · exact (prow_none R1''.out hi1.out).elim
                · rcases o2 with _ | a2
                  · exact (prow_none R2''.out hi2.out).elim
                  · rcases o3 with _ | a3
                    · exact (prow_none R3.out hi3.out).elim
                    · obtain ⟨q1, q2⟩ := pcell R1''.out hi1.out
                      obtain ⟨q3, q4⟩ := pcell R2''.out hi2.out
                      obtain ⟨q5, q6⟩ := pcell R3.out hi3.out
                      obtain ⟨v1, v2⟩ := hval.out i hgi
                      obtain ⟨⟨y11, y12⟩, ⟨y21, y22⟩⟩ := hy.out i hgi
                      rw [v1] at q5
                      rw [v2] at q6
                      clear v1 v2
                      generalize px L1 i = x1 at *
                      generalize py L1 i = y1 at *
                      generalize px L2 i = x2 at *
                      generalize py L2 i = y2 at *
                      go_wp2
                      go_quiet (fail)
                      go_wp2
                      go_roundw
                      case rel => exact ⟨i + 1, by simp, by omega, _, rfl⟩
                      case measure => exact measK hgi
              · have hgi' : ¬ (i : Int) < (N : Int) := by omega
                go_wp2
                go_ret
                exact ⟨rfl, below_drewN HB3.out _⟩
      · obtain ⟨nm, hnm⟩ : ∃ nm, nm = m.length := ⟨_, rfl⟩
        obtain ⟨nk, hnk⟩ : ∃ nk, nk = k.length := ⟨_, rfl⟩
        have hs1 : (shl P a m N).length = N := shl_length P a m N
        have hs2 : (shl P b k N).length = N := shl_length P b k N
        simp only [← hnm, ← hnk, hs1, hs2] at cS1 cS2 he ⊢
        have he' : ((nm : Int) != (nk : Int)) = true := by simp; omega
        have he2 : (nm != nk) = true := by simp; omega
        clear hs1 hs2 hnm hnk hc1 hc2 hg hg2 hm hk mm mk_ km kk wn hl hl2 e'
        go_enter Try.func8, Try.ntmps8
        go_wp2_with (first
          | (go_at_call 9; refine cS1.mono ?_; rintro e w1 ⟨⟨o1, cc1, rfl, g1, g2⟩, hB⟩; clear cS1 g1 g2)
          | (go_at_call 9; refine (cS2 _ hB).mono ?_; rintro e w2 ⟨⟨o2, cc2, rfl, g1, g2⟩, hB2⟩))
        go_ret
        exact ⟨rfl, below_trans hB hB2⟩
    · subst h1
      obtain ⟨P, rfl, hP, hP2, hl, hg⟩ := hc1.ok
      obtain ⟨N, rfl⟩ : ∃ N : Nat, n = (N : Int) := ⟨n.toNat, by have := hg.2.2.1; omega⟩
      have cS1 := Split_yes P hP hP2 a N mo cm m hl hg w hm
      have cS2 := fun w' (hB : Below w.heap.size w w') => Split_bad (P : Int) b N ko ck k mk_ c2 hc2 h2 w' (ib hk hB)
      unfold RetPE at cS1
      have hs1 : (shl P a m N).length = N := shl_length P a m N
      simp only [hs1] at cS1
      have h3 : (c2 != 0) = true := by simpa using h2
      have h4 : (c2 == 0) = false := by simpa using h2
      generalize m.length = nm at *
      generalize k.length = nk at *
      clear hc1 hc2 hg hm hk wn hs1
      go_enter Try.func8, Try.ntmps8
      go_wp2_with (first
        | (go_at_call 9; refine cS1.mono ?_; rintro e w1 ⟨⟨o1, cc1, rfl, g1, g2⟩, hB⟩; clear cS1 g1 g2)
        | (go_at_call 9; refine (cS2 _ hB).mono ?_; rintro e w2 ⟨rfl, hB2⟩))
      go_ret
      exact ⟨rfl, below_trans hB hB2⟩
  · have cS1 := Split_bad p a n mo cm m mm c1 hc1 h1 w hm
    have cS2 := fun w' (hB : Below w.heap.size w w') => (Split_any p b n ko ck k mk_ c2 hc2 w' (ib hk hB)).mono (R' := fun e w'' => (∃ bo k' cb, e = .returned (.tuple #[.slice bo k' cb, .int .i64 c2])) ∧ Below w'.heap.size w' w'') (fun e w'' h => ⟨by
      obtain ⟨bo, k', cb, h1, _⟩ := h.1
      exact ⟨bo, k', cb, h1⟩, h.2⟩)
    have h3 : (c1 != 0) = true := by simpa using h1
    have h4 : (c1 == 0) = false := by simpa using h1
    generalize m.length = nm at *
    generalize k.length = nk at *
    clear hc1 hc2 hm hk wn
    go_enter Try.func8, Try.ntmps8
    go_wp2_with (first
      | (go_at_call 9; refine cS1.mono ?_; rintro e w1 ⟨rfl, hB⟩; clear cS1)
      | (go_at_call 9; refine (cS2 _ hB).mono ?_; rintro e w2 ⟨⟨bo, k', cb, rfl⟩, hB2⟩))
    go_ret
    exact ⟨rfl, below_trans hB hB2⟩

theorem trodAll_six {H : Type} {enc : TypeId × Value → H} {P : Program} {w : World} {base : Nat} {spare : Nat → Bool} {held : Bool} {t0 t1 t2 t3 t4 t5 : TypeId} {args : Array Value} {ds : List (DataW H)} {ps : List MemPlace} (h : DataW.TrodAll enc P w base spare held [t0, t1, t2, t3, t4, t5] args.toList ds ps) :
    ∃ v0 v1 v2 v3 v4 v5 d0 d1 d2 d3 d4 d5 p0 p1 p2 p3 p4 p5, args = #[v0, v1, v2, v3, v4, v5] ∧ ds = [d0, d1, d2, d3, d4, d5] ∧ ps = p0 ++ p1 ++ p2 ++ p3 ++ p4 ++ p5 ∧ DataW.Trod enc P w base spare held t0 v0 d0 p0 ∧ DataW.Trod enc P w base spare held t1 v1 d1 p1 ∧ DataW.Trod enc P w base spare held t2 v2 d2 p2 ∧ DataW.Trod enc P w base spare held t3 v3 d3 p3 ∧ DataW.Trod enc P w base spare held t4 v4 d4 p4 ∧ DataW.Trod enc P w base spare held t5 v5 d5 p5 := by
  obtain ⟨v0, vs0, d0, ds0, p0, q0, hargs, rfl, rfl, hd0, hrest0⟩ := trodAll_cons h
  obtain ⟨v1, vs1, d1, ds1, p1, q1, rfl, rfl, rfl, hd1, hrest1⟩ := trodAll_cons hrest0
  obtain ⟨v2, vs2, d2, ds2, p2, q2, rfl, rfl, rfl, hd2, hrest2⟩ := trodAll_cons hrest1
  obtain ⟨v3, vs3, d3, ds3, p3, q3, rfl, rfl, rfl, hd3, hrest3⟩ := trodAll_cons hrest2
  obtain ⟨v4, vs4, d4, ds4, p4, q4, rfl, rfl, rfl, hd4, hrest4⟩ := trodAll_cons hrest3
  obtain ⟨v5, vs5, d5, ds5, p5, q5, rfl, rfl, rfl, hd5, hrest5⟩ := trodAll_cons hrest4
  obtain ⟨rfl, rfl, rfl⟩ := trodAll_nil hrest5
  exact ⟨v0, v1, v2, v3, v4, v5, d0, d1, d2, d3, d4, d5, p0, p1, p2, p3, p4, p5, by cases args; simp_all, rfl, by simp, hd0, hd1, hd2, hd3, hd4, hd5⟩

theorem trodAll_mk5 {H : Type} {enc : TypeId × Value → H} {P : Program} {w : World} {base : Nat} {spare : Nat → Bool} {held : Bool} {t0 t1 t2 t3 t4 : TypeId} {v0 v1 v2 v3 v4 : Value} {d0 d1 d2 d3 d4 : DataW H} {p0 p1 p2 p3 p4 : List MemPlace} (h0 : DataW.Trod enc P w base spare held t0 v0 d0 p0) (h1 : DataW.Trod enc P w base spare held t1 v1 d1 p1) (h2 : DataW.Trod enc P w base spare held t2 v2 d2 p2) (h3 : DataW.Trod enc P w base spare held t3 v3 d3 p3) (h4 : DataW.Trod enc P w base spare held t4 v4 d4 p4) : DataW.TrodAll enc P w base spare held [t0, t1, t2, t3, t4] [v0, v1, v2, v3, v4] [d0, d1, d2, d3, d4] (p0 ++ (p1 ++ (p2 ++ (p3 ++ (p4))))) := ⟨p0, p1 ++ (p2 ++ (p3 ++ (p4))), h0, trodAll_mk4 h1 h2 h3 h4, rfl⟩

theorem trodAll_mk6 {H : Type} {enc : TypeId × Value → H} {P : Program} {w : World} {base : Nat} {spare : Nat → Bool} {held : Bool} {t0 t1 t2 t3 t4 t5 : TypeId} {v0 v1 v2 v3 v4 v5 : Value} {d0 d1 d2 d3 d4 d5 : DataW H} {p0 p1 p2 p3 p4 p5 : List MemPlace} (h0 : DataW.Trod enc P w base spare held t0 v0 d0 p0) (h1 : DataW.Trod enc P w base spare held t1 v1 d1 p1) (h2 : DataW.Trod enc P w base spare held t2 v2 d2 p2) (h3 : DataW.Trod enc P w base spare held t3 v3 d3 p3) (h4 : DataW.Trod enc P w base spare held t4 v4 d4 p4) (h5 : DataW.Trod enc P w base spare held t5 v5 d5 p5) : DataW.TrodAll enc P w base spare held [t0, t1, t2, t3, t4, t5] [v0, v1, v2, v3, v4, v5] [d0, d1, d2, d3, d4, d5] (p0 ++ (p1 ++ (p2 ++ (p3 ++ (p4 ++ (p5)))))) := ⟨p0, p1 ++ (p2 ++ (p3 ++ (p4 ++ (p5)))), h0, trodAll_mk5 h1 h2 h3 h4 h5, rfl⟩

set_option maxRecDepth 100000 in
theorem lifted (os : Os) (started : os.Started) (H : Type) (enc : TypeId × Value → H) :
    ReturnsInHanded {} Try.checked os 8 .any (Rows.shareAddsSpec.pre6 enc Try.prog Try.f8 Rows.shareAddsRow.domain false) (Rows.shareAddsSpec.post enc Try.prog Try.f8 false true false false) := by
  refine returnsInHanded_of_change (C := Try.checked) own started (by kernel_rfl) Try.func8
    (ChangeSpec.witness6 (enc := enc) (C := Try.checked) false ⟨#[], #[.int .i64 0, .int .i64 0, .int .i64 0, .slice none 0 0, .slice none 0 0, .int .i64 0], []⟩ 8 (by kernel_rfl) (by kernel_rfl) (by kernel_rfl) (by kernel_rfl)) ?_
  intro W base args ds gs before hval0 hW hcnd _
  have hval : ∀ (j : Nat) t v, Try.f8.params[j]? = some t → args[j]? = some v → Value.okWide Try.prog W .any base t v := hval0
  have hW' := hW
  obtain ⟨p, q, hA0, hV, rfl, _, _⟩ := hW
  have hA : DataW.TrodAll enc Try.prog W 0 (fun _ => true) true Try.f8.params.toList args.toList ds p := hA0
  rw [Try.params8] at hA hval
  obtain ⟨v0, v1, v2, v3, v4, v5, d0, d1, d2, d3, d4, d5, p0, p1, p2, p3, p4, p5, rfl, rfl, rfl, h0, h1, h2, h3, h4, h5⟩ := trodAll_six hA
  obtain ⟨rfl, rfl⟩ := trodVars_none hV
  obtain ⟨a0, rfl, rfl, rfl, w0⟩ := open_int Try.underlying2 (hval 0 2 v0 rfl rfl) h0
  obtain ⟨a1, rfl, rfl, rfl, w1⟩ := open_int Try.underlying2 (hval 1 2 v1 rfl rfl) h1
  obtain ⟨a2, rfl, rfl, rfl, w2⟩ := open_int Try.underlying2 (hval 2 2 v2 rfl rfl) h2
  have hsl3 := okWide_slice Try.underlying22 (hval 3 22 v3 rfl rfl)
  have hsl4 := okWide_slice Try.underlying22 (hval 4 22 v4 rfl rfl)
  obtain ⟨a5, rfl, rfl, rfl, w5⟩ := open_int Try.underlying3 (hval 5 3 v5 rfl rfl) h5
  clear hA0 hval0
  simp only [List.append_nil, List.nil_append] at hW'
  have hlt3 : ∀ x ∈ p3, x.block < W.heap.size := fun x hx => by simpa using hW'.lt x (by simp [hx])
  have harg3 : ∀ (W' : World), Below W.heap.size W W' → DataW.Trod enc Try.prog W' 0 (fun b => decide (b < W.heap.size)) true 22 v3 d3 p3 :=
    fun W' hn => Below.trod laidOut (by kernel_rfl) (of_decide_eq_true (by kernel_rfl)) h3 hn hlt3
  obtain ⟨o3, c3, l3, rfl, r3, k3, m3⟩ := longs_view Try.underlying22 cells2 Try.underlying2 h3 hsl3
  have hlt4 : ∀ x ∈ p4, x.block < W.heap.size := fun x hx => by simpa using hW'.lt x (by simp [hx])
  have harg4 : ∀ (W' : World), Below W.heap.size W W' → DataW.Trod enc Try.prog W' 0 (fun b => decide (b < W.heap.size)) true 22 v4 d4 p4 :=
    fun W' hn => Below.trod laidOut (by kernel_rfl) (of_decide_eq_true (by kernel_rfl)) h4 hn hlt4
  obtain ⟨o4, c4, l4, rfl, r4, k4, m4⟩ := longs_view Try.underlying22 cells2 Try.underlying2 h4 hsl4
  refine (walk a0 a1 a2 o3 c3 l3 k3 m3 o4 c4 l4 k4 m4 a5 w5 W r3 r4).mono fun e W' ⟨he, hg⟩ => ?_
  subst he
  refine ⟨_, rfl, _, _, _, [], ([] : List MemPlace) ++ (([] : List MemPlace) ++ (([] : List MemPlace) ++ (p3 ++ (p4 ++ (([] : List MemPlace)))))), [], hW', ?_, ?_, rfl, hg.frame _, fun h => by cases h⟩
  · exact trodAll_mk1 (shut_bool Try.underlying4 true)
  · exact trodAll_mk6 (shut_int Try.underlying2 w0) (shut_int Try.underlying2 w1) (shut_int Try.underlying2 w2) (harg3 _ hg) (harg4 _ hg) (shut_int Try.underlying3 w5)

theorem over : Rows.shareAddsRow.holds Try.pinned (OpenSpec.ofChange Rows.shareAddsSpec) :=
  OpenClaim.holds_of_wide 8 Try.f8 rfl rfl rfl rfl rfl rfl rfl ⟨rfl, rfl, rfl, rfl, rfl⟩ rfl rfl rfl rfl rfl (by kernel_rfl) Try.func8 (by kernel_rfl)
    (of_decide_eq_true (by kernel_rfl)) (by unfold Func.isWrapper; first | (rw [if_pos (by decide +kernel)]; kernel_rfl) | (rw [if_neg (by decide +kernel)]; exact ⟨rfl, rfl⟩))
    (fun os started H enc _ => lifted os started H enc)

/-- ████ THE STATEMENT ████ -/
theorem proved : Rows.ShareAddsSaid :=
  over

end Go.Proofs.Ytokbdgikdlfneaa.shareAdds
