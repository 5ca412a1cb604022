/-
  Tells it nothing? Package pad's answer, and the document's.
-/
import Derived.Test.YtcdlbdicfldlaaaCalls100
import Derived.Test.YtcdlbdicfldlaaaLay
namespace Go.Proofs.Ytcdlbdicfldlaaa.Calls101
set_option linter.unusedVariables false
open Go.ChangeShapes Go.WideShapes Go.ChangeAt Go.RowKit Go.Deep Go.Maps Go.Proofs.Ytcdlbdicfldlaaa.Base Go.Proofs.Ytcdlbdicfldlaaa.Base2 Go.Proofs.Ytcdlbdicfldlaaa.Num16 Go.Proofs.Ytcdlbdicfldlaaa.Num17 Go.Proofs.Ytcdlbdicfldlaaa.Num34 Go.Proofs.Ytcdlbdicfldlaaa.Num40 Go.Proofs.Ytcdlbdicfldlaaa.Base4 Go.Proofs.Ytcdlbdicfldlaaa.Base5 Go.Proofs.Ytcdlbdicfldlaaa.Calls96 Go.Proofs.Ytcdlbdicfldlaaa.Calls97 Go.Proofs.Ytcdlbdicfldlaaa.Calls98 Go.Proofs.Ytcdlbdicfldlaaa.Calls99 Go.Proofs.Ytcdlbdicfldlaaa.Calls100 Go.Proofs.Ytcdlbdicfldlaaa.Lay

/-- Two maps held against each other. -/
theorem equal_any (f g : Nat → Int) (k b1 b2 : Nat) (w : World) (h1 : MapC f k b1 w) (h2 : MapC g k b2 w) (r : Bool) (hr : r = true ↔ ∀ x, kc f x k = kc g x k) :
    Calls Try.prog 25 #[.map (some b1), .map (some b2)] w fun e w' => e = .returned (.bool r) ∧ Below w.heap.size w w' := by
  obtain ⟨D1, n1, c1, o1⟩ := h1
  obtain ⟨D2, n2, c2, o2⟩ := h2
  have e : Lib.equalFuncD eqI D1 D2 = r := by
    have := equal_iff c1 c2 (o1.canon (int_keyed Try.underlying3)) (o2.canon (int_keyed Try.underlying3))
    rw [← hr] at this
    exact Bool.eq_iff_iff.2 this
  have hcon : Calls Try.prog 25 #[.map (some b1), .map (some b2)] w (fun e w' => e = .returned (.bool (Lib.equalFuncD eqI D1 D2)) ∧ w.grownBy w' none) :=
    AnyEq.maps_Equal equalA (int_keyed Try.underlying3) (plainElem Try.prog 3) (plainElem Try.prog 3) eqI b1 b2 n1 n2 D1 D2 w o1 o2 (.int .i64 0) Try.zeroValue3 (.lit (.int .i64 0)) [] (plainElem_int Try.underlying3 (by decide)) neq_int
  rw [e] at hcon
  exact hcon.mono fun e w' h => ⟨h.1, (Below.refl _ w).grown h.2 (Nat.le_refl _) (fun k e => by cases e)⟩

/-- What the message m becomes by the key k. -/
def tb (L : List (List Int)) (k m : Nat) : Int := co (rw' L k) m

theorem kc_mk (f : Nat → Int) (x : Int) (K : Nat) : kc (co (mk K f)) x K = kc f x K :=
  kc_congr (fun k hk => by rw [co_mk, if_pos hk])

theorem tb_in {L : List (List Int)} (h : Ci L) {k m : Nat} (hk : k < L.length) (hm : m < (rw' L 0).length) : 0 ≤ tb L k m ∧ tb L k m < 4096 :=
  h.bd _ (rw_mem hk) _ (co_mem (by rw [h.even k hk]; exact hm))

/-- A column, counted. -/
theorem colcount {L : List (List Int)} (hci : Ci L) {m : Nat} (hm : m < (rw' L 0).length) (bo : Option Addr) (cb : Nat) (w : World) (hr : IRow w bo (mk L.length (fun k => co (rw' L k) m))) :
    Calls Try.prog 23 #[.slice bo L.length cb] w fun e w' => (∃ b, e = .returned (.map (some b)) ∧ MapC (co (mk L.length (fun k => tb L k m))) L.length b w') ∧ Below w.heap.size w w' := by
  have hK := hci.K2
  have h := count_any bo cb (mk L.length (fun k => co (rw' L k) m)) (by rw [mk_length]; exact hK) (fun x hx => by
    obtain ⟨i, hi, e⟩ := mk_mem hx
    rw [← e]
    exact tb_in hci hi hm) w hr
  rw [mk_length] at h
  exact h.mono fun e w' h => ⟨by
    obtain ⟨b, h1, _, h2⟩ := h.1
    exact ⟨b, h1, h2⟩, h.2⟩

theorem Perfect_bad (ao : Option Addr) (cap : Nat) (L : List (List Int)) (c : Int) (hc : CiC L c) (h0 : c ≠ 0) (hl : L.length ≤ 9223372036854775807) (w : World) (hrow : RRow w ao L) :
    Calls Try.prog 13 #[.slice ao L.length cap] w fun e w' => e = .returned (.tuple #[.bool false, .int .i64 c]) ∧ Below w.heap.size w w' := by
  have cK := check_any ao cap L c hc hl w hrow
  have h1 : (c != 0) = true := by simpa using h0
  generalize L.length = n at *
  clear hc hrow
  go_enter Try.func13, Try.ntmps13
  go_wp2_with (go_at_call 9; refine cK.mono ?_; rintro e w1 ⟨rfl, hB1⟩)
  go_ret2
  exact ⟨rfl, hB1⟩

set_option maxRecDepth 100000 in
set_option maxHeartbeats 1000000 in
theorem Perfect_yes (ao : Option Addr) (cap : Nat) (L : List (List Int)) (hc : CiC L 0) (b : Bool) (hb : b = true ↔ PerfIs (tb L) L.length (rw' L 0).length) (hl : L.length ≤ 9223372036854775807) (w : World) (hrow : RRow w ao L) :
    Calls Try.prog 13 #[.slice ao L.length cap] w fun e w' => e = .returned (.tuple #[.bool b, .int .i64 0]) ∧ Below w.heap.size w w' := by
  have cK := check_any ao cap L 0 hc hl w hrow
  have hci := hc.ok
  have hK1 := hci.K1
  have hK2 := hci.K2
  have hM1 := hci.M1
  have hM2 := hci.M2
  have cC : ∀ m, m < (rw' L 0).length → ∀ w', Below w.heap.size w w' → Calls Try.prog 24 #[.slice ao L.length cap, .int .i64 (m : Int)] w' fun e w'' => (∃ bo cb, e = .returned (.slice bo L.length cb) ∧ Hid (IRow w'' bo (mk L.length (fun k => co (rw' L k) m)))) ∧ Below w'.heap.size w' w'' := fun m hm w' hB =>
    (column_any ao cap L m hK2 (fun j hj => by rw [hci.even j hj]; exact hm) w' (rb hrow hB)).mono fun e w'' h => ⟨by
      obtain ⟨bo, cb, h1, h2, h3⟩ := h.1
      rw [mk_length] at h1
      exact ⟨bo, cb, h1, h3⟩, h.2⟩
  have cC0 := cC 0 (by omega)
  have cN : ∀ m, m < (rw' L 0).length → ∀ bo cb w', IRow w' bo (mk L.length (fun k => co (rw' L k) m)) → Calls Try.prog 23 #[.slice bo L.length cb] w' fun e w'' => (∃ b, e = .returned (.map (some b)) ∧ Hid (MapC (co (mk L.length (fun k => tb L k m))) L.length b w'')) ∧ Below w'.heap.size w' w'' := fun m hm bo cb w' hr => colcount hci hm bo cb w' hr
  have cN0 := cN 0 (by omega)
  rcases ao with _ | ad
  · exact (rrow_none hrow (j := 0) (by omega)).elim
  have c0a : ∀ w', Below w.heap.size w w' → ∃ b0 cc0, w'.cell? ad = some (.slice b0 (rw' L 0).length cc0) := fun w' hB => by
    obtain ⟨b0, cc0, c0, _⟩ := (rb hrow hB).2 ad rfl 0 (by omega)
    rw [zero_addr] at c0
    exact ⟨b0, cc0, c0⟩
  have cE : ∀ m b1 b2 w', MapC (co (mk L.length (fun k => tb L k m))) L.length b1 w' → MapC (co (mk L.length (fun k => tb L k 0))) L.length b2 w' → ∀ r : Bool, (r = true ↔ ∀ x, kc (fun k => tb L k m) x L.length = kc (fun k => tb L k 0) x L.length) → Calls Try.prog 25 #[.map (some b1), .map (some b2)] w' fun e w'' => e = .returned (.bool r) ∧ Below w'.heap.size w' w'' := fun m b1 b2 w' h1 h2 r hr =>
    equal_any _ _ L.length b1 b2 w' h1 h2 r (hr.trans ⟨fun h x => by rw [kc_mk, kc_mk]; exact h x, fun h x => by have := h x; rw [kc_mk, kc_mk] at this; exact this⟩)
  have HB : Hid (b = true ↔ PerfIs (tb L) L.length (rw' L 0).length) := hb
  obtain ⟨Fc, hFc⟩ : ∃ Fc : Nat → Nat → World → Prop, Fc = fun m b1 w' => MapC (co (mk L.length (fun k => tb L k m))) L.length b1 w' := ⟨_, rfl⟩
  have Fb : ∀ m b1 w' w'', Fc m b1 w' → Below w'.heap.size w' w'' → Fc m b1 w'' := fun m b1 w' w'' h hB => by rw [hFc] at h ⊢; exact MapC.below h hB
  have cN' : ∀ m, m < (rw' L 0).length → ∀ bo cb w', IRow w' bo (mk L.length (fun k => co (rw' L k) m)) → Calls Try.prog 23 #[.slice bo L.length cb] w' fun e w'' => (∃ b, e = .returned (.map (some b)) ∧ Hid (Fc m b w'')) ∧ Below w'.heap.size w' w'' := by rw [hFc]; exact cN
  have cE' : ∀ m b1 b2 w', Fc m b1 w' → Fc 0 b2 w' → ∀ r : Bool, (r = true ↔ ∀ x, kc (fun k => tb L k m) x L.length = kc (fun k => tb L k 0) x L.length) → Calls Try.prog 25 #[.map (some b1), .map (some b2)] w' fun e w'' => e = .returned (.bool r) ∧ Below w'.heap.size w' w'' := by rw [hFc]; exact cE
  have cN0' := cN' 0 (by omega)
  obtain ⟨Same, hS⟩ : ∃ Same : Nat → Prop, Same = fun m => ∀ x, kc (fun k => tb L k m) x L.length = kc (fun k => tb L k 0) x L.length := ⟨_, rfl⟩
  have cE2 : ∀ m b1 b2 w', Fc m b1 w' → Fc 0 b2 w' → ∀ r : Bool, (r = true ↔ Same m) → Calls Try.prog 25 #[.map (some b1), .map (some b2)] w' fun e w'' => e = .returned (.bool r) ∧ Below w'.heap.size w' w'' := by rw [hS]; exact cE'
  have HB2 : Hid (b = true ↔ ∀ m, m < (rw' L 0).length → Same m) := by rw [hS]; exact hb
  generalize (rw' L 0).length = M at *
  generalize L.length = K at *
  clear hc hrow hb hci hFc cN cN0 cE cE' hS HB
  have CC := hid cC
  have CN := hid cN'
  have CE := hid cE2
  clear cC cN' cE2
  go_enter Try.func13, Try.ntmps13
  go_wp2_with (first
    | (go_at_call 9; refine cK.mono ?_; rintro e w1 ⟨rfl, hB1⟩)
    | (go_at_call 24; refine (cC0 _ hB1).mono ?_; rintro e w2 ⟨⟨bo, cb, rfl, HI⟩, hB2⟩; have hB12 := below_trans hB1 hB2)
    | (go_at_call 23; refine (cN0' _ _ _ HI.out).mono ?_; rintro e w3 ⟨⟨m0, rfl, HM⟩, hB3⟩; have hB13 := below_trans hB12 hB3; obtain ⟨b0, cc0, d0⟩ := c0a w3 hB13))
  clear hB1 hB2 hB12 hB3 HI d0 cN0' cC0
  go_loopw [19] (fun i wr => ∃ m : Nat, i = .int .i64 (m : Int) ∧ m ≤ M ∧ Hid (∀ j, j < m → Same j) ∧ Hid (Fc 0 m0 wr) ∧ Hid (Below w.heap.size w wr)) (fun i wr => ((M : Int) - intOf i).toNat)
  case atStart => exact ⟨0, rfl, by omega, fun j hj => by omega, HM, hB13⟩
  case round =>
    obtain ⟨m, rfl, hm, hA, hF, hW⟩ := hrel
    by_cases hgo : m < M
    · have hgo' : (m : Int) < (M : Int) := by omega
      have cCm := CC.out m hgo
      have cNm := CN.out m hgo
      rcases Classical.em (Same m) with hs | hs
      · have cEm := fun b1 b2 w' h1 h2 => CE.out m b1 b2 w' h1 h2 true ⟨fun _ => hs, fun _ => rfl⟩
        have hA2 : Hid (∀ j, j < m + 1 → Same j) := fun j hj => by
          by_cases e : j = m
          · subst e; exact hs
          · exact hA.out j (by omega)
        clear hs
        go_wp2_with (first
          | (go_at_call 24; refine (cCm _ hW.out).mono ?_; rintro e w4 ⟨⟨bo, cb, rfl, HI⟩, hB4⟩)
          | (go_at_call 23; refine (cNm _ _ _ HI.out).mono ?_; rintro e w5 ⟨⟨m1, rfl, HM1⟩, hB5⟩; have hB45 := below_trans hB4 hB5; have hF5 := hid (Fb _ _ _ _ hF.out hB45))
          | (go_at_call 25; refine (cEm _ _ _ HM1.out hF5.out).mono ?_; rintro e w6 ⟨rfl, hB6⟩))
        go_roundw
        case rel => exact ⟨m + 1, by simp, by omega, hA2, Fb _ _ _ _ hF5.out hB6, below_trans hW.out (below_trans hB45 hB6)⟩
        case measure => exact measK hgo
      · have cEm := fun b1 b2 w' h1 h2 => CE.out m b1 b2 w' h1 h2 false ⟨fun e => (by cases e), fun e => absurd e hs⟩
        have hbf : Hid (b = false) := by
          show b = false
          cases b with
          | false => rfl
          | true => exact absurd (HB2.out.1 rfl m hgo) hs
        clear hs
        go_wp2_with (first
          | (go_at_call 24; refine (cCm _ hW.out).mono ?_; rintro e w4 ⟨⟨bo, cb, rfl, HI⟩, hB4⟩)
          | (go_at_call 23; refine (cNm _ _ _ HI.out).mono ?_; rintro e w5 ⟨⟨m1, rfl, HM1⟩, hB5⟩; have hB45 := below_trans hB4 hB5; have hF5 := hid (Fb _ _ _ _ hF.out hB45))
          | (go_at_call 25; refine (cEm _ _ _ HM1.out hF5.out).mono ?_; rintro e w6 ⟨rfl, hB6⟩))
        go_ret2
        exact ⟨by rw [hbf.out]; rfl, below_trans hW.out (below_trans hB45 hB6)⟩
    · have hgo' : ¬ (m : Int) < (M : Int) := by omega
      have hbt : Hid (b = true) := HB2.out.2 (fun j hj => hA.out j (by omega))
      go_wp2
      go_ret2
      exact ⟨by rw [hbt.out]; rfl, hW.out⟩

/-! ### the document's -/

set_option maxRecDepth 100000 in
theorem keysOf_any (ao : Option Addr) (cap : Nat) (L : List (List Int)) (m : Nat) (x : Int) (hl : L.length ≤ 1048576) (hm : ∀ j, j < L.length → m < (rw' L j).length) (w : World) (hrow : RRow w ao L) :
    Calls Try.prog 26 #[.slice ao L.length cap, .int .i64 (m : Int), .int .i64 x] w fun e w' => e = .returned (.int .i64 (kc (fun k => tb L k m) x L.length : Nat)) ∧ w' = w := by
  obtain ⟨N, hN⟩ : ∃ N, N = L.length := ⟨_, rfl⟩
  have HN : Hid (N = L.length) := hN
  have HM := hid hm
  have HR := hid hrow
  rw [← hN] at hl ⊢
  clear hN hm hrow
  go_enter Try.func26, Try.ntmps26
  go_wp2
  go_loop [7, 12] (fun n i => ∃ k c : Nat, n = .int .i64 (c : Int) ∧ i = .int .i64 (k : Int) ∧ k ≤ N ∧ c ≤ k ∧ Hid (c = kc (fun k => tb L k m) x k)) (fun n i => ((N : Int) - intOf i).toNat)
  case atStart => exact ⟨0, 0, rfl, rfl, by omega, by omega, rfl⟩
  case round =>
    obtain ⟨k, c, rfl, rfl, hk, hck, hC⟩ := hrel
    by_cases hgo : k < N
    · have hgo' : (k : Int) < (N : Int) := by omega
      have hkl : Hid (k < L.length) := by have := HN.out; show k < L.length; omega
      rcases ao with _ | ad
      · exact (rrow_none HR.out hkl.out).elim
      · obtain ⟨bo, cc, c1, hr, hlc, hlm⟩ := HR.out.2 ad rfl k hkl.out
        have hml := HM.out k hkl.out
        rcases bo with _ | bd
        · exact (irow_none hr hml).elim
        · have c2 := hr.2 bd rfl m hml
          have hs : Hid (kc (fun k => tb L k m) x (k + 1) = kc (fun k => tb L k m) x k + (if co (rw' L k) m = x then 1 else 0)) := rfl
          generalize co (rw' L k) m = y at *
          generalize (rw' L k).length = n at *
          have hml' : (m : Int) < (n : Int) := by omega
          clear hr hlc
          by_cases hy : y = x
          · have hs2 : Hid (c + 1 = kc (fun k => tb L k m) x (k + 1)) := by show _ = _; rw [hs.out, if_pos hy, hC.out]
            have hs3 : Hid ((c : Int) + 1 = ((c + 1 : Nat) : Int)) := by show _ = _; omega
            subst hy
            clear hs
            go_wp2
            go_round
            case rel => exact ⟨k + 1, c + 1, by rw [← hs3.out], by simp, by omega, by omega, hs2⟩
            case measure => exact measK hgo
          · have hs2 : Hid (c = kc (fun k => tb L k m) x (k + 1)) := by show _ = _; rw [hs.out, if_neg hy, Nat.add_zero, hC.out]
            have hy' : (y == x) = false := by simpa using hy
            clear hs
            go_wp2
            go_round
            case rel => exact ⟨k + 1, c, rfl, by simp, by omega, by omega, hs2⟩
            case measure => exact measK hgo
    · have hgo' : ¬ (k : Int) < (N : Int) := by omega
      obtain rfl : k = N := by omega
      go_wp2
      go_ret
      exact ⟨ret_int (by rw [hC.out]), rfl⟩

set_option maxRecDepth 100000 in
set_option maxHeartbeats 1000000 in
theorem refPerfect_any (ao : Option Addr) (cap : Nat) (L : List (List Int)) (hci : Ci L) (b : Bool) (hb : b = true ↔ PerfIs (tb L) L.length (rw' L 0).length) (w : World) (hrow : RRow w ao L) :
    Calls Try.prog 14 #[.slice ao L.length cap] w fun e w' => e = .returned (.bool b) ∧ w' = w := by
  have hK2 := hci.K2
  have hM1 := hci.M1
  have hM2 := hci.M2
  have cQ : ∀ m, m < (rw' L 0).length → ∀ x, Calls Try.prog 26 #[.slice ao L.length cap, .int .i64 (m : Int), .int .i64 x] w fun e w' => e = .returned (.int .i64 (kc (fun k => tb L k m) x L.length : Nat)) ∧ w' = w := fun m hm x => keysOf_any ao cap L m x (by omega) (fun j hj => by rw [hci.even j hj]; exact hm) w hrow
  have HB := hid (hb.trans (perf_iff (T := tb L) (K := L.length) hM1).symm)
  have HV := hid hci.even
  obtain ⟨Q, hQ⟩ : ∃ Q : Nat → Int → Nat, Q = fun m x => kc (fun k => tb L k m) x L.length := ⟨_, rfl⟩
  have HB2 : Hid (b = true ↔ ∀ r, r < L.length → ∀ i, i < (rw' L 0).length → ∀ m, m < (rw' L 0).length → Q m (tb L r i) = Q 0 (tb L r i)) := by rw [hQ]; exact HB.out
  have hQle : ∀ m x, Q m x ≤ 16 := fun m x => by rw [hQ]; exact Nat.le_trans (kc_le _ _ _) hK2
  have cQ' : ∀ m, m < (rw' L 0).length → ∀ x, Calls Try.prog 26 #[.slice ao L.length cap, .int .i64 (m : Int), .int .i64 x] w fun e w' => e = .returned (.int .i64 (Q m x : Nat)) ∧ w' = w := by rw [hQ]; exact cQ
  have cQ0 := cQ' 0 (by omega)
  have CQ := hid cQ'
  have HR := hid hrow
  obtain ⟨N, hN⟩ : ∃ N, N = L.length := ⟨_, rfl⟩
  have HN : Hid (N = L.length) := hN
  obtain ⟨M, hM⟩ : ∃ M, M = (rw' L 0).length := ⟨_, rfl⟩
  have HM : Hid (M = (rw' L 0).length) := hM
  rw [← hM] at hM1 hM2 HB2 CQ
  rw [← hN] at hK2 cQ0 CQ ⊢
  clear hb hQ HB cQ cQ' hci hrow hN hM
  go_enter Try.func14, Try.ntmps14
  go_wp2
  go_loop [10] (fun i => ∃ k : Nat, i = .int .i64 (k : Int) ∧ k ≤ N ∧ Hid (∀ r, r < k → ∀ i, i < M → ∀ m, m < M → Q m (tb L r i) = Q 0 (tb L r i))) (fun i => ((N : Int) - intOf i).toNat)
  case atStart => exact ⟨0, rfl, by omega, fun j hj => by omega⟩
  case round =>
    obtain ⟨k, rfl, hk, hA⟩ := hrel
    by_cases hgo : k < N
    · have hgo' : (k : Int) < (N : Int) := by omega
      have hkl : Hid (k < L.length) := by have := HN.out; show k < L.length; omega
      rcases ao with _ | ad
      · exact (rrow_none HR.out hkl.out).elim
      · obtain ⟨bo, cc, c1, hr, hlc, hlm⟩ := HR.out.2 ad rfl k hkl.out
        have e : Hid ((rw' L k).length = M) := by show _ = _; rw [HM.out]; exact HV.out k hkl.out
        rw [e.out] at c1 hlm
        have HR1 := hid hr
        clear hr hlc
        go_wp2
        go_loop [16] (fun i => ∃ q : Nat, i = .int .i64 (q : Int) ∧ q ≤ M ∧ Hid (∀ i, i < q → ∀ m, m < M → Q m (tb L k i) = Q 0 (tb L k i))) (fun i => ((M : Int) - intOf i).toNat)
        case atStart => exact ⟨0, rfl, by omega, fun i hj => by omega⟩
        case round =>
          obtain ⟨q, rfl, hq, hA2⟩ := hrel
          by_cases hgo2 : q < M
          · have hgo2' : (q : Int) < (M : Int) := by omega
            have hql : Hid (q < (rw' L k).length) := by show q < _; rw [e.out]; exact hgo2
            rcases bo with _ | bd
            · exact (irow_none HR1.out hql.out).elim
            have e1 := HR1.out.2 bd rfl q hql.out
            have HT : Hid (tb L k q = co (rw' L k) q) := rfl
            obtain ⟨x, hx⟩ : ∃ x, co (rw' L k) q = x := ⟨_, rfl⟩
            rw [hx] at e1
            have HX : Hid (tb L k q = x) := by show _ = _; rw [HT.out, hx]
            clear hx HT
            have cQ0x := cQ0 x
            have q0 := hQle 0 x
            go_wp2
            go_loop [7] (fun i => ∃ p : Nat, i = .int .i64 (p : Int) ∧ p ≤ M ∧ Hid (∀ m, m < p → Q m x = Q 0 x)) (fun i => ((M : Int) - intOf i).toNat)
            case atStart => exact ⟨0, rfl, by omega, fun j hj => by omega⟩
            case round =>
              obtain ⟨p, rfl, hp, hA3⟩ := hrel
              by_cases hgo3 : p < M
              · have hgo3' : (p : Int) < (M : Int) := by omega
                have cQp := CQ.out p hgo3 x
                by_cases he : Q p x = Q 0 x
                · have hA4 : Hid (∀ m, m < p + 1 → Q m x = Q 0 x) := fun m hm => by
                    by_cases e : m = p
                    · subst e; exact he
                    · exact hA3.out m (by omega)
                  rw [he] at cQp
                  generalize Q 0 x = z at *
                  clear he
                  by_cases hp0 : p = 0
                  · subst hp0
                    go_wp2_with (first
                      | (go_at_call 26; refine cQ0x.mono ?_; rintro e w1 ⟨rfl, hw⟩; subst w1))
                    go_round
                    case rel => exact ⟨1, rfl, by omega, hA4⟩
                    case measure => simp [intOf]; omega
                  · go_wp2_with (first
                      | (go_at_call 26; refine cQp.mono ?_; rintro e w1 ⟨rfl, hw⟩; subst w1; clear cQp)
                      | (go_at_call 26; refine cQ0x.mono ?_; rintro e w1 ⟨rfl, hw⟩; subst w1))
                    go_round
                    case rel => exact ⟨p + 1, by simp, by omega, hA4⟩
                    case measure => exact measK hgo3
                · have hbf : Hid (b = false) := by
                    show b = false
                    cases b with
                    | false => rfl
                    | true =>
                      have := HB2.out.1 rfl k hkl.out q hgo2 p hgo3
                      rw [HX.out] at this
                      exact absurd this he
                  have he' : ¬ ((Q p x : Nat) : Int) = ((Q 0 x : Nat) : Int) := by omega
                  generalize Q p x = y at *
                  generalize Q 0 x = z at *
                  go_wp2_with (first
                    | (go_at_call 26; refine cQp.mono ?_; rintro e w1 ⟨rfl, hw⟩; subst w1; clear cQp)
                    | (go_at_call 26; refine cQ0x.mono ?_; rintro e w1 ⟨rfl, hw⟩; subst w1))
                  go_ret
                  exact ⟨ret_bool hbf.out.symm, rfl⟩
              · have hgo3' : ¬ (p : Int) < (M : Int) := by omega
                have hA5 : Hid (∀ i, i < q + 1 → ∀ m, m < M → Q m (tb L k i) = Q 0 (tb L k i)) := fun i hi m hm => by
                  by_cases e : i = q
                  · subst e; rw [HX.out]; exact hA3.out m (by omega)
                  · exact hA2.out i (by omega) m hm
                go_wp2
                go_round
                case rel => exact ⟨q + 1, by simp, by omega, hA5⟩
                case measure => exact measK hgo2
          · have hgo2' : ¬ (q : Int) < (M : Int) := by omega
            have hA6 : Hid (∀ r, r < k + 1 → ∀ i, i < M → ∀ m, m < M → Q m (tb L r i) = Q 0 (tb L r i)) := fun r hr i hi m hm => by
              by_cases e : r = k
              · subst e; exact hA2.out i (by omega) m hm
              · exact hA.out r (by omega) i hi m hm
            go_wp2
            go_round
            case rel => exact ⟨k + 1, by simp, by omega, hA6⟩
            case measure => exact measK hgo
    · have hgo' : ¬ (k : Int) < (N : Int) := by omega
      have hbt : Hid (b = true) := HB2.out.2 (fun r hr => hA.out r (by have := HN.out; omega))
      go_wp2
      go_ret
      exact ⟨ret_bool hbt.out.symm, rfl⟩

end Go.Proofs.Ytcdlbdicfldlaaa.Calls101
