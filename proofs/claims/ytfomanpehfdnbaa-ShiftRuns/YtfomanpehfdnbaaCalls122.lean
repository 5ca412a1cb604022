/-
  The document's side: is there a rule of so many taps that begins with some? By sums of equations.
-/
import Derived.Test.YtfomanpehfdnbaaBase7
import Derived.Test.YtfomanpehfdnbaaNum67
import Derived.Deep.RegionHeld3
import Derived.Deep.AppendLies
import Derived.Deep.RegionLaw
namespace Go.Proofs.Ytfomanpehfdnbaa.Calls122
set_option linter.unusedVariables false
open Go.ChangeShapes Go.WideShapes Go.ChangeAt Go.RowKit Go.Deep Go.Proofs.Ytfomanpehfdnbaa.Base Go.Proofs.Ytfomanpehfdnbaa.Base2 Go.Proofs.Ytfomanpehfdnbaa.Base7 Go.Proofs.Ytfomanpehfdnbaa.Num44 Go.Proofs.Ytfomanpehfdnbaa.Num54 Go.Proofs.Ytfomanpehfdnbaa.Num67

/-- The rows, each of n + 1 bools. -/
def TabR (W : World) (base : Nat) (v : Value) (K n : Nat) (R : Nat → Nat → Bool) : Prop := VTab 22 W base v K (fun j => bv (mb (n + 1) (R j)))

/-- One row, as the walk meets it. -/
def RowC (W : World) (G j n : Nat) (g c : Nat) (r : Nat → Bool) : Prop := W.cell? ⟨G, j, none⟩ = some (.slice (some ⟨g, 0, none⟩) (n + 1) c) ∧ n + 1 ≤ c ∧ ∀ i, i ≤ n → W.cell? ⟨g, i, none⟩ = some (.bool (r i))

theorem TabR.at {W : World} {base : Nat} {v : Value} {K n : Nat} {R : Nat → Nat → Bool} (h : TabR W base v K n R) {j : Nat} (hj : j < K) :
    ∃ G C, v = .slice (some ⟨G, 0, none⟩) K C ∧ ∃ g c, RowC W G j n g c (R j) := by
  obtain ⟨G, C, e1, e2, g, c, e3, e4, e5⟩ := VTab.at h hj
  rw [bv_length, mb_length] at e3 e4
  refine ⟨G, C, e1, g, c, e3, e4, fun i hi => e5 i _ ?_⟩
  rw [bv_get (by rw [mb_length]; omega), gb_mb (by omega)]

theorem TabR.below {W W' : World} {base : Nat} {v : Value} {K n : Nat} {R : Nat → Nat → Bool} (h : TabR W base v K n R) (hB : Below W.heap.size W W') : TabR W' base v K n R := VTab.below h hB

theorem infoBS : (Try.prog.info? 22).map (fun i => (i.zero, i.size, i.bytes)) = some (some (.slice none 0 0), 1, 24) := by kernel_rfl

theorem infoBS_ex : ∃ i, Try.prog.info? 22 = some i ∧ i.zero = some (.slice none 0 0) ∧ i.size = 1 ∧ i.bytes = 24 := by
  have h := infoBS
  cases e : Try.prog.info? 22 with
  | none => rw [e] at h; simp at h
  | some i => rw [e] at h; simp at h; exact ⟨i, rfl, h.1, h.2.1, h.2.2⟩

/-- The bit at hand, and the row of those that are asked for, behind i taps. -/
def bitAt (l b : Nat → Bool) (m n i : Nat) : Bool := xor (l n) (xs (min i m) (fun k => b k && l (n - k - 1)))

theorem bitAt_low {l b : Nat → Bool} {m n i : Nat} (h : i < m) : bitAt l b m n (i + 1) = xor (bitAt l b m n i) (b i && l (n - i - 1)) := by
  unfold bitAt
  rw [show min (i + 1) m = i + 1 by omega, show min i m = i by omega]
  show xor (l n) (xor _ _) = xor (xor (l n) _) _
  rw [Bool.xor_assoc]

theorem bitAt_high {l b : Nat → Bool} {m n i : Nat} (h : m ≤ i) : bitAt l b m n (i + 1) = bitAt l b m n i := by
  unfold bitAt
  rw [show min (i + 1) m = m by omega, show min i m = m by omega]

theorem row_end {l b : Nat → Bool} {m M n : Nat} (hm : m ≤ M) : rowOf l b m M n (M - m) = bitAt l b m n M := by
  unfold rowOf bitAt
  rw [if_neg (by omega), show min M m = m by omega]

theorem row_low {l b : Nat → Bool} {m M n k : Nat} (hk : k < M - m) : rowOf l b m M n k = l (n - (m + k) - 1) := by
  unfold rowOf; rw [if_pos hk]

theorem v_snocd {W w1 : World} {base : Nat} {e : TypeId} {size : Nat} {v : Value} {k : Nat} {xs : List Value} {tmp : Obj} {w : World} (hB : Below w.heap.size w W) (hb : w.heap.size ≤ base)
    (hown : W.ownsRow base e size v k xs) (hgrow : ((W.alloc tmp).drew).grownBy w1 v.ownBlock) : Below w.heap.size w w1 := by
  refine ((hB.alloc hB.size tmp).drew).grown hgrow (by have := hB.size; simp; omega) fun j ej => ?_
  exact Nat.le_trans hb (hown.lt j ej).1

theorem v_mono {W : World} {base base' : Nat} {e : TypeId} {size : Nat} {v : Value} {n : Nat} {xs : List Value} (h : W.ownsRow base e size v n xs) (hb : base' ≤ base) : W.ownsRow base' e size v n xs :=
  ⟨h.1, h.2.imp id (fun ⟨g, cap, cur, e1, e2, rest⟩ => ⟨g, cap, cur, e1, Nat.le_trans hb e2, rest⟩)⟩

/-- What was found: none yet, or one. -/
def FdAt (R : Nat → Nat → Bool) (c k : Nat) (u : Value) : Prop := (u = .int .i64 (-1) ∧ ∀ j, j < k → R j c = false) ∨ ∃ a : Nat, u = .int .i64 (a : Int) ∧ a < k ∧ R a c = true

set_option maxRecDepth 100000 in
set_option maxHeartbeats 4000000 in
theorem rows_any (lo bo : Option Addr) (cl cb : Nat) (l B : List Bool) (M : Nat) (hl : l.length ≤ 64) (hM : M ≤ l.length) (hB : B.length ≤ M) (w : World) (rl : BRow w lo l) (rB : BRow w bo B) (r : Bool) (hr : r = true ↔ ∃ t, Makes (gb l) M l.length t ∧ ∀ k, k < B.length → t k = gb B k) :
    Calls Try.prog 17 #[.slice lo l.length cl, .slice bo B.length cb, .int .i64 (M : Int)] w fun e w' => e = .returned (.bool r) ∧ Below w.heap.size w w' := by
  obtain ⟨i0, hi, hz0, hz1', hz2⟩ := infoBo_ex
  obtain ⟨i1, gi, gz0, gz1, gz2⟩ := infoBS_ex
  have HL := hid (fun (w' : World) (h : Below w.heap.size w w') => brow_below rl h)
  have HBb := hid (fun (w' : World) (h : Below w.heap.size w w') => brow_below rB h)
  rw [← sol_rows hB] at hr
  have HR := hid hr
  obtain ⟨L, hL⟩ : ∃ L, L = gb l := ⟨_, rfl⟩
  obtain ⟨b, hb⟩ : ∃ b, b = gb B := ⟨_, rfl⟩
  rw [← hL, ← hb] at HR
  have HLl := hid hL
  have HBl := hid hb
  obtain ⟨N, hN⟩ : ∃ N, N = l.length := ⟨_, rfl⟩
  obtain ⟨m, hm⟩ : ∃ m, m = B.length := ⟨_, rfl⟩
  have HN := hid hN
  have Hm := hid hm
  rw [← hN] at hl hM HR ⊢
  rw [← hm] at hB HR ⊢
  clear hN hm hL hb hr rl rB
  go_enter Try.func17, Try.ntmps17
  go_wp2
  go_loopw [7, 8] (fun v i wr => ∃ p : Nat, i = .int .i64 (p : Int) ∧ M ≤ p ∧ p ≤ N ∧ Hid (TabR wr w.heap.size v (p - M) (M - m) (fun j => rowOf L b m M (M + j))) ∧ Hid (Below w.heap.size w wr)) (fun v i wr => ((N : Int) - intOf i).toNat)
  case atStart => exact ⟨M, rfl, by omega, by omega, by rw [Nat.sub_self]; exact VTab.nil _ _ _ _, Below.refl _ _⟩
  case round =>
    obtain ⟨p, rfl, hp, hk, HT, HB⟩ := hrel
    by_cases hgo : p < N
    · have hgo' : (p : Int) < (N : Int) := by omega
      rcases lo with _ | ld
      · exact (brow_none (HL.out _ HB.out) (j := p) (by rw [← HN.out]; exact hgo)).elim
      have cp := brow_cell (HL.out _ HB.out) (j := p) (by rw [← HN.out]; exact hgo)
      rw [← HLl.out] at cp
      obtain ⟨W1, hW1⟩ : ∃ W1, W1 = wr := ⟨_, rfl⟩
      rw [← hW1] at HT HB cp ⊢
      clear hW1
      have hb0 : Hid (L p = bitAt L b m p 0) := by
        show _ = _
        unfold bitAt
        rw [show min 0 m = 0 by omega]
        show _ = xor _ false
        cases L p <;> rfl
      go_wp2
      rw [hb0.out]
      clear cp
      go_loopw [9, 10, 11] (fun v x i wr => ∃ q : Nat, i = .int .i64 (q : Int) ∧ q ≤ M ∧ x = .bool (bitAt L b m p q) ∧ Hid (wr.ownsRow W1.heap.size 4 1 v (q - m) (bv (mb (q - m) (fun k => L (p - (m + k) - 1))))) ∧ Hid (Below W1.heap.size W1 wr)) (fun v x i wr => ((M : Int) - intOf i).toNat)
      case atStart => exact ⟨0, rfl, by omega, rfl, by rw [show 0 - m = 0 by omega]; exact World.ownsRow_nil _ _ _ _, Below.refl _ _⟩
      case round =>
        obtain ⟨q, rfl, hq, rfl, HO, HX⟩ := hrel
        have HBX := hid (below_trans HB.out HX.out)
        by_cases hgq : q < M
        · have hgq' : (q : Int) < (M : Int) := by omega
          obtain ⟨s, hs⟩ : ∃ s, s = p - q - 1 := ⟨_, rfl⟩
          have hsi : (p : Int) - (q : Int) - 1 = (s : Int) := by omega
          have hsN : (s : Int) < (N : Int) := by omega
          have cs := brow_cell (HL.out _ HBX.out) (j := s) (by rw [← HN.out]; omega)
          rw [← HLl.out] at cs
          by_cases hqm : q < m
          · have hqm' : (q : Int) < (m : Int) := by omega
            rcases bo with _ | bd
            · exact (brow_none (HBb.out _ HBX.out) (j := q) (by rw [← Hm.out]; exact hqm)).elim
            have cq := brow_cell (HBb.out _ HBX.out) (j := q) (by rw [← Hm.out]; exact hqm)
            rw [← HBl.out] at cq
            have hst := hid (bitAt_low (l := L) (b := b) (n := p) hqm)
            rw [← hs] at hst
            have hO2 : Hid (wr.ownsRow W1.heap.size 4 1 u9 (q + 1 - m) (bv (mb (q + 1 - m) (fun k => L (p - (m + k) - 1))))) := by
              have := HO.out
              rw [show q - m = 0 by omega] at this
              rw [show q + 1 - m = 0 by omega]
              exact this
            obtain ⟨X1, hX1⟩ : ∃ X1, X1 = bitAt L b m p (q + 1) := ⟨_, rfl⟩
            have HX1 := hid hX1
            rw [← hX1] at hst
            clear hX1 hs HO
            generalize bitAt L b m p q = X0 at *
            generalize b q = x at *
            generalize L s = y at *
            have keep : x = false ∨ y = false → Hid (X0 = X1) := fun h => by
              show _ = _
              rw [hst.out]
              rcases h with rfl | rfl
              · cases X0 <;> rfl
              · cases X0 <;> cases x <;> rfl
            cases x with
            | false =>
              have he := keep (.inl rfl)
              clear keep hst cs
              go_wp2
              go_roundw
              case rel => exact ⟨q + 1, by simp, by omega, by rw [← HX1.out, he.out], hO2, HX⟩
              case measure => exact measK hgq
            | true =>
              cases y with
              | false =>
                have he := keep (.inr rfl)
                clear keep hst
                go_wp2
                go_roundw
                case rel => exact ⟨q + 1, by simp, by omega, by rw [← HX1.out, he.out], hO2, HX⟩
                case measure => exact measK hgq
              | true =>
                have he : Hid (X1 = !X0) := by show _ = _; rw [hst.out]; cases X0 <;> rfl
                clear keep hst
                go_wp2
                go_roundw
                case rel => exact ⟨q + 1, by simp, by omega, by rw [← HX1.out, he.out], hO2, HX⟩
                case measure => exact measK hgq
          · have hqm' : ¬ (q : Int) < (m : Int) := by omega
            have hst := hid (bitAt_high (l := L) (b := b) (n := p) (show m ≤ q by omega))
            have hsn : Hid (bv (mb (q + 1 - m) (fun k => L (p - (m + k) - 1))) = bv (mb (q - m) (fun k => L (p - (m + k) - 1))) ++ [.bool (L s)]) := by
              show _ = _
              rw [show q + 1 - m = (q - m) + 1 by omega, bv_succ, show p - (m + (q - m)) - 1 = s by omega]
            have hcn : Hid (q + 1 - m = q - m + 1) := by show _ = _; omega
            obtain ⟨d, hd⟩ : ∃ d, d = q - m := ⟨_, rfl⟩
            rw [← hd] at HO hsn hcn
            have hd64 : d ≤ 64 := by omega
            have hXs := HX.out.size
            clear hs hd
            generalize bitAt L b m p q = X0 at *
            generalize L s = y at *
            go_wp2_with (at_builtin; refine wpList_append_own _ rfl _ _ 22 rfl W1.heap.size 4 i0 (.bool false) 1 1 Try.underlying22 hi hz0 hz1' hz2 rfl (by decide) _ _ _ rfl (HO.out.alloc _) ⟨wr.heap.size, 0, none⟩ 1 1 [.bool y] rfl rfl v_one (by simp [Value.oneCell']) (by unfold maxLen; omega) (by omega) (by simp; omega) ?_; intro v' w3 hown' hgrow _; have HO3 := hid hown'; have HB3 := hid (v_snoc HX.out (Nat.le_refl _) HO.out hgrow); clear hown' hgrow)
            go_roundw
            case rel => exact ⟨q + 1, by simp, by omega, by rw [hst.out], by show World.ownsRow _ _ _ _ _ _ _; rw [hcn.out, ← hcn.out, hsn.out, hcn.out]; exact HO3.out, HB3⟩
            case measure => exact measK hgq
        · have hgq' : ¬ (q : Int) < (M : Int) := by omega
          obtain rfl : M = q := by omega
          obtain ⟨d, hd⟩ : ∃ d, d = M - m := ⟨_, rfl⟩
          obtain ⟨K, hK⟩ : ∃ K, K = p - M := ⟨_, rfl⟩
          have hrow : Hid (bv (mb d (fun k => L (p - (m + k) - 1))) ++ [.bool (bitAt L b m p M)] = bv (mb (d + 1) (rowOf L b m M (M + K)))) := by
            show _ = _
            rw [bv_succ, show M + K = p by omega, hd, row_end hB]
            congr 2
            exact mb_congr (fun k hk => (row_low hk).symm)
          rw [← hd] at HO HT
          rw [← hK] at HT
          have hd64 : d ≤ 64 := by omega
          have hK64 : K ≤ 64 := by omega
          have hXs := HX.out.size
          have hBs := HB.out.size
          have HLt : Hid (∀ g, u7.ownBlock = some g → w.heap.size ≤ g ∧ g < W1.heap.size) := by
            obtain ⟨us1, hown1, _⟩ := HT.out
            exact hown1.lt
          generalize bitAt L b m p M = x at *
          have HD := hid hd
          have HKe := hid hK
          clear hd hK
          go_wp2_with (first
            | (at_builtin; refine wpList_append_own0 _ rfl _ _ 22 rfl W1.heap.size 4 i0 (.bool false) 1 1 Try.underlying22 hi hz0 hz1' hz2 rfl (by decide) _ d _ rfl (HO.out.alloc _) ⟨wr.heap.size, 0, none⟩ 1 1 [.bool x] rfl rfl v_one (by simp [Value.oneCell']) (by omega) (by unfold maxLen; omega) (by omega) (by simp; omega) ?_
               intro g cap w3 hown3 hgrow3 hor3 hg3
               have HO3 := hid hown3
               have HB3 := hid (v_snoc HX.out (Nat.le_refl _) HO.out hgrow3)
               obtain ⟨us3, hv3, hr3⟩ := HT.out.below HB3.out
               have HV3 := hid hv3
               have HRs3 := hid hr3
               have hs3 := HB3.out.size
               have hgW := (World.ownsRow.lt hown3 g rfl).1
               clear hown3 hgrow3 hor3 HO hv3 hr3)
            | (at_builtin; refine wpList_append_own0 _ rfl _ _ 47 rfl w.heap.size 22 i1 (.slice none 0 0) 1 24 Try.underlying47 gi gz0 gz1 gz2 rfl (by decide) _ K _ rfl (HV3.out.alloc _) ⟨w3.heap.size, 0, none⟩ 1 1 [.slice (some ⟨g, 0, none⟩) (d + 1) cap] rfl rfl v_one (by simp [Value.oneCell']) (by omega) (by unfold maxLen; omega) (by omega) (by simp; omega) ?_
               intro g5 cap5 w5 hown5 hgrow5 hor5 hg5
               have HO5 := hid hown5
               have HG5 := hid hgrow5
               have HR5 := hid hor5
               have HB5 := hid (v_snoc (below_trans HB.out HB3.out) (Nat.le_refl _) HV3.out hgrow5)
               clear hown5 hgrow5 hor5))
          have hcell : Hid (VAt w3 u7.ownBlock (some (.slice (some ⟨g, 0, none⟩) (d + 1) cap)) (bv (mb (d + 1) (rowOf L b m M (M + K))))) := by
            refine ⟨g, cap, by rw [bv_length, mb_length], ?_, fun e => ?_, hg3, fun i x hx => ?_⟩
            · rw [bv_length, mb_length]
              rcases HO3.out.2 with ⟨h', _⟩ | ⟨g', cap', cur, h', _, hg, hnc, _⟩
              · simp at h'
              · have := Value.slice.inj h'
                rw [this.2.2]; exact hnc
            · have := HLt.out g e
              omega
            · rw [← hrow.out] at hx
              have hi' : i < (d + 1) * 1 := by
                have := (List.getElem?_eq_some_iff.1 hx).1
                rw [List.length_append, bv_length, mb_length] at this
                simpa using this
              rw [World.ownsRow.cellAt HO3.out i hi']
              exact hx
          have HF := hid (VTab.snoc HV3.out HRs3.out hcell.out HO5.out HG5.out HR5.out)
          go_roundw
          case rel => exact ⟨p + 1, by simp, by omega, by omega, by rw [show p + 1 - M = K + 1 by have := HKe.out; omega, ← HD.out]; exact HF.out, HB5⟩
          case measure => exact measK hgo
    · have hgo' : ¬ (p : Int) < (N : Int) := by omega
      obtain rfl : N = p := by omega
      obtain ⟨d, hd⟩ : ∃ d, d = M - m := ⟨_, rfl⟩
      obtain ⟨K0, hK0⟩ : ∃ K0, K0 = N - M := ⟨_, rfl⟩
      have hdi : (M : Int) - (m : Int) = (d : Int) := by omega
      have hd64 : d ≤ 64 := by omega
      have hK64 : K0 ≤ 64 := by omega
      rw [← hd, ← hK0] at HT HR
      obtain ⟨R0, hR0⟩ : ∃ R0, R0 = fun j => rowOf L b m M (M + j) := ⟨_, rfl⟩
      rw [← hR0] at HT HR
      clear hd hK0 hR0 HL HBb HLl HBl HN Hm
      go_wp2
      go_loopw [7, 12] (fun v i wr => ∃ (c K : Nat) (R : Nat → Nat → Bool), i = .int .i64 (c : Int) ∧ c ≤ d ∧ K ≤ 64 ∧ Hid (TabR wr w.heap.size v K d R) ∧ Hid (r = true ↔ SolT d K R) ∧ Hid (ZrT K R c) ∧ Hid (Below w.heap.size w wr)) (fun v i wr => ((d : Int) - intOf i).toNat)
      case atStart => exact ⟨0, K0, R0, rfl, by omega, hK64, HT, HR, fun j hj k hk => by omega, HB⟩
      case round =>
        clear HT HR HB hK64
        obtain ⟨c, K, R, rfl, hc, hK64, HT, HR, HZ, HB⟩ := hrel
        obtain ⟨ao, C, hv, hC⟩ := VTab.len HT.out
        subst hv
        by_cases hgc : c < d
        · have hgc' : (c : Int) < (d : Int) := by omega
          have hcd : (c : Int) < (d : Int) + 1 := by omega
          go_wp2
          go_loop [13, 14] (fun u i => ∃ k : Nat, i = .int .i64 (k : Int) ∧ k ≤ K ∧ Hid (FdAt R c k u)) (fun u i => ((K : Int) - intOf i).toNat)
          case atStart => exact ⟨0, rfl, by omega, .inl ⟨rfl, fun j hj => by omega⟩⟩
          case round =>
            obtain ⟨k, rfl, hk, HF⟩ := hrel
            by_cases hgk : k < K
            · have hgk' : (k : Int) < (K : Int) := by omega
              obtain ⟨G, C', e, g, cc, hrow⟩ := HT.out.at hgk
              obtain ⟨rfl, rfl⟩ : ao = some ⟨G, 0, none⟩ ∧ C = C' := ⟨(Value.slice.inj e).1, (Value.slice.inj e).2.2⟩
              have c1 := hrow.1
              have c2 := hrow.2.2 c (by omega)
              have HRk : Hid (R k c = R k c) := rfl
              clear e hrow
              cases hx : R k c with
              | false =>
                rw [hx] at c2
                have HF2 : Hid (FdAt R c (k + 1) u13) := by
                  rcases HF.out with ⟨h1, h2⟩ | ⟨a, h1, h2, h3⟩
                  · refine .inl ⟨h1, fun j hj => ?_⟩
                    by_cases e : j = k
                    · rw [e]; exact hx
                    · exact h2 j (by omega)
                  · exact .inr ⟨a, h1, by omega, h3⟩
                clear hx HRk
                go_wp2
                go_round
                case rel => exact ⟨k + 1, by simp, by omega, HF2⟩
                case measure => exact measK hgk
              | true =>
                rw [hx] at c2
                rcases HF.out with ⟨rfl, h2⟩ | ⟨a, rfl, h2, h3⟩
                · have HF2 : Hid (FdAt R c (k + 1) (.int .i64 (k : Int))) := .inr ⟨k, rfl, by omega, hx⟩
                  clear hx HRk h2 HF
                  go_wp2
                  go_round
                  case rel => exact ⟨k + 1, by simp, by omega, HF2⟩
                  case measure => exact measK hgk
                · have HF2 : Hid (FdAt R c (k + 1) (.int .i64 (a : Int))) := .inr ⟨a, rfl, by omega, h3⟩
                  have ha0 : ¬ (a : Int) < 0 := by omega
                  clear hx HRk h3 HF
                  go_wp2
                  go_round
                  case rel => exact ⟨k + 1, by simp, by omega, HF2⟩
                  case measure => exact measK hgk
            · have hgk' : ¬ (k : Int) < (K : Int) := by omega
              obtain rfl : K = k := by omega
              rcases HF.out with ⟨rfl, h2⟩ | ⟨a, rfl, ha, h3⟩
              · have HZ2 := hid (zr_skp HZ.out h2)
                clear h2 HF
                go_wp2
                go_roundw
                case rel => exact ⟨c + 1, K, R, by simp, by omega, hK64, HT, HR, HZ2, HB⟩
                case measure => exact measK hgc
              · have ha0 : ¬ (a : Int) < 0 := by omega
                have HR2 := hid (HR.out.trans (sol_step hgc ha h3))
                have HZ2 := hid (zr_nxt HZ.out ha h3)
                obtain ⟨W1, hW1⟩ : ∃ W1, W1 = wr := ⟨_, rfl⟩
                rw [← hW1] at HT HB ⊢
                clear hW1 HF h3
                go_wp2
                go_loopw [15, 16] (fun v i wr => ∃ k q : Nat, i = .int .i64 (k : Int) ∧ k ≤ K ∧ Hid ((k ≤ a ∧ q = k) ∨ (a < k ∧ q + 1 = k)) ∧ Hid (TabR wr W1.heap.size v q d (nxt R a c)) ∧ Hid (Below W1.heap.size W1 wr)) (fun v i wr => ((K : Int) - intOf i).toNat)
                case atStart => exact ⟨0, 0, rfl, by omega, .inl ⟨by omega, rfl⟩, VTab.nil _ _ _ _, Below.refl _ _⟩
                case round =>
                  obtain ⟨k, q, rfl, hk, HQ, HN, HX⟩ := hrel
                  by_cases hgk : k < K
                  · have hgk' : (k : Int) < (K : Int) := by omega
                    by_cases hka : k = a
                    · have hka' : ((k : Int) == (a : Int)) = true := by simp; omega
                      have HQ2 : Hid ((k + 1 ≤ a ∧ q = k + 1) ∨ (a < k + 1 ∧ q + 1 = k + 1)) := .inr ⟨by omega, by have := HQ.out; omega⟩
                      clear hka HQ
                      go_wp2
                      go_roundw
                      case rel => exact ⟨k + 1, q, by simp, by omega, HQ2, HN, HX⟩
                      case measure => exact measK hgk
                    · have hka' : ((k : Int) == (a : Int)) = false := by
                        have : ¬ (k : Int) = (a : Int) := by omega
                        simpa using this
                      have hka2 : ¬ (k : Int) = (a : Int) := by omega
                      have HQ2 : Hid ((k + 1 ≤ a ∧ q + 1 = k + 1) ∨ (a < k + 1 ∧ q + 1 + 1 = k + 1)) := by have := HQ.out; show _ ∨ _; omega
                      have hq64 : q ≤ 64 := by have := HQ.out; omega
                      have HNk : Hid (nxt R a c q = adr (R a) c (R k)) := by
                        show _ = _
                        unfold nxt
                        rcases HQ.out with ⟨h1, h2⟩ | ⟨h1, h2⟩
                        · rw [if_pos (by omega), h2]
                        · rw [if_neg (by omega), h2]
                      obtain ⟨G, C', e, g, cg, hrow⟩ := HT.out.at hgk
                      obtain ⟨rfl, rfl⟩ : ao = some ⟨G, 0, none⟩ ∧ C = C' := ⟨(Value.slice.inj e).1, (Value.slice.inj e).2.2⟩
                      obtain ⟨G', C', e', ga, ca, hrowa⟩ := HT.out.at ha
                      obtain rfl : G = G' := by
                        have := Option.some.inj (Value.slice.inj e').1
                        exact (Addr.mk.inj this).1
                      clear e e'
                      obtain ⟨W2, hW2⟩ : ∃ W2, W2 = wr := ⟨_, rfl⟩
                      rw [← hW2] at HN HX ⊢
                      clear hW2 HQ hka
                      have Hk := hid hrow
                      have Ha := hid hrowa
                      have KB : Hid (∀ (wz : World), Below W2.heap.size W2 wz → ∀ (p : Addr) (u : Value), W1.cell? p = some u → wz.cell? p = some u) := fun wz hB p u h => by
                        have h1 := (HX.out.cell (p := p) (by have := cell_lt h; omega)).trans h
                        exact (hB.cell (p := p) (by have := cell_lt h1; omega)).trans h1
                      clear hrow hrowa
                      go_wp2
                      go_loopw [17, 18] (fun v i wr => ∃ j : Nat, i = .int .i64 (j : Int) ∧ j ≤ d + 1 ∧ Hid (wr.ownsRow W2.heap.size 4 1 v j (bv (mb j (adr (R a) c (R k))))) ∧ Hid (Below W2.heap.size W2 wr)) (fun v i wr => ((d : Int) + 1 - intOf i).toNat)
                      case atStart => exact ⟨0, rfl, by omega, World.ownsRow_nil _ _ _ _, Below.refl _ _⟩
                      case round =>
                        obtain ⟨j, rfl, hj, HO, HY⟩ := hrel
                        have d1 := KB.out _ HY.out _ _ Hk.out.1
                        by_cases hgj : j < d + 1
                        · have hgj' : (j : Int) < (d : Int) + 1 := by omega
                          have d2 := KB.out _ HY.out _ _ (Hk.out.2.2 j (by omega))
                          have d3 := KB.out _ HY.out _ _ (Hk.out.2.2 c (by omega))
                          have d4 := KB.out _ HY.out _ _ Ha.out.1
                          have d5 := KB.out _ HY.out _ _ (Ha.out.2.2 j (by omega))
                          have hak : (a : Int) < (K : Int) := by omega
                          have hsn : Hid (bv (mb (j + 1) (adr (R a) c (R k))) = bv (mb j (adr (R a) c (R k))) ++ [.bool (xor (R k j) (R k c && R a j))]) := bv_succ _ _
                          have hYs := HY.out.size
                          have fo : ∀ (o : Obj) (p : Addr) (u : Value), W1.cell? p = some u → (wr.alloc o).cell? p = some u := fun o p u h => KB.out _ (HY.out.alloc HY.out.size o) p u h
                          have f1 := fun o => fo o _ _ Hk.out.1
                          have f2 := fun o => fo o _ _ (Hk.out.2.2 j (by omega))
                          have f3 := fun o => fo o _ _ (Hk.out.2.2 c (by omega))
                          have f4 := fun o => fo o _ _ Ha.out.1
                          have f5 := fun o => fo o _ _ (Ha.out.2.2 j (by omega))
                          have g1 := hid Hk.out.1
                          have g2 := hid (Hk.out.2.2 j (by omega))
                          have g3 := hid (Hk.out.2.2 c (by omega))
                          have g4 := hid Ha.out.1
                          have g5 := hid (Ha.out.2.2 j (by omega))
                          clear fo
                          cases hx : R k c with
                          | true =>
                            rw [hx] at d3 hsn f3 g3
                            clear hx
                            generalize R k j = x at *
                            generalize R a j = y at *
                            obtain ⟨z, hz⟩ : ∃ z, z = xor x (true && y) := ⟨_, rfl⟩
                            rw [← hz] at hsn
                            have hz1 : (!(x == y)) = z := by rw [hz]; cases x <;> cases y <;> rfl
                            clear hz
                            go_wp2
                            go_region_held3 (fun w' => w'.cell? ⟨G, k, none⟩ = some (.slice (some ⟨g, 0, none⟩) (d + 1) cg) ∧ w'.cell? ⟨g, j, none⟩ = some (.bool x) ∧ w'.cell? ⟨g, c, none⟩ = some (.bool true) ∧ w'.cell? ⟨G, a, none⟩ = some (.slice (some ⟨ga, 0, none⟩) (d + 1) ca) ∧ w'.cell? ⟨ga, j, none⟩ = some (.bool y)) (first | exact ⟨d1, d2, d3, d4, d5⟩ | exact ⟨f1 _, f2 _, f3 _, f4 _, f5 _⟩ | exact ⟨e1, e2, e3, e4, e5⟩) ((refine step_append_lies _ (by rfl) _ _ _ (by rfl) W2.heap.size 4 i0 (.bool false) 1 1 Try.underlying22 hi hz0 hz1' hz2 rfl (by decide) u17 j _ (by rfl) ((HO.out.alloc _).drew) ⟨wr.heap.size, 0, none⟩ 1 1 [.bool z] (by rfl) (by rfl) (fun j u hj => v_one j u hj) (by simp [Value.oneCell']) (by omega) (by unfold maxLen; omega) (by omega) (by simp; omega) (wr.heap.size + 1) (by simp) ?_; intro g5' c5 w5 hown5 hgrow5 hat5 hlt5; have HO5 := hid hown5; have HB5 := hid (v_snocd HY.out (Nat.le_refl _) HO.out hgrow5); have e1 := KB.out _ HB5.out _ _ g1.out; have e2 := KB.out _ HB5.out _ _ g2.out; have e3 := KB.out _ HB5.out _ _ g3.out; have e4 := KB.out _ HB5.out _ _ g4.out; have e5 := KB.out _ HB5.out _ _ g5.out; clear hown5 hgrow5))
                            go_wp2
                            go_roundw
                            case rel => exact ⟨j + 1, by simp, by omega, by show World.ownsRow _ _ _ _ _ _ _; rw [hsn.out]; exact HO5.out, HB5⟩
                            case measure => simp [intOf]; omega
                          | false =>
                            rw [hx] at d3 hsn f3 g3
                            clear hx
                            generalize R k j = x at *
                            generalize R a j = y at *
                            have hsn2 : Hid (bv (mb (j + 1) (adr (R a) c (R k))) = bv (mb j (adr (R a) c (R k))) ++ [.bool x]) := by
                              show _ = _
                              rw [hsn.out]
                              cases x <;> cases y <;> rfl
                            clear hsn
                            go_wp2
                            refine wp_region_noPanic ?_
                            refine wp_region_held_drew (S := (fun w' => w'.cell? ⟨G, k, none⟩ = some (.slice (some ⟨g, 0, none⟩) (d + 1) cg) ∧ w'.cell? ⟨g, j, none⟩ = some (.bool x) ∧ w'.cell? ⟨g, c, none⟩ = some (.bool false))) (by kernel_rfl) ⟨d1, d2, d3⟩ (fun hHeld => ?_)
                            refine wpAnyH_take (i := 0) (v := ?hv0) rfl (by kernel_rfl) (by kernel_rfl) (by kernel_rfl) (fun _ _ _ h => h) (Or.inl ⟨by rfl, ?hy0⟩) (by assumption) ?_
                            case hy0 => (intro w hSw; (try dsimp only at hSw); go_simp; try with_reducible rfl)
                            try simp only [Act.put]
                            refine wpAnyH_take (i := 1) (v := ?hv1) rfl (by kernel_rfl) (by kernel_rfl) (by kernel_rfl) (fun _ _ _ h => h) (Or.inl ⟨by rfl, ?hy1⟩) (by assumption) ?_
                            case hy1 => (intro w hSw; (try dsimp only at hSw); go_simp; try with_reducible rfl)
                            try simp only [Act.put]
                            refine wpAnyH_take (i := 2) (v := ?hv2) rfl (by kernel_rfl) (by kernel_rfl) (by kernel_rfl) (fun _ _ _ h => h) (Or.inl ⟨by rfl, ?hy2⟩) (by assumption) ?_
                            case hy2 => (intro w hSw; (try dsimp only at hSw); go_simp; try with_reducible rfl)
                            try simp only [Act.put]
                            refine wpAnyH_take (i := 3) (v := ?hv3) rfl (by kernel_rfl) (by kernel_rfl) (by kernel_rfl) (fun _ _ _ h => h) (Or.inl ⟨by rfl, ?hy3⟩) (by assumption) ?_
                            case hy3 => (intro w hSw; (try dsimp only at hSw); go_simp; try with_reducible rfl)
                            try simp only [Act.put]
                            refine wpAnyH_take (i := 4) (v := ?hv4) rfl (by kernel_rfl) (by kernel_rfl) (by kernel_rfl) (fun _ _ _ h => h) (Or.inl ⟨by rfl, ?hy4⟩) (by assumption) ?_
                            case hy4 => (intro w hSw; (try dsimp only at hSw); go_simp; try with_reducible rfl)
                            try simp only [Act.put]
                            refine wpAnyH_take (i := 5) (v := ?hv5) rfl (by kernel_rfl) (by kernel_rfl) (by kernel_rfl) (fun _ _ _ h => h) (Or.inl ⟨by rfl, ?hy5⟩) (by assumption) ?_
                            case hy5 => (intro w hSw; (try dsimp only at hSw); go_simp; try with_reducible rfl)
                            try simp only [Act.put]
                            refine wpAnyH_take (i := 6) (v := ?hv6) rfl (by kernel_rfl) (by kernel_rfl) (by kernel_rfl) (fun _ _ _ h => h) (Or.inl ⟨by rfl, ?hy6⟩) (by assumption) ?_
                            case hy6 => (intro w hSw; (try dsimp only at hSw); go_simp; try with_reducible rfl)
                            try simp only [Act.put]
                            refine wpAnyH_take (i := 7) (v := ?hv7) rfl (by kernel_rfl) (by kernel_rfl) (by kernel_rfl) (fun _ _ _ h => h) (Or.inl ⟨by rfl, ?hy7⟩) (by assumption) ?_
                            case hy7 => (intro w hSw; (try dsimp only at hSw); go_simp; try with_reducible rfl)
                            try simp only [Act.put]
                            refine wpAnyH_take (i := 8) (v := ?hv8) rfl (by kernel_rfl) (by kernel_rfl) (by kernel_rfl) (fun _ _ _ h => h) (Or.inl ⟨by rfl, ?hy8⟩) (by assumption) ?_
                            case hy8 => (intro w hSw; (try dsimp only at hSw); go_simp; try with_reducible rfl)
                            try simp only [Act.put]
                            refine wpAnyH_take (i := 9) (v := ?hv9) rfl (by kernel_rfl) (by kernel_rfl) (by kernel_rfl) (fun _ _ _ h => h) (Or.inl ⟨by rfl, ?hy9⟩) (by assumption) ?_
                            case hy9 => (intro w hSw; (try dsimp only at hSw); go_simp; try with_reducible rfl)
                            try simp only [Act.put]
                            refine wpAnyH_take (i := 10) (v := ?hv10) rfl (by kernel_rfl) (by kernel_rfl) (by kernel_rfl) (fun _ _ _ h => h) (Or.inl ⟨by rfl, ?hy10⟩) (by assumption) ?_
                            case hy10 => (intro w hSw; (try dsimp only at hSw); go_simp; try with_reducible rfl)
                            try simp only [Act.put]
                            refine wpAnyH_take (i := 11) (v := ?hv11) rfl (by kernel_rfl) (by kernel_rfl) (by kernel_rfl) (fun _ _ _ h => h) (Or.inl ⟨by rfl, ?hy11⟩) (by assumption) ?_
                            case hy11 => (intro w hSw; (try dsimp only at hSw); go_simp; try with_reducible rfl)
                            try simp only [Act.put]
                            refine wpAnyH_take (i := 12) (v := ?hv12) rfl (by kernel_rfl) (by kernel_rfl) (by kernel_rfl) (fun _ _ _ h => h) (Or.inl ⟨by rfl, ?hy12⟩) (by assumption) ?_
                            case hy12 => (intro w hSw; (try dsimp only at hSw); go_simp; try with_reducible rfl)
                            try simp only [Act.put]
                            refine wpAnyH_take (i := 13) (v := ?hv13) rfl (by kernel_rfl) (by kernel_rfl) (by kernel_rfl) (fun _ _ _ h => h) (Or.inl ⟨by rfl, ?hy13⟩) (by assumption) ?_
                            case hy13 => (intro w hSw; (try dsimp only at hSw); go_simp; try with_reducible rfl)
                            try simp only [Act.put]
                            refine wpAnyH_take (i := 14) (v := ?hv14) rfl (by kernel_rfl) (by kernel_rfl) (by kernel_rfl) (fun _ _ _ h => h) (Or.inl ⟨by rfl, ?hy14⟩) (by assumption) ?_
                            case hy14 => (intro w hSw; (try dsimp only at hSw); go_simp; try with_reducible rfl)
                            try simp only [Act.put]
                            refine wpAnyH_take (i := 15) (v := ?hv15) rfl (by kernel_rfl) (by kernel_rfl) (by kernel_rfl) (fun _ _ _ h => h) (Or.inl ⟨by rfl, ?hy15⟩) (by assumption) ?_
                            case hy15 => (intro w hSw; (try dsimp only at hSw); go_simp; try with_reducible rfl)
                            try simp only [Act.put]
                            refine wpAnyH_take (i := 16) (v := undef) rfl (by kernel_rfl) (by kernel_rfl) (by kernel_rfl) (fun _ _ _ h => h) (Or.inr ⟨by kernel_rfl, rfl⟩) (by assumption) ?_
                            try simp only [Act.put]
                            refine wpAnyH_take (i := 17) (v := undef) rfl (by kernel_rfl) (by kernel_rfl) (by kernel_rfl) (fun _ _ _ h => h) (Or.inr ⟨by kernel_rfl, rfl⟩) (by assumption) ?_
                            try simp only [Act.put]
                            refine wpAnyH_take (i := 18) (v := undef) rfl (by kernel_rfl) (by kernel_rfl) (by kernel_rfl) (fun _ _ _ h => h) (Or.inr ⟨by kernel_rfl, rfl⟩) (by assumption) ?_
                            try simp only [Act.put]
                            refine wpAnyH_take (i := 19) (v := undef) rfl (by kernel_rfl) (by kernel_rfl) (by kernel_rfl) (fun _ _ _ h => h) (Or.inr ⟨by kernel_rfl, rfl⟩) (by assumption) ?_
                            try simp only [Act.put]
                            refine wpAnyH_take (i := 20) (v := undef) rfl (by kernel_rfl) (by kernel_rfl) (by kernel_rfl) (fun _ _ _ h => h) (Or.inr ⟨by kernel_rfl, rfl⟩) (by assumption) ?_
                            try simp only [Act.put]
                            refine wpAnyH_take (i := 21) (v := undef) rfl (by kernel_rfl) (by kernel_rfl) (by kernel_rfl) (fun _ _ _ h => h) (Or.inr ⟨by kernel_rfl, rfl⟩) (by assumption) ?_
                            try simp only [Act.put]
                            refine wpAnyH_take (i := 22) (v := undef) rfl (by kernel_rfl) (by kernel_rfl) (by kernel_rfl) (fun _ _ _ h => h) (Or.inr ⟨by kernel_rfl, rfl⟩) (by assumption) ?_
                            try simp only [Act.put]
                            refine wpAnyH_take (i := 23) (v := ?hv23) rfl (by kernel_rfl) (by kernel_rfl) (by kernel_rfl) (fun _ _ _ h => h) (Or.inl ⟨by rfl, ?hy23⟩) (by assumption) ?_
                            case hy23 => (intro w hSw; (try dsimp only at hSw); go_simp; try with_reducible rfl)
                            try simp only [Act.put]
                            refine wpAnyH_take (i := 24) (v := ?hv24) rfl (by kernel_rfl) (by kernel_rfl) (by kernel_rfl) (fun _ _ _ h => h) (Or.inl ⟨by rfl, ?hy24⟩) (by assumption) ?_
                            case hy24 => (intro w hSw; (try dsimp only at hSw); go_simp; try with_reducible rfl)
                            try simp only [Act.put]
                            refine wpAnyH_ready (rs := [25]) (by kernel_rfl) (by simp) ?_
                            refine AllReadyH.cons rfl (fun K hK => ?_) AllReadyH.nil
                            go_simp
                            refine hK.out _ _ ⟨f1 _, f2 _, f3 _⟩ (fun hHeld => ?_)
                            clear hK K
                            try simp only [Act.put]
                            refine wpAnyH_ready (rs := [26]) (by kernel_rfl) (by simp) ?_
                            refine AllReadyH.cons rfl (fun K hK => ?_) AllReadyH.nil
                            refine step_append_lies _ (by rfl) _ _ _ (by rfl) W2.heap.size 4 i0 (.bool false) 1 1 Try.underlying22 hi hz0 hz1' hz2 rfl (by decide) u17 j _ (by rfl) ((HO.out.alloc _).drew) ⟨wr.heap.size, 0, none⟩ 1 1 [.bool x] (by rfl) (by rfl) (fun j u hj => v_one j u hj) (by simp [Value.oneCell']) (by omega) (by unfold maxLen; omega) (by omega) (by simp; omega) (wr.heap.size + 1) (by simp) ?_
                            intro g5' c5 w5 hown5 hgrow5 hat5 hlt5
                            have HO5 := hid hown5
                            have HB5 := hid (v_snocd HY.out (Nat.le_refl _) HO.out hgrow5)
                            clear hown5 hgrow5
                            refine hK.out _ _ ⟨KB.out _ HB5.out _ _ g1.out, KB.out _ HB5.out _ _ g2.out, KB.out _ HB5.out _ _ g3.out⟩ (fun hHeld => ?_)
                            clear hK K
                            try simp only [Act.put]
                            refine wpAnyH_take (i := 27) (v := ?hv27) rfl (by kernel_rfl) (by kernel_rfl) (by kernel_rfl) (fun _ _ _ h => h) (Or.inl ⟨by rfl, ?hy27⟩) (by assumption) ?_
                            case hy27 => (intro w hSw; (try dsimp only at hSw); go_simp; try with_reducible rfl)
                            try simp only [Act.put]
                            refine wpAnyH_done (by kernel_rfl) ?_ _
                            refine NoPanic.normal ?_
                            go_wp2
                            go_roundw
                            case rel => exact ⟨j + 1, by simp, by omega, by show World.ownsRow _ _ _ _ _ _ _; rw [hsn2.out]; exact HO5.out, HB5⟩
                            case measure => simp [intOf]; omega
                        · have hgj' : ¬ (j : Int) < (d : Int) + 1 := by omega
                          obtain rfl : j = d + 1 := by omega
                          obtain ⟨gr, cr, hrv, hgr1, hgr2, hcr, hcell⟩ : ∃ gr cr, u17 = Value.slice (some ⟨gr, 0, none⟩) (d + 1) cr ∧ W2.heap.size ≤ gr ∧ gr < wr.heap.size ∧ d + 1 ≤ cr ∧ Hid (∀ i x, (bv (mb (d + 1) (adr (R a) c (R k))))[i]? = some x → wr.cell? ⟨gr, i, none⟩ = some x) := by
                            rcases HO.out.2 with ⟨_, hn⟩ | ⟨gr, cr, cur, e, hb, hg, hnc, hcm, hcs, htake⟩
                            · omega
                            · refine ⟨gr, cr, e, hb, (Array.getElem?_eq_some_iff.1 hg).1, hnc, fun i x hx => ?_⟩
                              have hO := HO.out
                              rw [e] at hO
                              have hi' : i < (d + 1) * 1 := by
                                have := (List.getElem?_eq_some_iff.1 hx).1
                                rw [bv_length, mb_length] at this
                                omega
                              rw [World.ownsRow.cellAt hO i hi']
                              exact hx
                          subst hrv
                          obtain ⟨us, hown, hrows⟩ := HN.out.below HY.out
                          have HLt : Hid (∀ g, u15.ownBlock = some g → W1.heap.size ≤ g ∧ g < W2.heap.size) := by
                            obtain ⟨us1, hown1, _⟩ := HN.out
                            exact hown1.lt
                          have HV := hid hown
                          have HRs := hid hrows
                          have hYs := HY.out.size
                          have hXs := HX.out.size
                          clear HO hown hrows
                          go_wp2_with (at_builtin; refine wpList_append_own0 _ rfl _ _ 47 rfl W1.heap.size 22 i1 (.slice none 0 0) 1 24 Try.underlying47 gi gz0 gz1 gz2 rfl (by decide) _ q _ rfl (HV.out.alloc _) ⟨wr.heap.size, 0, none⟩ 1 1 [.slice (some ⟨gr, 0, none⟩) (d + 1) cr] rfl rfl v_one (by simp [Value.oneCell']) (by omega) (by unfold maxLen; omega) (by omega) (by simp; omega) ?_
                                       intro g5' cap5 w5 hown5 hgrow5 hor5 hg5
                                       have HO5 := hid hown5
                                       have HG5 := hid hgrow5
                                       have HR5 := hid hor5
                                       have HB5 := hid (v_snoc (below_trans HX.out HY.out) (Nat.le_refl _) HV.out hgrow5)
                                       clear hown5 hgrow5 hor5)
                          have hrowq : Hid (VAt wr u15.ownBlock (some (.slice (some ⟨gr, 0, none⟩) (d + 1) cr)) (bv (mb (d + 1) (nxt R a c q)))) := by
                            refine ⟨gr, cr, by rw [bv_length, mb_length], by rw [bv_length, mb_length]; exact hcr, fun e => ?_, hgr2, fun i x hx => ?_⟩
                            · have := HLt.out gr e
                              omega
                            · rw [HNk.out] at hx
                              exact hcell.out i x hx
                          have HF := hid (VTab.snoc HV.out HRs.out hrowq.out HO5.out HG5.out HR5.out)
                          go_roundw
                          case rel => exact ⟨k + 1, q + 1, by simp, by omega, HQ2, HF, HB5⟩
                          case measure => exact measK hgk
                  · have hgk' : ¬ (k : Int) < (K : Int) := by omega
                    obtain rfl : K = k := by omega
                    have hq : q = K - 1 := by have := HQ.out; omega
                    subst hq
                    have HN2 : Hid (TabR wr w.heap.size u15 (K - 1) d (nxt R a c)) := by
                      obtain ⟨us, h1, h2⟩ := HN.out
                      exact ⟨us, v_mono h1 HB.out.size, h2⟩
                    have HB2 := hid (below_trans HB.out HX.out)
                    clear HN
                    go_wp2
                    go_roundw
                    case rel => exact ⟨c + 1, K - 1, nxt R a c, by simp, by omega, by omega, HN2, HR2, HZ2, HB2⟩
                    case measure => exact measK hgc
        · have hgc' : ¬ (c : Int) < (d : Int) := by omega
          obtain rfl : d = c := by omega
          have HE := hid (HR.out.trans (sol_end HZ.out))
          clear HR HZ
          go_wp2
          go_loop [153] (fun i => ∃ k : Nat, i = .int .i64 (k : Int) ∧ k ≤ K ∧ Hid (∀ j, j < k → R j d = false)) (fun i => ((K : Int) - intOf i).toNat)
          case atStart => exact ⟨0, rfl, by omega, fun j hj => by omega⟩
          case round =>
            obtain ⟨k, rfl, hk, HF⟩ := hrel
            by_cases hgk : k < K
            · have hgk' : (k : Int) < (K : Int) := by omega
              obtain ⟨G, C', e, g, cc, hrow⟩ := HT.out.at hgk
              obtain ⟨rfl, rfl⟩ : ao = some ⟨G, 0, none⟩ ∧ C = C' := ⟨(Value.slice.inj e).1, (Value.slice.inj e).2.2⟩
              have c1 := hrow.1
              have c2 := hrow.2.2 d (by omega)
              clear e hrow
              cases hx : R k d with
              | false =>
                rw [hx] at c2
                have HF2 : Hid (∀ j, j < k + 1 → R j d = false) := fun j hj => by
                  by_cases e : j = k
                  · rw [e]; exact hx
                  · exact HF.out j (by omega)
                clear hx
                go_wp2
                go_round
                case rel => exact ⟨k + 1, by simp, by omega, HF2⟩
                case measure => exact measK hgk
              | true =>
                rw [hx] at c2
                have e : Hid (false = r) := by
                  show false = r
                  cases r with
                  | false => rfl
                  | true =>
                    have := HE.out.1 rfl k hgk
                    rw [hx] at this; cases this
                clear hx
                go_wp2
                go_ret
                exact ⟨ret_bool e.out, HB.out⟩
            · have hgk' : ¬ (k : Int) < (K : Int) := by omega
              obtain rfl : K = k := by omega
              have e : Hid (true = r) := (HE.out.2 HF.out).symm
              go_wp2
              go_ret
              exact ⟨ret_bool e.out, HB.out⟩

end Go.Proofs.Ytfomanpehfdnbaa.Calls122
