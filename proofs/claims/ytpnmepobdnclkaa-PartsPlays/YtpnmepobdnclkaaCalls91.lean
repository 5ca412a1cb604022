/-
  Package share: what points have in common at 0; and the document's answer.
-/
import Derived.Test.YtpnmepobdnclkaaCalls72
import Derived.Test.YtpnmepobdnclkaaCalls73
import Derived.Test.YtpnmepobdnclkaaCalls88
import Derived.Test.YtpnmepobdnclkaaCalls61
namespace Go.Proofs.Ytpnmepobdnclkaa.Calls91
set_option linter.unusedVariables false
open Go.ChangeShapes Go.WideShapes Go.ChangeAt Go.RowKit Go.Deep Go.Proofs.Ytpnmepobdnclkaa.Base Go.Proofs.Ytpnmepobdnclkaa.Base2 Go.Proofs.Ytpnmepobdnclkaa.Num Go.Proofs.Ytpnmepobdnclkaa.Num7 Go.Proofs.Ytpnmepobdnclkaa.Num13 Go.Proofs.Ytpnmepobdnclkaa.Num16 Go.Proofs.Ytpnmepobdnclkaa.Num17 Go.Proofs.Ytpnmepobdnclkaa.Num34 Go.Proofs.Ytpnmepobdnclkaa.Num35 Go.Proofs.Ytpnmepobdnclkaa.Num39 Go.Proofs.Ytpnmepobdnclkaa.Base4 Go.Proofs.Ytpnmepobdnclkaa.Calls56 Go.Proofs.Ytpnmepobdnclkaa.Calls57 Go.Proofs.Ytpnmepobdnclkaa.Calls58 Go.Proofs.Ytpnmepobdnclkaa.Calls61 Go.Proofs.Ytpnmepobdnclkaa.Calls67 Go.Proofs.Ytpnmepobdnclkaa.Calls69

open Go.Proofs.Ytpnmepobdnclkaa.Calls71 (al)
open Go.Proofs.Ytpnmepobdnclkaa.Calls73 (Through_bad Through_yes ThrE dist_of)
open Go.Proofs.Ytpnmepobdnclkaa.Calls87 (lies_of pb ib)
open Go.Proofs.Ytpnmepobdnclkaa.Calls19 (refMod_at)

/-- No point lies at 0. -/
def NoZ (l : List (Int × Int)) (k : Nat) : Prop := ∀ j, j < k → px l j ≠ 0

/-- The code of points that are to be joined. -/
def JnC (p : Int) (l : List (Int × Int)) (c : Int) : Prop := (PtC p l c ∧ c ≠ 0) ∨ (PtC p l 0 ∧ ((¬ NoZ l l.length ∧ c = 3) ∨ (NoZ l l.length ∧ c = 0)))

theorem jnc_ex (p : Int) (l : List (Int × Int)) : ∃ c, JnC p l c := by
  obtain ⟨c, hc⟩ := ptc_ex p l
  by_cases h0 : c = 0
  · subst h0
    rcases Classical.em (NoZ l l.length) with h | h
    · exact ⟨0, .inr ⟨hc, .inr ⟨h, rfl⟩⟩⟩
    · exact ⟨3, .inr ⟨hc, .inl ⟨h, rfl⟩⟩⟩
  · exact ⟨c, .inl ⟨hc, h0⟩⟩

theorem JnC.ok {p : Int} {l : List (Int × Int)} (h : JnC p l 0) : PtC p l 0 ∧ NoZ l l.length := by
  rcases h with ⟨_, h⟩ | ⟨h, ⟨_, h2⟩ | ⟨h2, _⟩⟩
  · exact absurd rfl h
  · cases h2
  · exact ⟨h, h2⟩

theorem Join1_any (x y : Int) (w : World) :
    Calls Try.prog 48 #[.agg #[.int .i64 x, .int .i64 y]] w fun e w' => e = .returned (.bool (x == 0)) ∧ Below w.heap.size w w' := by
  have hb1 := hid ((Below.refl _ w).alloc (Nat.le_refl _) (.cells #[.int .i64 x, .int .i64 y] 30))
  go_enter Try.func48, Try.ntmps48
  go_wp2
  go_ret
  exact ⟨rfl, hb1.out⟩

/-- What IndexFunc answers: a place, or -1. -/
def SeenZ (l : List (Int × Int)) (e : Ending) : Prop := (∃ k : Nat, ¬ NoZ l l.length ∧ e = .returned (.int .i64 (k : Int))) ∨ (NoZ l l.length ∧ e = .returned (.int .i64 (-1)))

set_option maxRecDepth 100000 in
theorem jnIndex_any (ao : Option Addr) (cap : Nat) (l : List (Int × Int)) (hl : l.length ≤ 1048576) (w : World) (hrow : PRow w ao l) :
    Calls Try.prog 65 #[.slice ao l.length cap, .func (.func 48) #[] #[]] w fun e w' => SeenZ l e ∧ Below w.heap.size w w' := by
  obtain ⟨N, hN⟩ : ∃ N, N = l.length := ⟨_, rfl⟩
  have HN : Hid (N = l.length) := hN
  rw [← hN] at hl ⊢
  clear hN
  go_enter Try.func65, Try.ntmps65
  go_wp2
  go_loopw [8] (fun i wr => ∃ k : Nat, i = .int .i64 (k : Int) ∧ k ≤ N ∧ Hid (NoZ l k) ∧ Hid (Below w.heap.size w wr)) (fun i wr => ((N : Int) - intOf i).toNat)
  case atStart => exact ⟨0, rfl, by omega, fun j hj => absurd hj (by omega), Below.refl _ _⟩
  case round =>
    obtain ⟨k, rfl, hk, hI, hBr⟩ := hrel
    by_cases hgo : k < N
    · have hgo' : (k : Int) < (N : Int) := by omega
      have hkl : Hid (k < l.length) := by have := HN.out; show k < l.length; omega
      rcases ao with _ | ad
      · exact (prow_none hrow hkl.out).elim
      · obtain ⟨c1, c2⟩ := pcell (pb hrow hBr.out) hkl.out
        have cC := Join1_any (px l k) (py l k) wr
        by_cases hz : px l k = 0
        · have hno : Hid (¬ NoZ l l.length) := fun h => h k hkl.out hz
          rw [show (px l k == 0) = true by simpa using hz] at cC
          generalize px l k = x at *
          generalize py l k = y at *
          clear hz
          go_wp2_with (go_at_call 48; refine cC.mono ?_; rintro e w1 ⟨rfl, hB1⟩)
          go_ret
          exact ⟨.inl ⟨k, hno.out, rfl⟩, below_trans hBr.out hB1⟩
        · have hI2 : Hid (NoZ l (k + 1)) := fun j hj => by
            by_cases e : j = k
            · subst e; exact hz
            · exact hI.out j (by omega)
          rw [show (px l k == 0) = false by simpa using hz] at cC
          generalize px l k = x at *
          generalize py l k = y at *
          clear hz
          go_wp2_with (go_at_call 48; refine cC.mono ?_; rintro e w1 ⟨rfl, hB1⟩)
          go_roundw
          case rel => exact ⟨k + 1, by simp, by omega, hI2, below_trans hBr.out hB1⟩
          case measure => exact measK hgo
    · have hgo' : ¬ (k : Int) < (N : Int) := by omega
      obtain rfl : k = N := by omega
      go_wp2
      go_ret
      exact ⟨.inr ⟨by rw [← HN.out]; exact hI.out, rfl⟩, hBr.out⟩

theorem jnContains_any (ao : Option Addr) (cap : Nat) (l : List (Int × Int)) (hl : l.length ≤ 1048576) (b : Bool) (hb : b = false ↔ NoZ l l.length) (w : World) (hrow : PRow w ao l) :
    Calls Try.prog 47 #[.slice ao l.length cap, .func (.func 48) #[] #[]] w fun e w' => e = .returned (.bool b) ∧ Below w.heap.size w w' := by
  have cF := jnIndex_any ao cap l hl w hrow
  cases b with
  | true =>
    have cI := cF.mono (R' := fun e w1 => (∃ k : Nat, e = .returned (.int .i64 (k : Int))) ∧ Below w.heap.size w w1) (fun e w1 h => ⟨by
      rcases h.1 with ⟨k, _, e⟩ | ⟨h, _⟩
      · exact ⟨k, e⟩
      · exact absurd (hb.2 h) (by decide), h.2⟩)
    clear cF hb hrow
    go_enter Try.func47, Try.ntmps47
    go_wp2_with (go_at_call 65; refine cI.mono ?_; rintro e w1 ⟨⟨k, rfl⟩, hB1⟩)
    go_ret
    exact ⟨ret_bool (by simp), hB1⟩
  | false =>
    have hI := hb.1 rfl
    have cI := cF.mono (R' := fun e w1 => e = .returned (.int .i64 (-1)) ∧ Below w.heap.size w w1) (fun e w1 h => ⟨by
      rcases h.1 with ⟨k, h1, e⟩ | ⟨_, e⟩
      · exact absurd hI h1
      · exact e, h.2⟩)
    clear cF hb hrow hI
    go_enter Try.func47, Try.ntmps47
    go_wp2_with (go_at_call 65; refine cI.mono ?_; rintro e w1 ⟨rfl, hB1⟩)
    go_ret
    exact ⟨rfl, hB1⟩

/-- Join has returned. -/
def JoinE (p : Int) (l : List (Int × Int)) (c : Int) (e : Ending) : Prop := ∃ v : Int, e = .returned (.tuple #[.int .i64 v, .int .i64 c]) ∧ (c ≠ 0 → v = 0) ∧ (c = 0 → JoinIs p.toNat (px l) (py l) l.length v)

set_option maxRecDepth 100000 in
theorem Join_any (p : Int) (ao : Option Addr) (cap : Nat) (l : List (Int × Int)) (hm : l.length ≤ 9223372036854775807) (c : Int) (hc : JnC p l c) (w : World) (hrow : PRow w ao l) :
    Calls Try.prog 37 #[.int .i64 p, .slice ao l.length cap] w fun e w' => JoinE p l c e ∧ Below w.heap.size w w' := by
  rcases hc with ⟨hc, h0⟩ | ⟨hc, hz⟩
  · have cT := Through_bad p ao cap l hm c hc h0 w hrow (lies_of hrow)
    have hE : Hid (JoinE p l c (.returned (.tuple #[.int .i64 0, .int .i64 c]))) := ⟨0, rfl, fun _ => rfl, fun h => absurd h h0⟩
    have h1 : (c != 0) = true := by simpa using h0
    have h2 : (c == 0) = false := by simpa using h0
    generalize l.length = n at *
    clear hc hrow
    go_enter Try.func37, Try.ntmps37
    go_wp2_with (go_at_call 46; refine cT.mono ?_; rintro e w1 ⟨rfl, hB⟩)
    go_ret2
    exact ⟨hE.out, hB⟩
  · obtain ⟨P, rfl, hP, hP2, hl, hI, hD⟩ := hc.ok
    have cT := Through_yes P hP hP2 ao cap l hl hI hD hc w hrow (lies_of hrow)
    have hp1 : 1 ≤ P := by have := hP.1; omega
    rcases hz with ⟨hz, rfl⟩ | ⟨hz, rfl⟩
    · have cC := fun w' (hB : Below w.heap.size w w') => jnContains_any ao cap l (by omega) true (by simp [hz]) w' (pb hrow hB)
      have hE : Hid (JoinE (P : Int) l 3 (.returned (.tuple #[.int .i64 0, .int .i64 3]))) := ⟨0, rfl, fun _ => rfl, fun h => absurd h (by decide)⟩
      obtain ⟨n, hn⟩ : ∃ n, n = l.length := ⟨_, rfl⟩
      simp only [← hn] at cT cC ⊢
      clear hc hrow hI hD hz hn hl hm
      go_enter Try.func37, Try.ntmps37
      go_wp2_with (first
        | (go_at_call 46; refine cT.mono ?_; rintro e w1 ⟨⟨a, ha, o1, c1, rfl, hc1, hr1⟩, hB⟩; clear ha hr1)
        | (go_at_call 47; refine (cC _ hB).mono ?_; rintro e w2 ⟨rfl, hB2⟩))
      go_ret2
      exact ⟨hE.out, below_trans hB hB2⟩
    · have cC := fun w' (hB : Below w.heap.size w w') => jnContains_any ao cap l (by omega) false (by simp [hz]) w' (pb hrow hB)
      have cA := fun a (ha : ThrIs P (px l) (py l) l.length a) o1 c1 w' (r : IRow w' o1 a) => At_yes P hP hP2 o1 c1 a (by have := ha.2.1; omega) ha.1 0 ⟨by omega, by omega⟩ w' r
      have hE : Hid (∀ a, ThrIs P (px l) (py l) l.length a → JoinE (P : Int) l 0 (.returned (.tuple #[.int .i64 (rs (ev a 0) P : Int), .int .i64 0]))) := fun a ha => ⟨_, rfl, fun h => absurd rfl h, fun _ => ⟨a, by rw [Int.toNat_natCast]; exact ha, by rw [Int.toNat_natCast]; exact rs_cast _ hp1⟩⟩
      obtain ⟨n, hn⟩ : ∃ n, n = l.length := ⟨_, rfl⟩
      unfold ThrE at cT
      simp only [← hn] at cT cC cA hE ⊢
      clear hc hrow hI hD hz hn hl hm
      go_enter Try.func37, Try.ntmps37
      go_wp2_with (first
        | (go_at_call 46; refine cT.mono ?_; rintro e w1 ⟨⟨a, ha, o1, c1, rfl, hc1, hr1⟩, hB⟩; have HA := hid ha; have R1 := hid hr1; clear ha hr1)
        | (go_at_call 47; refine (cC _ hB).mono ?_; rintro e w2 ⟨rfl, hB2⟩; have cA1 := cA a HA.out o1 c1 w2 (ib R1.out hB2))
        | (go_at_call 49; refine cA1.mono ?_; rintro e w3 ⟨rfl, hB3⟩))
      go_ret2
      exact ⟨hE.out a HA.out, below_trans (below_trans hB hB2) hB3⟩

/-! ### the document's -/

theorem lagK_bd {p : Nat} (hp : 1 ≤ p) {X : Nat → Int} {i j : Nat} {y k : Int} (h : LagK p X i y j k) : 0 ≤ k ∧ k < (p : Int) := by
  obtain ⟨o, _, e⟩ := h
  rw [e]; exact mod_bd hp _

theorem lagS_bd {p : Nat} (hp : 1 ≤ p) {X Y : Nat → Int} {n i : Nat} {s : Int} (h : LagS p X Y n i s) : 0 ≤ s ∧ s < (p : Int) := by
  obtain ⟨o, _, e⟩ := h
  rw [e]; exact mod_bd hp _

set_option maxRecDepth 100000 in
set_option maxHeartbeats 2000000 in
theorem refJoin_any (P : Nat) (hP : Pr P) (hP2 : P ≤ 251) (ao : Option Addr) (cap : Nat) (l : List (Int × Int)) (hl : l.length ≤ 13) (hI : InP (P : Int) l l.length) (hD : Dis l l.length) (v : Int) (hv : JoinIs P (px l) (py l) l.length v) (w : World) (hrow : PRow w ao l) :
    Calls Try.prog 11 #[.int .i64 (P : Int), .slice ao l.length cap] w fun e w' => e = .returned (.int .i64 v) ∧ Below w.heap.size w w' := by
  have hp2 := hP.1
  have hp1 : 1 ≤ P := by omega
  have hp0 : ¬ (P : Int) = 0 := by omega
  have HDist := hid (dist_of hI hD)
  have HI := hid hI
  obtain ⟨N, hN⟩ : ∃ N, N = l.length := ⟨_, rfl⟩
  have HN : Hid (N = l.length) := hN
  have HV : Hid (∀ s, LagS P (px l) (py l) N N s → s = v) := fun s h => by
    rw [hN] at h
    exact JoinIs.uniq hP (dist_of hI hD) h.done hv
  have cM := fun (x : Int) w => refMod_at x P w hp1 (by omega)
  have cV := fun (x : Int) w => refInv_any P hp2 hP2 x w
  rw [← hN] at hl ⊢
  clear hN hI hD hv
  go_enter Try.func11, Try.ntmps11
  go_wp2
  go_loopw [5, 6] (fun vs vi wr => ∃ (i : Nat) (s : Int), vs = .int .i64 s ∧ vi = .int .i64 (i : Int) ∧ i ≤ N ∧ (0 ≤ s ∧ s < (P : Int)) ∧ Hid (LagS P (px l) (py l) N i s) ∧ ∃ d, wr = w.drewN d) (fun vs vi wr => ((N : Int) - intOf vi).toNat)
  case atStart => exact ⟨0, 0, rfl, rfl, by omega, ⟨by omega, by omega⟩, LagS.start P (px l) (py l) N, 0, rfl⟩
  case round =>
    obtain ⟨i, s, rfl, rfl, hi, hs, HS, d, rfl⟩ := hrel
    by_cases hgi : i < N
    · have hgi' : (i : Int) < (N : Int) := by omega
      have hil : Hid (i < l.length) := by have := HN.out; show i < l.length; omega
      rcases ao with _ | ad
      · exact (prow_none hrow hil.out).elim
      · obtain ⟨e1, e2⟩ := pcell hrow hil.out
        obtain ⟨hxi, hyi⟩ := HI.out i hil.out
        have HK0 : Hid (LagK P (px l) i (py l i) 0 (py l i)) := LagK.start (px l) i hyi
        have HS2 := hid (fun k hk => HS.out.next hp1 hgi (k := k) hk)
        obtain ⟨y, hy⟩ : ∃ y, y = py l i := ⟨_, rfl⟩
        have HYI := hid hy
        rw [← hy] at e2 HK0 hyi
        obtain ⟨xi, hxe⟩ : ∃ xi, xi = px l i := ⟨_, rfl⟩
        have HXI := hid hxe
        rw [← hxe] at e1 hxi
        clear hy hxe
        go_wp2
        go_loopw [7, 8] (fun vk vj wr => ∃ (j : Nat) (k : Int), vk = .int .i64 k ∧ vj = .int .i64 (j : Int) ∧ j ≤ N ∧ (0 ≤ k ∧ k < (P : Int)) ∧ Hid (LagK P (px l) i y j k) ∧ ∃ d, wr = w.drewN d) (fun vk vj wr => ((N : Int) - intOf vj).toNat)
        case atStart => exact ⟨0, y, rfl, rfl, by omega, hyi, HK0, d, rfl⟩
        case round =>
          obtain ⟨j, k, rfl, rfl, hj, hk, HK, d', rfl⟩ := hrel
          by_cases hgj : j < N
          · have hgj' : (j : Int) < (N : Int) := by omega
            by_cases hji : j = i
            · subst hji
              have hne : ((j : Int) != (j : Int)) = false := by simp
              have HK2 := hid HK.out.skip
              go_wp2
              go_roundw
              case rel => exact ⟨j + 1, k, rfl, by simp, by omega, hk, HK2, d', rfl⟩
              case measure => exact measK hgj
            · have hne : ((j : Int) != (i : Int)) = true := by simp; omega
              have hjl : Hid (j < l.length) := by have := HN.out; show j < l.length; omega
              have f2 := (pcell hrow hjl.out).1
              have hxj := (HI.out j hjl.out).1
              have hd : ¬ (P : Int) ∣ px l i - px l j := by
                rcases Nat.lt_or_ge i j with h | h
                · exact fun hd => HDist.out j i hjl.out h (cong_sy hd)
                · exact HDist.out i j hil.out (by omega)
              have HK2 := hid (HK.out.next hP hji hd)
              have hk2 := lagK_bd hp1 HK2.out
              rw [← HXI.out] at HK2 hk2
              have hu : 0 ≤ (iv P (rs (px l j - xi) P : Int) : Int) ∧ (iv P (rs (px l j - xi) P : Int) : Int) < (P : Int) := ⟨by omega, by have := iv_lt hp1 (rs (px l j - xi) P : Int); omega⟩
              have cM1 := fun w => cM (px l j - xi) w
              have cV1 := fun w => cV (rs (px l j - xi) P : Int) w
              clear hd
              generalize px l j = xj at *
              have b1 := mul_bd hk hxj hP2
              have hq := mod_bd hp1 (k * xj)
              generalize (iv P (rs (xj - xi) P : Int) : Int) = u at *
              generalize (rs (xj - xi) P : Int) = r at *
              have b2 := mul_bd hq hu hP2
              obtain ⟨q, hqe⟩ : ∃ q, k * xj % (P : Int) = q := ⟨_, rfl⟩
              rw [hqe] at b2 hq HK2 hk2
              obtain ⟨k2, hke⟩ : ∃ k2, q * u % (P : Int) = k2 := ⟨_, rfl⟩
              rw [hke] at HK2 hk2
              obtain ⟨b11, b12⟩ := b1
              obtain ⟨b21, b22⟩ := b2
              clear cM cV
              go_wp2
              go_quiet (first | (go_at_call 24; exact quiet_at (cM1 _)) | (go_at_call 23; exact quiet_at (cV1 _)))
              go_wp2
              go_roundw
              case rel => exact ⟨j + 1, k2, by first | rfl | rw [hke] | rw [hqe, hke], by simp, by omega, hk2, HK2, _, rfl⟩
              case measure => exact measK hgj
          · have hgj' : ¬ (j : Int) < (N : Int) := by omega
            obtain rfl : j = N := by omega
            have HS3 := hid (HS2.out k (by have := HK.out; rw [HYI.out] at this; exact this))
            have hs3 := lagS_bd hp1 HS3.out
            have b1 : 0 ≤ s + k ∧ s + k ≤ 1048576 := by omega
            obtain ⟨b11, b12⟩ := b1
            obtain ⟨s2, hse⟩ : ∃ s2, (s + k) % (P : Int) = s2 := ⟨_, rfl⟩
            rw [hse] at HS3 hs3
            go_wp2
            go_roundw
            case rel => exact ⟨i + 1, s2, by first | rfl | rw [hse], by simp, by omega, hs3, HS3, d', rfl⟩
            case measure => exact measK hgi
    · have hgi' : ¬ (i : Int) < (N : Int) := by omega
      obtain rfl : i = N := by omega
      obtain rfl : s = v := HV.out s HS.out
      go_wp2
      go_ret
      exact ⟨rfl, below_drewN (Below.refl _ _) _⟩

end Go.Proofs.Ytpnmepobdnclkaa.Calls91
