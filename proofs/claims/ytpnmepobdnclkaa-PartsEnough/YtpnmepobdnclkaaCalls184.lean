/-
  Package parts: what all shares have in common; sums of shares.
-/
import Derived.Test.YtpnmepobdnclkaaCalls183
import Derived.Test.YtpnmepobdnclkaaCalls91
import Derived.Test.YtpnmepobdnclkaaFoldD
namespace Go.Proofs.Ytpnmepobdnclkaa.Calls184
set_option linter.unusedVariables false
open Go.ChangeShapes Go.WideShapes Go.ChangeAt Go.RowKit Go.Deep Go.Proofs.Ytpnmepobdnclkaa.Base Go.Proofs.Ytpnmepobdnclkaa.Base2 Go.Proofs.Ytpnmepobdnclkaa.Num Go.Proofs.Ytpnmepobdnclkaa.Num13 Go.Proofs.Ytpnmepobdnclkaa.Num16 Go.Proofs.Ytpnmepobdnclkaa.Num17 Go.Proofs.Ytpnmepobdnclkaa.Num34 Go.Proofs.Ytpnmepobdnclkaa.Num35 Go.Proofs.Ytpnmepobdnclkaa.Num39 Go.Proofs.Ytpnmepobdnclkaa.Num61 Go.Proofs.Ytpnmepobdnclkaa.Num69 Go.Proofs.Ytpnmepobdnclkaa.Num70 Go.Proofs.Ytpnmepobdnclkaa.Base4 Go.Proofs.Ytpnmepobdnclkaa.Calls56 Go.Proofs.Ytpnmepobdnclkaa.Calls57 Go.Proofs.Ytpnmepobdnclkaa.Calls69 Go.Proofs.Ytpnmepobdnclkaa.Calls87 Go.Proofs.Ytpnmepobdnclkaa.Calls182 Go.Proofs.Ytpnmepobdnclkaa.Calls183
open Go.Proofs.Ytpnmepobdnclkaa.Calls71 (al)
open Go.Proofs.Ytpnmepobdnclkaa.Calls90 (InM)
open Go.Proofs.Ytpnmepobdnclkaa.Calls91 (JoinE JnC Join_any NoZ)
open Go.Proofs.Ytpnmepobdnclkaa.Calls58 (below_set)
open Go.Proofs.Ytpnmepobdnclkaa.Calls59 (own1_made)

/-! ### an own row of points, written by index -/

/-- Points by two functions. -/
def mp (n : Nat) (X Y : Nat → Int) : List (Int × Int) := (List.range n).map fun j => (X j, Y j)

theorem mp_length (n : Nat) (X Y : Nat → Int) : (mp n X Y).length = n := by simp [mp]
theorem mp_get {n j : Nat} {X Y : Nat → Int} (h : j < n) : (mp n X Y).getD j (0, 0) = (X j, Y j) := by simp [mp, List.getD, h]
theorem mp_px {n j : Nat} {X Y : Nat → Int} (h : j < n) : px (mp n X Y) j = X j := by unfold px; rw [mp_get h]
theorem mp_py {n j : Nat} {X Y : Nat → Int} (h : j < n) : py (mp n X Y) j = Y j := by unfold py; rw [mp_get h]

def OwnP (W : World) (base g n cap : Nat) (X Y : Nat → Int) : Prop := W.ownsRow base 30 2 (.slice (some ⟨g, 0, none⟩) n cap) n (flatP (mp n X Y))

theorem flatP_at {l : List (Int × Int)} {i : Nat} (h : i < l.length * 2) : (flatP l)[i]? = some (if i % 2 = 0 then .int .i64 (l.getD (i / 2) (0, 0)).1 else .int .i64 (l.getD (i / 2) (0, 0)).2) := by
  obtain ⟨h1, h2⟩ := flatP_get l (i / 2) (by omega)
  by_cases e : i % 2 = 0
  · rw [if_pos e]
    rwa [show i / 2 * 2 = i by omega] at h1
  · rw [if_neg e]
    rwa [show i / 2 * 2 + 1 = i by omega] at h2

theorem flatP_set (n : Nat) (X Y : Nat → Int) (k : Nat) (x y : Int) : ((flatP (mp n X Y)).set (k * 2) (.int .i64 x)).set (k * 2 + 1) (.int .i64 y) = flatP (mp n (up1 X k x) (up1 Y k y)) := by
  apply List.ext_getElem?
  intro i
  by_cases hi : i < n * 2
  · rw [flatP_at (l := mp n (up1 X k x) (up1 Y k y)) (by rw [mp_length]; exact hi), mp_get (by omega), List.getElem?_set, List.getElem?_set]
    have hl : ((flatP (mp n X Y)).set (k * 2) (.int .i64 x)).length = n * 2 := by rw [List.length_set, flatP_length, mp_length]
    have hl2 : (flatP (mp n X Y)).length = n * 2 := by rw [flatP_length, mp_length]
    rw [hl, hl2]
    by_cases e1 : k * 2 + 1 = i
    · rw [if_pos e1, if_pos (by omega), if_neg (by omega)]
      show some (Value.int .i64 y) = some (.int .i64 (up1 Y k y (i / 2)))
      rw [show i / 2 = k by omega, up1_self]
    · rw [if_neg e1]
      by_cases e2 : k * 2 = i
      · rw [if_pos e2, if_pos (by omega), if_pos (by omega)]
        show some (Value.int .i64 x) = some (.int .i64 (up1 X k x (i / 2)))
        rw [show i / 2 = k by omega, up1_self]
      · rw [if_neg e2, flatP_at (by rw [mp_length]; exact hi), mp_get (by omega)]
        show some _ = some (if i % 2 = 0 then Value.int .i64 (up1 X k x (i / 2)) else .int .i64 (up1 Y k y (i / 2)))
        rw [up1_other _ _ (show i / 2 ≠ k by omega), up1_other _ _ (show i / 2 ≠ k by omega)]
  · rw [List.getElem?_eq_none (by rw [List.length_set, List.length_set, flatP_length, mp_length]; omega), List.getElem?_eq_none (by rw [flatP_length, mp_length]; omega)]

theorem OwnP.cell {W : World} {base g n cap : Nat} {X Y : Nat → Int} (h : OwnP W base g n cap X Y) {i : Nat} (hi : i < n) : W.cell? ⟨g, i * 2, none⟩ = some (.int .i64 (X i)) ∧ W.cell? ⟨g, i * 2 + 1, none⟩ = some (.int .i64 (Y i)) := by
  obtain ⟨h1, h2⟩ := flatP_get (mp n X Y) i (by rw [mp_length]; exact hi)
  rw [mp_get hi] at h1 h2
  exact ⟨(World.ownsRow.cellAt h (i * 2) (by omega)).trans h1, (World.ownsRow.cellAt h (i * 2 + 1) (by omega)).trans h2⟩

theorem OwnP.frozen {W : World} {base g n cap : Nat} {X Y : Nat → Int} (h : OwnP W base g n cap X Y) (i : Nat) : W.frozen? ⟨g, i, none⟩ = false := World.ownsRow.frozenAt h i

theorem OwnP.lt {W : World} {base g n cap : Nat} {X Y : Nat → Int} (h : OwnP W base g n cap X Y) : base ≤ g ∧ g < W.heap.size := World.ownsRow.lt h g rfl

theorem OwnP.set {W : World} {base g n cap : Nat} {X Y : Nat → Int} (h : OwnP W base g n cap X Y) (k : Nat) (x y : Int) : OwnP ((W.setCell ⟨g, k * 2, none⟩ (.int .i64 x)).setCell ⟨g, k * 2 + 1, none⟩ (.int .i64 y)) base g n cap (up1 X k x) (up1 Y k y) := by
  have h1 := (World.ownsRow.stored h (k * 2) (.int .i64 x)).1
  have h2 := (World.ownsRow.stored h1 (k * 2 + 1) (.int .i64 y)).1
  rw [flatP_set] at h2
  exact h2

theorem OwnP.congr {W : World} {base g n cap : Nat} {X Y X' Y' : Nat → Int} (h : OwnP W base g n cap X Y) (e : X = X') (e' : Y = Y') : OwnP W base g n cap X' Y' := e ▸ e' ▸ h

theorem OwnP.below {W W' : World} {base g n cap : Nat} {X Y : Nat → Int} (h : OwnP W base g n cap X Y) (hb : Below W.heap.size W W') : OwnP W' base g n cap X Y := owns_below h hb

theorem made_points (n : Nat) : (madeCells (Value.agg #[.int .i64 0, .int .i64 0]).cells (n * 2)).toList = flatP (mp n (fun _ => 0) (fun _ => 0)) := by
  apply List.ext_getElem?
  intro i
  by_cases hi : i < n * 2
  · rw [flatP_at (by rw [mp_length]; exact hi), mp_get (by omega)]
    have h2 : i % 2 < 2 := Nat.mod_lt _ (by decide)
    have hc : (Value.agg #[.int .i64 0, .int .i64 0]).cells = #[.int .i64 0, .int .i64 0] := by kernel_rfl
    rw [hc]
    unfold madeCells
    rw [Array.toList_map, List.getElem?_map, Array.toList_range, List.getElem?_range hi]
    show some ((#[Value.int .i64 0, Value.int .i64 0] : Array Value)[i % 2]!) = _
    rcases (by omega : i % 2 = 0 ∨ i % 2 = 1) with e | e <;> rw [e] <;> rfl
  · rw [List.getElem?_eq_none (by rw [Array.length_toList, size_madeCells]; omega), List.getElem?_eq_none (by rw [flatP_length, mp_length]; omega)]

theorem ownP_made {W : World} {base g n : Nat} (h : W.ownsRow base 30 2 (.slice (some ⟨g, 0, none⟩) n n) n (madeCells (Value.agg #[.int .i64 0, .int .i64 0]).cells (n * 2)).toList) : OwnP W base g n n (fun _ => 0) (fun _ => 0) := by
  unfold OwnP
  rw [← made_points]
  exact h

theorem OwnP.row {W : World} {base g n cap : Nat} {X Y : Nat → Int} (h : OwnP W base g n cap X Y) : PRow W (some ⟨g, 0, none⟩) (mp n X Y) := prow_owned h

/-! ### join -/

theorem jnc_mp {P : Nat} (hP : Pr P) (hP2 : P ≤ 251) {n : Nat} (hn : n < P) (hn2 : n ≤ 13) {f : Nat → Int} (hf : ∀ j, j < n → 0 ≤ f j ∧ f j < (P : Int)) : JnC (P : Int) (mp n XP f) 0 := by
  have hl := mp_length n XP f
  refine .inr ⟨.inr ⟨PrC.of hP hP2, .inr ⟨by omega, .inr ⟨fun j hj => ?_, .inr ⟨fun i j hi hj e => ?_, rfl⟩⟩⟩⟩, .inr ⟨fun j hj => ?_, rfl⟩⟩
  · rw [hl] at hj
    rw [mp_px hj, mp_py hj]
    exact ⟨by unfold XP; omega, hf j hj⟩
  · rw [hl] at hi
    rw [mp_px hi, mp_px (by omega)] at e
    unfold XP at e
    omega
  · rw [hl] at hj
    rw [mp_px hj]
    unfold XP
    omega

set_option maxRecDepth 100000 in
theorem join_any (P : Nat) (hP : Pr P) (hP2 : P ≤ 251) (so : Option Addr) (cs n : Nat) (hn : n < P) (hn2 : n ≤ 13) (l : List Int) (hl : l.length = n) (hI : InM (P : Int) l n) (w : World) (hrow : IRow w so l) :
    Calls Try.prog 21 #[.int .i64 (P : Int), .slice so n cs] w fun e w' => (∃ v, e = .returned (.int .i64 v) ∧ JoinIs P XP (co l) n v) ∧ Below w.heap.size w w' := by
  obtain ⟨i0, hi, hz0, hz1, hz2⟩ := infoPt_ex
  have HR := hid hrow
  have HL := hid hl
  have HJ : Hid (∀ W ao, PRow W ao (mp n XP (co l)) → Calls Try.prog 37 #[.int .i64 (P : Int), .slice ao n n] W fun e w' => (∃ v, Hid (JoinIs P XP (co l) n v) ∧ e = .returned (.tuple #[.int .i64 v, .int .i64 0])) ∧ Below W.heap.size W w') := fun W ao hrow2 => by
    have hlen := mp_length n XP (co l)
    have h := Join_any (P : Int) ao n (mp n XP (co l)) (by omega) 0 (jnc_mp hP hP2 hn hn2 hI) W hrow2
    rw [hlen] at h
    refine h.mono ?_
    rintro e w' ⟨⟨v, rfl, _, hv⟩, hB⟩
    have hv2 := hv rfl
    rw [Int.toNat_natCast, hlen] at hv2
    exact ⟨⟨v, JoinIs.congr hv2 (fun j hj => mp_px hj) (fun j hj => mp_py hj), rfl⟩, hB⟩
  clear hrow hl hI
  go_enter Try.func21, Try.ntmps21
  go_wp2_with (at_make; refine wpList_make_full _ rfl _ _ 28 rfl w.heap.size 30 i0 (.agg #[.int .i64 0, .int .i64 0]) 2 Try.underlying28 hi hz0 hz1 .i64 .i64 (n : Int) (n : Int) n rfl rfl rfl rfl (by rw [hz2]; omega) (by unfold maxLen; omega) (Nat.le_refl _) ?_; intro w1 hown1 hgrow1; have hB1 : Hid (Below w.heap.size w w1) := (Below.refl _ w).grown hgrow1 (Nat.le_refl _) (fun j e => by cases e); have O1 := hid (ownP_made hown1); clear hown1 hgrow1)
  obtain ⟨g, hg⟩ : ∃ g, g = w.heap.size := ⟨_, rfl⟩
  have O2 : Hid (OwnP w1 w.heap.size g n n (fz XP 0) (fz (co l) 0)) := by rw [hg, fz_zero, fz_zero]; exact O1.out
  rw [← hg]
  clear hi hz0 hz1 hz2 O1 hg
  go_loopw [15] (fun i wr => ∃ k : Nat, i = .int .i64 (k : Int) ∧ k ≤ n ∧ Hid (OwnP wr w.heap.size g n n (fz XP k) (fz (co l) k)) ∧ Hid (Below w.heap.size w wr)) (fun i wr => ((n : Int) - intOf i).toNat)
  case atStart => exact ⟨0, rfl, by omega, O2, hB1⟩
  case round =>
    obtain ⟨k, rfl, hk, hO, hB⟩ := hrel
    by_cases hgo : k < n
    · have hgo' : (k : Int) < (n : Int) := by omega
      have hkl : Hid (k < l.length) := by have := HL.out; show k < l.length; omega
      rcases so with _ | ad
      · exact (irow_none HR.out hkl.out).elim
      · have d0 := (ib HR.out hB.out).2 ad rfl k hkl.out
        obtain ⟨x1, x2⟩ := hO.out.cell hgo
        have x3 := hO.out.frozen (k * 2)
        have x4 := hO.out.frozen (k * 2 + 1)
        have hO3 : Hid (OwnP ((wr.setCell ⟨g, k * 2, none⟩ (.int .i64 ((k : Int) + 1))).setCell ⟨g, k * 2 + 1, none⟩ (.int .i64 (co l k))) w.heap.size g n n (fz XP (k + 1)) (fz (co l) (k + 1))) := (hO.out.set k _ _).congr (fz_next XP k) (fz_next (co l) k)
        have hB3 : Hid (Below w.heap.size w ((wr.setCell ⟨g, k * 2, none⟩ (.int .i64 ((k : Int) + 1))).setCell ⟨g, k * 2 + 1, none⟩ (.int .i64 (co l k)))) := below_set (below_set hB.out hO.out.lt.1 _ _) hO.out.lt.1 _ _
        generalize co l k = y at *
        generalize fz XP k k = u1 at *
        go_wp2
        go_roundw
        case rel => exact ⟨k + 1, by simp, by omega, hO3, hB3⟩
        case measure => exact measK hgo
    · have hgo' : ¬ (k : Int) < (n : Int) := by omega
      obtain rfl : k = n := by omega
      have hrow2 := hid hO.out.row
      have e1 : mp k (fz XP k) (fz (co l) k) = mp k XP (co l) := List.map_congr_left fun j hj => by rw [fz_at (List.mem_range.1 hj), fz_at (List.mem_range.1 hj)]
      rw [e1] at hrow2
      have cJ := HJ.out wr _ hrow2.out
      clear e1
      go_wp2_with (go_at_call 37; refine cJ.mono ?_; rintro e w2 ⟨⟨v, hv, rfl⟩, hB2⟩)
      go_ret
      exact ⟨⟨v, rfl, hv.out⟩, below_trans hB.out hB2⟩

/-! ### sums -/

/-- An own row of numbers is returned. -/
def RetO (B n : Nat) (f : Nat → Int) (e : Ending) (w' : World) : Prop := ∃ g, e = .returned (.slice (some ⟨g, 0, none⟩) n n) ∧ Own1 w' B g n n f

set_option maxRecDepth 100000 in
set_option maxHeartbeats 1000000 in
theorem sum_any (P : Nat) (hP : 1 ≤ P) (hP2 : P ≤ 251) (ao bo : Option Addr) (ca cb n : Nat) (hn : n ≤ 4096) (a b : List Int) (ha : a.length = n) (hb : b.length = n) (hI : InM (P : Int) a n) (hJ : InM (P : Int) b n) (w : World) (ra : IRow w ao a) (rb : IRow w bo b) :
    Calls Try.prog 30 #[.int .i64 (P : Int), .slice ao n ca, .slice bo n cb] w fun e w' => RetO w.heap.size n (fun j => (co a j + co b j) % (P : Int)) e w' ∧ Below w.heap.size w w' := by
  obtain ⟨i0, hi, hz0, hz1, hz2⟩ := info_ex
  have RA := hid ra
  have RB := hid rb
  have HA := hid ha
  have HB := hid hb
  have hp0 : ¬ (P : Int) = 0 := by omega
  obtain ⟨f, hf⟩ : ∃ f : Nat → Int, f = fun j => (co a j + co b j) % (P : Int) := ⟨_, rfl⟩
  have HF : Hid (∀ j, (co a j + co b j) % (P : Int) = f j) := fun j => by rw [hf]
  rw [← hf]
  clear ra rb ha hb hf
  go_enter Try.func30, Try.ntmps30
  go_wp2_with (at_make; refine wpList_make_full _ rfl _ _ 22 rfl w.heap.size 2 i0 (.int .i64 0) 1 Try.underlying22 hi hz0 hz1 .i64 .i64 (n : Int) (n : Int) n rfl rfl rfl rfl (by rw [hz2]; omega) (by unfold maxLen; omega) (Nat.le_refl _) ?_; intro w1 hown1 hgrow1; have hB1 : Hid (Below w.heap.size w w1) := (Below.refl _ w).grown hgrow1 (Nat.le_refl _) (fun j e => by cases e); have O1 := hid (own1_made hown1); clear hown1 hgrow1)
  obtain ⟨g, hg⟩ : ∃ g, g = w.heap.size := ⟨_, rfl⟩
  have O2 : Hid (Own1 w1 w.heap.size g n n (fz f 0)) := by rw [hg, fz_zero]; exact O1.out
  rw [← hg]
  clear hi hz0 hz1 hz2 O1 hg
  go_loopw [14] (fun i wr => ∃ k : Nat, i = .int .i64 (k : Int) ∧ k ≤ n ∧ Hid (Own1 wr w.heap.size g n n (fz f k)) ∧ Hid (Below w.heap.size w wr)) (fun i wr => ((n : Int) - intOf i).toNat)
  case atStart => exact ⟨0, rfl, by omega, O2, hB1⟩
  case round =>
    obtain ⟨k, rfl, hk, hO, hB⟩ := hrel
    by_cases hgo : k < n
    · have hgo' : (k : Int) < (n : Int) := by omega
      have hka : Hid (k < a.length) := by have := HA.out; show k < a.length; omega
      have hkb : Hid (k < b.length) := by have := HB.out; show k < b.length; omega
      rcases ao with _ | ad
      · exact (irow_none RA.out hka.out).elim
      · rcases bo with _ | bd
        · exact (irow_none RB.out hkb.out).elim
        · have d1 := (ib RA.out hB.out).2 ad rfl k hka.out
          have d2 := (ib RB.out hB.out).2 bd rfl k hkb.out
          have d3 := hO.out.cell hgo
          have d4 := hO.out.frozen k
          have hx := hI k hgo
          have hy := hJ k hgo
          have hF := HF.out k
          have hO3 : Hid (Own1 (wr.setCell ⟨g, k, none⟩ (.int .i64 ((co a k + co b k) % (P : Int)))) w.heap.size g n n (fz f (k + 1))) := (hO.out.set k _).congr (by rw [hF]; exact fz_next f k)
          have hB3 : Hid (Below w.heap.size w (wr.setCell ⟨g, k, none⟩ (.int .i64 ((co a k + co b k) % (P : Int))))) := below_set hB.out hO.out.lt.1 _ _
          clear hF
          generalize co a k = x at *
          generalize co b k = y at *
          generalize fz f k k = u1 at *
          have r1 : IntKind.i64.wrap (x + y) = x + y := wrap_in _ (by omega) (by omega)
          have r2 : (0 : Int) ≤ x + y := by omega
          go_wp2
          go_region
          all_goals
            go_wp2
            go_roundw
            case rel => exact ⟨k + 1, by simp, by omega, hO3, hB3.out.drew⟩
            case measure => exact measK hgo
    · have hgo' : ¬ (k : Int) < (n : Int) := by omega
      obtain rfl : k = n := by omega
      have hO4 : Hid (Own1 wr w.heap.size g k k f) := by
        have h := hO.out
        unfold Own1 at h ⊢
        rwa [fz_done] at h
      go_wp2
      go_ret
      exact ⟨⟨g, rfl, hO4.out⟩, hB.out⟩

end Go.Proofs.Ytpnmepobdnclkaa.Calls184
