/-
  The statements' question about talks: their numbers and members are gathered, and the document is asked.
-/
import Derived.Test.YtpflkihagebmlaaCalls161
import Derived.Test.YtpflkihagebmlaaCalls167
import Derived.Laws.OwnMore
namespace Go.Proofs.Ytpflkihagebmlaa.Calls172
set_option linter.unusedVariables false
open Go.ChangeShapes Go.WideShapes Go.ChangeAt Go.RowKit Go.Deep Go.Proofs.Ytpflkihagebmlaa.Base Go.Proofs.Ytpflkihagebmlaa.Base2 Go.Proofs.Ytpflkihagebmlaa.Num Go.Proofs.Ytpflkihagebmlaa.Num16 Go.Proofs.Ytpflkihagebmlaa.Num56 Go.Proofs.Ytpflkihagebmlaa.Base4 Go.Proofs.Ytpflkihagebmlaa.Calls157 Go.Proofs.Ytpflkihagebmlaa.Calls158 Go.Proofs.Ytpflkihagebmlaa.Calls159 Go.Proofs.Ytpflkihagebmlaa.Calls160 Go.Proofs.Ytpflkihagebmlaa.Calls167

/-- Two rows of the call's own, that lie apart. -/
def Both (W : World) (b : Nat) (pv mv : Value) (k1 k2 : Nat) (l1 l2 : List Int) : Prop :=
  W.ownsRow b 2 1 pv k1 (ivals l1) ∧ W.ownsRow b 2 1 mv k2 (ivals l2) ∧ ∃ g2, mv.ownBlock = some g2 ∧ pv.ownBlock ≠ some g2

theorem Both.first {W w3 : World} {b : Nat} {pv mv : Value} {k1 k2 n g cap : Nat} {l1 l2 l3 : List Int} {o tmp : Obj} (h : Both W b pv mv k1 k2 l1 l2)
    (hown : w3.ownsRow b 2 1 (.slice (some ⟨g, 0, none⟩) n cap) n (ivals l3)) (hgrow : ((W.alloc o).alloc tmp).grownBy w3 pv.ownBlock) (hor : pv.ownBlock = some g ∨ g = ((W.alloc o).alloc tmp).heap.size) : Both w3 b (.slice (some ⟨g, 0, none⟩) n cap) mv n k2 l3 l2 := by
  obtain ⟨h1, h2, g2, e2, hne⟩ := h
  refine ⟨hown, ((h2.alloc o).alloc tmp).kept hgrow (.inr (by rw [e2]; exact fun e => hne e.symm)), g2, e2, ?_⟩
  have hl := (h2.lt g2 e2).2
  intro e
  simp [Value.ownBlock] at e
  subst e
  rcases hor with h | h
  · exact hne h
  · rw [World.size_alloc, World.size_alloc] at h; omega

theorem Both.second {W w3 : World} {b : Nat} {pv mv : Value} {k1 k2 n g cap : Nat} {l1 l2 l3 : List Int} {tmp : Obj} (h : Both W b pv mv k1 k2 l1 l2)
    (hown : w3.ownsRow b 2 1 (.slice (some ⟨g, 0, none⟩) n cap) n (ivals l3)) (hgrow : (W.alloc tmp).grownBy w3 mv.ownBlock) (hor : mv.ownBlock = some g ∨ g = (W.alloc tmp).heap.size) : Both w3 b pv (.slice (some ⟨g, 0, none⟩) n cap) k1 n l1 l3 := by
  obtain ⟨h1, h2, g2, e2, hne⟩ := h
  refine ⟨(h1.alloc tmp).kept hgrow (.inr (by rw [e2]; exact hne)), hown, g, rfl, ?_⟩
  intro e
  have hl := (h1.lt g e).2
  rcases hor with h | h
  · rw [e2] at h; rw [e] at hne; exact hne h.symm
  · rw [World.size_alloc] at h; omega

theorem ivals_two (l : List Int) (a z : Int) : ivals (l ++ [a, z]) = ivals l ++ [.int .i64 a, .int .i64 z] := by simp [ivals]

theorem ivals_one (l : List Int) (a : Int) : ivals (l ++ [a]) = ivals l ++ [.int .i64 a] := by simp [ivals]

/-- What is gathered of so many talks. -/
def ps (F : Nat → Int × Int × Int) : Nat → List Int
  | 0 => []
  | k + 1 => ps F k ++ [(F k).2.1, (F k).2.2]

def ms (x : Int) (F : Nat → Int × Int × Int) : Nat → List Int
  | 0 => [x]
  | k + 1 => ms x F k ++ [(F k).1]

theorem ps_length (F : Nat → Int × Int × Int) : ∀ k, (ps F k).length = 2 * k
  | 0 => rfl
  | k + 1 => by show (ps F k ++ [_, _]).length = _; rw [List.length_append, ps_length F k]; simp; omega

theorem ms_length (x : Int) (F : Nat → Int × Int × Int) : ∀ k, (ms x F k).length = k + 1
  | 0 => rfl
  | k + 1 => by show (ms x F k ++ [_]).length = _; rw [List.length_append, ms_length x F k]; rfl

theorem new_two {W : World} {t : TypeId} {a b : Value} : ∀ j u, ([a, b] : List Value)[j]? = some u → (W.alloc (.cells #[a, b] t)).cell? ((⟨W.heap.size, 0, none⟩ : Addr).add j) = some u := by
  intro j u hu
  rw [zero_add_addr, (BoxC.new W t #[a, b]).cell j]
  simpa using hu

theorem new_one {W : World} {t : TypeId} {a : Value} : ∀ j u, ([a] : List Value)[j]? = some u → (W.alloc (.cells #[a] t)).cell? ((⟨W.heap.size, 0, none⟩ : Addr).add j) = some u := by
  intro j u hu
  rw [zero_add_addr, (BoxC.new W t #[a]).cell j]
  simpa using hu

theorem snoc2 {w1 W w3 : World} {base : Nat} {e : TypeId} {size : Nat} {v : Value} {k : Nat} {xs : List Value} {tmp : Obj} (hB : Below w1.heap.size w1 W) (hb : w1.heap.size ≤ base)
    (hown : W.ownsRow base e size v k xs) (hgrow : (W.alloc tmp).grownBy w3 v.ownBlock) : Below w1.heap.size w1 w3 := by
  refine (hB.alloc hB.size tmp).grown hgrow (by have := hB.size; simp; omega) fun j ej => ?_
  exact Nat.le_trans hb (hown.lt j ej).1

theorem new_two' {W : World} {o : Obj} {t : TypeId} {a b : Value} : ∀ j u, ([a, b] : List Value)[j]? = some u → ((W.alloc o).alloc (.cells #[a, b] t)).cell? ((⟨W.heap.size + 1, 0, none⟩ : Addr).add j) = some u := by
  have h := new_two (W := W.alloc o) (t := t) (a := a) (b := b)
  rwa [World.size_alloc] at h

/-- The box of a talk lies apart from rows that grow. -/
theorem box_kept {W w3 : World} {t : TypeId} {cs : Array Value} {tmp : Obj} {pv : Value} {b k : Nat} {xs : List Value} (hown : W.ownsRow b 2 1 pv k xs) (hgrow : ((W.alloc (.cells cs t)).alloc tmp).grownBy w3 pv.ownBlock) : BoxC w3 W.heap.size t cs :=
  ((BoxC.new W t cs).alloc tmp).kept hgrow (fun e => by have := (hown.lt _ e.symm).2; omega)

/-- The world with the group's box. -/
def gw (w : World) (P Q G H : Int) : World := w.alloc (.cells #[.int .i64 P, .int .i64 Q, .int .i64 G, .int .i64 H] 23)

theorem gw_size (w : World) (P Q G H : Int) : (gw w P Q G H).heap.size = w.heap.size + 1 := World.size_alloc _ _

theorem gw_gb {w wr : World} {P Q G H : Int} (h : Below (gw w P Q G H).heap.size (gw w P Q G H) wr) : Gb w wr P Q G H := (Gb.new w P Q G H).below h

set_option maxRecDepth 100000 in
set_option maxHeartbeats 2000000 in
theorem said_any (P Q G H x : Int) (B N : Nat) (F : Nat → Int × Int × Int) (hN : N ≤ 8) (w : World) (hF : ∀ i, i < N → w.cell? ⟨B, i * 3, none⟩ = some (.int .i64 (F i).1) ∧ w.cell? ⟨B, i * 3 + 1, none⟩ = some (.int .i64 (F i).2.1) ∧ w.cell? ⟨B, i * 3 + 2, none⟩ = some (.int .i64 (F i).2.2)) :
    Calls Try.prog 13 #[.agg #[.int .i64 P, .int .i64 Q, .int .i64 G, .int .i64 H], .int .i64 x, .slice (some ⟨B, 0, none⟩) N N] w fun e w' => e = .returned (.int .i64 (aC P Q G H (ps F N) (ms x F N))) ∧ Below w.heap.size w w' := by
  obtain ⟨i0, hi, hz0, hz1, hz2⟩ := info_parts infoI
  have HF := hid hF
  have cA := hid (fun (lo mo : Option Addr) (lc mc : Nat) (w' : World) (r1 : IRow w' lo (ps F N)) (r2 : IRow w' mo (ms x F N)) => refAsk_any P Q G H lo mo lc mc (ps F N) (ms x F N) (by rw [ps_length]; omega) (by rw [ms_length]; omega) w' r1 r2)
  generalize aC P Q G H (ps F N) (ms x F N) = c at *
  have hB0 := Below.refl (gw w P Q G H).heap.size (gw w P Q G H)
  have HB0 := hid (hB0.alloc (Nat.le_refl _) (.cells #[.int .i64 x] 2))
  have HO0 : Hid (Both ((gw w P Q G H).alloc (.cells #[.int .i64 x] 2)) (w.heap.size + 1) (.slice none 0 0) (.slice (some ⟨w.heap.size + 1, 0, none⟩) 1 1) 0 1 [] [x]) := by
    have h := World.ownsRow_lit (base := w.heap.size + 1) (e := 2) (size := 1) (gw w P Q G H) #[.int .i64 x] 1 (by rw [gw_size]; exact Nat.le_refl _) (by unfold maxLen; omega) rfl
    rw [gw_size] at h
    exact ⟨World.ownsRow_nil _ _ _ _, h, w.heap.size + 1, rfl, by simp [Value.ownBlock]⟩
  clear hF hB0
  go_enter Try.func13, Try.ntmps13
  go_wp2
  go_loopw [7, 8, 15] (fun pv mv i wr => ∃ k : Nat, i = .int .i64 (k : Int) ∧ k ≤ N ∧ Hid (Below (gw w P Q G H).heap.size (gw w P Q G H) wr) ∧ Hid (Both wr (w.heap.size + 1) pv mv (2 * k) (k + 1) (ps F k) (ms x F k))) (fun pv mv i wr => ((N : Int) - intOf i).toNat)
  case atStart => exact ⟨0, rfl, by omega, HB0, HO0⟩
  case round =>
    obtain ⟨k, rfl, hk, HB, HO⟩ := hrel
    by_cases hgo : k < N
    · have hgo' : (k : Int) < (N : Int) := by omega
      have hsz := HB.out.size
      rw [gw_size] at hsz
      obtain ⟨q0, q1, q2⟩ := HF.out k hgo
      have hBw := (gw_gb HB.out).2
      have r0 := (hBw.cell (p := ⟨B, k * 3, none⟩) (cell_lt q0)).trans q0
      have r1 := (hBw.cell (p := ⟨B, k * 3 + 1, none⟩) (cell_lt q1)).trans q1
      have r2 := (hBw.cell (p := ⟨B, k * 3 + 2, none⟩) (cell_lt q2)).trans q2
      clear q0 q1 q2 hBw
      obtain ⟨a, ha⟩ : ∃ a, a = (F k).2.1 := ⟨_, rfl⟩
      obtain ⟨z, hz⟩ : ∃ z, z = (F k).2.2 := ⟨_, rfl⟩
      obtain ⟨f, hf⟩ : ∃ f, f = (F k).1 := ⟨_, rfl⟩
      rw [← hf] at r0
      rw [← ha] at r1
      rw [← hz] at r2
      have HA : Hid (ps F (k + 1) = ps F k ++ [a, z]) := by show _ = _; rw [ha, hz]; rfl
      have HM : Hid (ms x F (k + 1) = ms x F k ++ [f]) := by show _ = _; rw [hf]; rfl
      clear ha hz hf
      go_wp2_with (first
        | (at_builtin; refine wpList_append_own0 _ rfl _ _ 30 rfl (w.heap.size + 1) 2 i0 (.int .i64 0) 1 8 Try.underlying30 hi hz0 hz1 hz2 rfl (by decide) u8 (k + 1) _ rfl (HO1.out.2.1.alloc _) ⟨w3.heap.size, 0, none⟩ 1 1 [.int .i64 f] rfl rfl new_one (by simp [Value.oneCell']) (by omega) (by unfold maxLen; omega) (by omega) (by simp; omega) ?_; intro g2 cap2 w4 hown hgrow hor hlt; rw [← ivals_one] at hown; have HO2 := hid (HO1.out.second hown hgrow hor); have HB2 := hid (snoc2 HB1.out (Nat.le_of_eq (gw_size _ _ _ _ _)) HO1.out.2.1 hgrow); clear hown hgrow hor hlt)
        | (at_builtin; refine wpList_append_own0 _ rfl _ _ 30 rfl (w.heap.size + 1) 2 i0 (.int .i64 0) 1 8 Try.underlying30 hi hz0 hz1 hz2 rfl (by decide) u7 (2 * k) _ rfl ((HO.out.1.alloc _).alloc _) ⟨wr.heap.size + 1, 0, none⟩ 2 2 [.int .i64 a, .int .i64 z] rfl rfl new_two' (by simp [Value.oneCell']) (by omega) (by unfold maxLen; omega) (by omega) (by simp; omega) ?_; intro g cap w3 hown hgrow hor hlt; rw [← ivals_two] at hown; have HO1 := hid (HO.out.first hown hgrow hor); have BX := hid (box_kept HO.out.1 hgrow); have HB1 := hid (snoc2 (HB.out.alloc (by have := HB.out.size; omega) _) (Nat.le_of_eq (gw_size _ _ _ _ _)) (HO.out.1.alloc _) hgrow); have hs3 := HB1.out.size; rw [gw_size] at hs3; obtain ⟨x0, x1, x2, _⟩ := box_three BX.out; clear hown hgrow hor hlt))
      go_roundw
      case rel => exact ⟨k + 1, by simp, by omega, HB2, by have := HO2.out; rw [HA.out, HM.out]; rw [show 2 * (k + 1) = 2 * k + 2 by omega]; exact this⟩
      case measure => exact measK hgo
    · have hkN : k = N := by omega
      have hgo' : ¬ (k : Int) < (N : Int) := by omega
      have KR := hid (gw_gb HB.out)
      obtain ⟨c0, c1, c2, c3⟩ := KR.out.cells
      obtain ⟨lo, lc, e1, _, r1⟩ := irow_owns HO.out.1
      obtain ⟨mo, mc, e2, _, r2⟩ := irow_owns HO.out.2.1
      rw [hkN] at e1 e2 r1 r2
      subst e1 e2
      have cB := cA.out lo mo lc mc wr r1 r2
      clear cA r1 r2 HO
      generalize (ps F N).length = n1 at *
      generalize (ms x F N).length = n2 at *
      go_wp2_with (go_at_call 10; refine cB.mono ?_; clear cB; rintro e w3 ⟨rfl, hB3⟩; have K3 := hid (KR.out.below hB3); clear hB3)
      go_ret
      exact ⟨rfl, K3.out.2⟩

theorem sd1 (P Q G H x f a z : Int) (wr : World) (n : Nat) (hn : n = wr.heap.size) :
    Calls Try.prog 13 #[.agg #[.int .i64 P, .int .i64 Q, .int .i64 G, .int .i64 H], .int .i64 x, .slice (some ⟨n, 0, none⟩) 1 1] (wr.alloc (.cells #[.int .i64 f, .int .i64 a, .int .i64 z] 25)) fun e w' => e = .returned (.int .i64 (aC P Q G H [a, z] [x, f])) ∧ Below wr.heap.size wr w' := by
  subst hn
  have h := BoxC.new wr 25 #[.int .i64 f, .int .i64 a, .int .i64 z]
  exact (said_any P Q G H x wr.heap.size 1 (fun _ => (f, a, z)) (by omega) _ (fun i hi => by
    obtain rfl : i = 0 := by omega
    exact ⟨h.cell 0, h.cell 1, h.cell 2⟩)).mono fun e w' h => ⟨h.1, below_trans (alloc_b wr _) h.2⟩

theorem sd2 (P Q G H x f a z f2 a2 z2 : Int) (wr : World) (n : Nat) (hn : n = wr.heap.size) :
    Calls Try.prog 13 #[.agg #[.int .i64 P, .int .i64 Q, .int .i64 G, .int .i64 H], .int .i64 x, .slice (some ⟨n, 0, none⟩) 2 2] (wr.alloc (.cells #[.int .i64 f, .int .i64 a, .int .i64 z, .int .i64 f2, .int .i64 a2, .int .i64 z2] 25)) fun e w' => e = .returned (.int .i64 (aC P Q G H [a, z, a2, z2] [x, f, f2])) ∧ Below wr.heap.size wr w' := by
  subst hn
  have h := BoxC.new wr 25 #[.int .i64 f, .int .i64 a, .int .i64 z, .int .i64 f2, .int .i64 a2, .int .i64 z2]
  exact (said_any P Q G H x wr.heap.size 2 (fun i => if i = 0 then (f, a, z) else (f2, a2, z2)) (by omega) _ (fun i hi => by
    have : i = 0 ∨ i = 1 := by omega
    rcases this with rfl | rfl
    · exact ⟨h.cell 0, h.cell 1, h.cell 2⟩
    · exact ⟨h.cell 3, h.cell 4, h.cell 5⟩)).mono fun e w' h => ⟨h.1, below_trans (alloc_b wr _) h.2⟩

/-! ### what fits -/

set_option maxRecDepth 100000 in
set_option maxHeartbeats 2000000 in
theorem right_any (P : Nat) (Q : Int) (G : Nat) (H : Int) (x f a z : Nat) (hP1 : 1 ≤ P) (hP : P ≤ 1048576) (hf : f < P) (ha : a ≤ 2147483648) (hz : z ≤ 2147483648) (b : Bool) (hb : b = true ↔ G ^ z % P = f * (x ^ a % P) % P) (w : World) :
    Calls Try.prog 14 #[.agg #[.int .i64 (P : Int), .int .i64 Q, .int .i64 (G : Int), .int .i64 H], .int .i64 (x : Int), .agg #[.int .i64 (f : Int), .int .i64 (a : Int), .int .i64 (z : Int)]] w fun e w' => e = .returned (.bool b) ∧ Below w.heap.size w w' := by
  have cA := fun w => refPow_nat G z P hP1 hP hz w
  have cB := fun w => refPow_nat x a P hP1 hP ha w
  obtain ⟨m1, m2⟩ := mul_bds hP hf (Nat.mod_lt (x ^ a) (show P > 0 by omega))
  have n0 : ¬ (P : Int) = 0 := by omega
  have n1 : ¬ P = 0 := by omega
  have w1' : IntKind.i64.wrap ((f : Int) * ((x ^ a % P : Nat) : Int)) = (f : Int) * ((x ^ a % P : Nat) : Int) := wrap_in _ (by omega) (by omega)
  have E1 := mul_tmod f (x ^ a % P) P
  have E2 : ((f : Int) * ((x ^ a % P : Nat) : Int)) % (P : Int) = ((f * (x ^ a % P) % P : Nat) : Int) := by rw [← E1, Int.tmod_eq_emod_of_nonneg m1]
  have e3 : (((G ^ z % P : Nat) : Int) == ((f * (x ^ a % P) % P : Nat) : Int)) = b := by
    cases b with
    | true => exact i64_eq (hb.1 rfl)
    | false => exact i64_ne (fun e => by have := hb.2 e; cases this)
  have K := hid (Gs.new w (P : Int) Q (G : Int) H #[.int .i64 (f : Int), .int .i64 (a : Int), .int .i64 (z : Int)])
  obtain ⟨c0, c1, c2, c3⟩ := K.out.1.cells
  obtain ⟨t0, t1, t2, _⟩ := box_three K.out.2
  clear hb hf
  generalize f * (x ^ a % P) % P = y2 at *
  generalize G ^ z % P = y at *
  generalize x ^ a % P = v at *
  go_enter Try.func14, Try.ntmps14
  go_wp2
  go_region_held3 (fun w' => w'.cell? ⟨w.heap.size, 0, none⟩ = some (.int .i64 (P : Int)) ∧ w'.cell? ⟨w.heap.size, 2, none⟩ = some (.int .i64 (G : Int)) ∧ w'.cell? ⟨w.heap.size + 1, 0, none⟩ = some (.int .i64 (f : Int)) ∧ w'.cell? ⟨w.heap.size + 1, 1, none⟩ = some (.int .i64 (a : Int)) ∧ w'.cell? ⟨w.heap.size + 1, 2, none⟩ = some (.int .i64 (z : Int))) (first | exact ⟨c0, c2, t0, t1, t2⟩)
    (first | (go_at_call 11; (first | (with_reducible refine (cA _).mono ?_) | (with_reducible refine (cB _).mono ?_)); rintro e w2 ⟨rfl, hw⟩; subst w2; have K := hid (show Gs w _ _ _ _ _ _ by first | exact K.out | exact K.out.drew); obtain ⟨c0, c1, c2, c3⟩ := K.out.1.cells; obtain ⟨t0, t1, t2, _⟩ := box_three K.out.2))
  all_goals
    go_wp2
    go_ret
    exact ⟨ret_bool (by first | rfl | exact e3 | (rw [E2]; exact e3) | (rw [E1]; exact e3)), by first | exact K.out.1.2 | exact K.out.drew.1.2⟩

end Go.Proofs.Ytpflkihagebmlaa.Calls172
