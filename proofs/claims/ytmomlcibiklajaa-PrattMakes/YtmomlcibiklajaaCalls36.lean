/-
  Rows of lines in memory; named and holds of package pratt; the document's Holds.
-/
import Derived.Test.YtmomlcibiklajaaCalls35
namespace Go.Proofs.Ytmomlcibiklajaa.Calls36
set_option linter.unusedVariables false
open Go.ChangeShapes Go.WideShapes Go.ChangeAt Go.RowKit Go.Deep Go.Proofs.Ytmomlcibiklajaa.Base Go.Proofs.Ytmomlcibiklajaa.Base2 Go.Proofs.Ytmomlcibiklajaa.Num13 Go.Proofs.Ytmomlcibiklajaa.Num31 Go.Proofs.Ytmomlcibiklajaa.Calls35
open Go.Proofs.Ytmomlcibiklajaa.Calls19 (refPow_any)

theorem infoI : (Try.prog.info? 2).map (fun i => (i.zero, i.size, i.bytes)) = some (some (.int .i64 0), 1, 8) := by kernel_rfl

def ivals (l : List Int) : List Value := l.map (Value.int .i64)

theorem ivals_length (l : List Int) : (ivals l).length = l.length := by simp [ivals]

theorem ivals_snoc (l : List Int) (x : Int) : ivals (l ++ [x]) = ivals l ++ [.int .i64 x] := by simp [ivals]

theorem ivals_get {l : List Int} {j : Nat} (h : j < l.length) : (ivals l)[j]? = some (.int .i64 (l.getD j 0)) := by
  simp [ivals, List.getD, h]

theorem irow_owns {W : World} {base : Nat} {e : TypeId} {v : Value} {n : Nat} {l : List Int} (h : W.ownsRow base e 1 v n (ivals l)) (hn : n = l.length) :
    ∃ ao cap, v = .slice ao l.length cap ∧ IRow W ao l := by
  rcases h.2 with ⟨rfl, hn⟩ | ⟨g, cap, cur, rfl, hb, hg, hnc, hcm, hcs, htake⟩
  · have e : l = [] := List.length_eq_zero_iff.1 (by omega)
    subst e
    exact ⟨none, 0, rfl, irow_nil _⟩
  · refine ⟨some ⟨g, 0, none⟩, cap, by rw [hn], fun h => (by cases h), fun ad h j hj => ?_⟩
    obtain rfl : (⟨g, 0, none⟩ : Addr) = ad := by simpa using h
    have c1 := World.ownsRow.cellAt ⟨by rw [ivals_length]; omega, .inr ⟨g, cap, cur, rfl, hb, hg, hnc, hcm, hcs, htake⟩⟩ j (by omega)
    have a1 : (⟨g, 0, none⟩ : Addr).add j = ⟨g, j, none⟩ := by
      unfold Addr.add; by_cases h : j = 0
      · simp [h]
      · simp [h]
    rw [a1, c1]
    exact ivals_get hj

theorem one_cell {W : World} {t : TypeId} {a : Value} : ∀ j u, ([a] : List Value)[j]? = some u → (W.alloc (.cells #[a] t)).cell? ((⟨W.heap.size, 0, none⟩ : Addr).add j) = some u := by
  intro j u hj
  match j, hj with
  | 0, hj => simp at hj; subst hj; simp [Addr.add]

/-- One line lies here. -/
def LAt (W : World) (a : Addr) (x : Ln) : Prop :=
  W.cell? a = some (.int .i64 x.N) ∧ W.cell? { block := a.block, off := a.off + 1 } = some (.int .i64 x.G) ∧ ∃ bo cb, W.cell? { block := a.block, off := a.off + 2 } = some (.slice bo x.F.length cb) ∧ IRow W bo x.F ∧ x.F.length ≤ 9223372036854775807

/-- A slice of lines reads as a list. -/
def LRow (W : World) (ao : Option Addr) (ls : List Ln) : Prop :=
  (ao = none → ls = []) ∧ ∀ ad, ao = some ad → ∀ j, j < ls.length → LAt W (ad.add (j * 3)) (ls.getD j Ln0)

theorem lat_below {W W' : World} {a : Addr} {x : Ln} {n : Nat} (h : LAt W a x) (hb : Below n W W') (hn : W.heap.size ≤ n) : LAt W' a x := by
  obtain ⟨c1, c2, bo, cb, c3, hr, hl⟩ := h
  have l1 := cell_lt c1
  have l2 := cell_lt c2
  have l3 := cell_lt c3
  exact ⟨(hb.cell (by omega)).trans c1, (hb.cell (by omega)).trans c2, bo, cb, (hb.cell (by omega)).trans c3, irow_below hr hb hn, hl⟩

theorem lrow_below {W W' : World} {ao : Option Addr} {ls : List Ln} {n : Nat} (h : LRow W ao ls) (hb : Below n W W') (hn : W.heap.size ≤ n) : LRow W' ao ls :=
  ⟨h.1, fun ad e j hj => lat_below (h.2 ad e j hj) hb hn⟩

theorem lrow_none {W : World} {ls : List Ln} (h : LRow W none ls) {j : Nat} (hj : j < ls.length) : False := by
  rw [h.1 rfl] at hj; simp at hj

theorem lrow_take {W : World} {ad : Addr} {ls : List Ln} (h : LRow W (some ad) ls) (i : Nat) : LRow W (some ad) (ls.take i) := by
  refine ⟨fun e => (by cases e), fun ad' e j hj => ?_⟩
  rw [List.length_take] at hj
  have := h.2 ad' e j (by omega)
  have e2 : (ls.take i).getD j Ln0 = ls.getD j Ln0 := by simp [List.getD, show j < i by omega]
  rw [e2]; exact this

/-- Each number of From is that of a line ahead, whose N divides. -/
def Known (ls : List Ln) (n : Nat) (F : List Int) : Prop := ∀ k ∈ F, In ls k ∧ val ls k ∣ n - 1

def facts (ls : List Ln) (F : List Int) : List Nat := dd (F.map (val ls))

/-- What named answers. -/
def Named (ls : List Ln) (n : Nat) (F : List Int) (e : Ending) (w' : World) : Prop :=
  (Known ls n F ∧ ∃ bo cb, e = .returned (.tuple #[.slice bo (facts ls F).length cb, .bool true]) ∧ IRow w' bo (zs (facts ls F))) ∨
  (¬ Known ls n F ∧ e = .returned (.tuple #[.slice none 0 0, .bool false]))

theorem facts_len {ls : List Ln} {n : Nat} {F : List Int} (h : ∀ k ∈ F, In ls k) (hl : ls.length ≤ 64) : (facts ls F).length ≤ 64 := by
  refine Nat.le_trans ?_ hl
  have := Go.Proofs.Ytmomlcibiklajaa.Num12.len_le (l := facts ls F) (m := ls.map (fun y => y.N.toNat)) (dd_nodup _) (fun x hx => by
    obtain ⟨k, hk, rfl⟩ := List.mem_map.1 ((dd_mem _ _).1 hx)
    obtain ⟨h1, h2⟩ := h k hk
    refine List.mem_map.2 ⟨ls.getD k.toNat Ln0, ?_, rfl⟩
    simp [List.getD, show k.toNat < ls.length by omega])
  simpa using this

theorem fact_bd {ls : List Ln} {n : Nat} {F : List Int} (hb : ∀ y ∈ ls, 2 ≤ y.N) (hn1 : 3 ≤ n) (hn2 : n ≤ 1048576) (h : Known ls n F) : ∀ q ∈ facts ls F, 2 ≤ q ∧ q ≤ 1048576 := by
  intro q hq
  obtain ⟨k, hk, rfl⟩ := List.mem_map.1 ((dd_mem _ _).1 hq)
  obtain ⟨h1, h2⟩ := h k hk
  have := Nat.le_of_dvd (by omega) h2
  exact ⟨(val_two hb h1).2, by omega⟩

theorem getF {F : List Int} {k : Nat} (h : k < F.length) : F.take (k + 1) = F.take k ++ [F.getD k 0] := by
  rw [List.take_add_one, List.getElem?_eq_getElem h]
  simp [List.getD, h]

theorem facts_snoc (ls : List Ln) (F : List Int) (x : Int) : facts ls (F ++ [x]) = if val ls x ∈ facts ls F then facts ls F else facts ls F ++ [val ls x] := by
  unfold facts
  rw [List.map_append, List.map_cons, List.map_nil, dd_snoc]

theorem known_snoc {ls : List Ln} {n : Nat} {F : List Int} {x : Int} (h : Known ls n F) (hx : In ls x ∧ val ls x ∣ n - 1) : Known ls n (F ++ [x]) := fun k hk => by
  rcases List.mem_append.1 hk with hk | hk
  · exact h k hk
  · have e : k = x := by simpa using hk
    rw [e]; exact hx

set_option maxRecDepth 100000 in
set_option maxHeartbeats 1000000 in
theorem named_any (n : Nat) (G : Int) (F : List Int) (fo : Option Addr) (cf : Nat) (ao : Option Addr) (cap : Nat) (ls : List Ln) (hn1 : 3 ≤ n) (hn2 : n ≤ 1048576) (hls : ls.length ≤ 64) (hb : ∀ y ∈ ls, 2 ≤ y.N) (hF : F.length ≤ 9223372036854775807) (w : World) (hrF : IRow w fo F) (hrow : LRow w ao ls) :
    Calls Try.prog 24 #[.agg #[.int .i64 (n : Int), .int .i64 G, .slice fo F.length cf], .slice ao ls.length cap] w fun e w' => Named ls n F e w' ∧ Below w.heap.size w w' := by
  obtain ⟨i0, hi, hz0, hz1, hz2⟩ := info_parts infoI
  obtain ⟨L, hL⟩ : ∃ L, L = F.length := ⟨_, rfl⟩
  have HL : Hid (L = F.length) := hL
  obtain ⟨M, hM⟩ : ∃ M, M = ls.length := ⟨_, rfl⟩
  have HM : Hid (M = ls.length) := hM
  have HB := hid hb
  rw [← hL] at hF ⊢
  rw [← hM] at hls ⊢
  clear hL hM hb
  have hbox := hid (BoxC.new w 36 #[.int .i64 (n : Int), .int .i64 G, .slice fo L cf])
  have k2 := hbox.out.cell 2
  simp at k2
  go_enter Try.func24, Try.ntmps24
  go_wp2
  have hB0 : Below w.heap.size w (w.alloc (.cells #[.int .i64 (n : Int), .int .i64 G, .slice fo L cf] 36)) := (Below.refl _ w).alloc (Nat.le_refl _) _
  have hsz : (w.alloc (.cells #[.int .i64 (n : Int), .int .i64 G, .slice fo L cf] 36)).heap.size = w.heap.size + 1 := by simp
  obtain ⟨W0, hW0⟩ : ∃ W0, w.alloc (.cells #[.int .i64 (n : Int), .int .i64 G, .slice fo L cf] 36) = W0 := ⟨_, rfl⟩
  rw [hW0] at hbox hB0 hsz ⊢
  clear hW0 k2
  go_loopw [6, 12] (fun v i wr => ∃ k : Nat, i = .int .i64 (k : Int) ∧ k ≤ L ∧ Hid (Known ls n (F.take k)) ∧ Hid (wr.ownsRow (w.heap.size + 1) 2 1 v (facts ls (F.take k)).length (ivals (zs (facts ls (F.take k))))) ∧ Below W0.heap.size W0 wr) (fun v i wr => ((L : Int) - intOf i).toNat)
  case atStart => exact ⟨0, rfl, by omega, fun k hk => (by simp at hk), World.ownsRow_nil _ _ _ _, Below.refl _ _⟩
  case round =>
    obtain ⟨k, rfl, hk, hkn, hown, hB⟩ := hrel
    have hBw : Hid (Below w.heap.size w wr) := hB0.trans (hB.mono hB0.size)
    by_cases hgo : k < L
    · have hgo' : (k : Int) < (L : Int) := by omega
      have hkl : Hid (k < F.length) := by have := HL.out; show k < F.length; omega
      rcases fo with _ | fd
      · exact (irow_none hrF hkl.out).elim
      · have c := (irow_below hrF hBw.out (Nat.le_refl _)).2 fd rfl k hkl.out
        obtain ⟨x, hx⟩ : ∃ x, F.getD k 0 = x := ⟨_, rfl⟩
        rw [hx] at c
        have HX := hid hx
        have hxm : Hid (x ∈ F) := by show x ∈ F; rw [← hx]; exact getD_mem hkl.out
        clear hx
        have k0 := (hbox.out.below hB (by omega)).cell 0
        simp at k0
        by_cases hx0 : x < 0
        · have hx0' : decide (x < 0) = true := decide_eq_true hx0
          have hno : Hid (¬ Known ls n F) := fun h => by have := (h x hxm.out).1.1; omega
          go_wp2
          go_quiet (fail)
          go_wp2
          go_ret2
          exact ⟨.inr ⟨hno.out, rfl⟩, below_drewN hBw.out _⟩
        · have hx0' : decide (x < 0) = false := decide_eq_false hx0
          obtain ⟨p, rfl⟩ : ∃ p : Nat, x = (p : Int) := ⟨x.toNat, by omega⟩
          by_cases hpM : M ≤ p
          · have hpM' : decide (M ≤ p) = true := decide_eq_true hpM
            have hpM'' : (M : Int) ≤ (p : Int) := by omega
            have hno : Hid (¬ Known ls n F) := fun h => by have := (h (p : Int) hxm.out).1.2; have := HM.out; omega
            go_wp2
            go_quiet (fail)
            go_wp2
            go_ret2
            exact ⟨.inr ⟨hno.out, rfl⟩, below_drewN hBw.out _⟩
          · have hpM' : decide (M ≤ p) = false := decide_eq_false hpM
            have hpM2 : (p : Int) < (M : Int) := by omega
            have hp0 : (0 : Int) ≤ (p : Int) := by omega
            rcases ao with _ | ad
            · exact (lrow_none hrow (j := p) (by have := HM.out; omega)).elim
            · have hpl : Hid (p < ls.length) := by have := HM.out; show p < ls.length; omega
              obtain ⟨d1, _, _⟩ := (lrow_below hrow hBw.out (Nat.le_refl _)).2 ad rfl p hpl.out
              have hin : Hid (In ls (p : Int)) := ⟨by omega, by have := hpl.out; omega⟩
              obtain ⟨v1, v2⟩ := val_two HB.out hin.out
              obtain ⟨q, hq⟩ : ∃ q, val ls (p : Int) = q := ⟨_, rfl⟩
              have hqe : (ls.getD p Ln0).N = (q : Int) := by
                rw [← hq]; unfold val
                rw [show ((p : Int)).toNat = p by omega] at v1 ⊢
                omega
              rw [hqe] at d1
              rw [hq] at v2
              have HQ := hid hq
              have hq0 : ¬ (q : Int) = 0 := by omega
              clear hq hqe v1
              by_cases hd : q ∣ n - 1
              · have hmz : (((n : Int) - 1) % (q : Int) != 0) = false := by
                  rw [show ((n : Int) - 1) % (q : Int) = (((n - 1) % q : Nat) : Int) by rw [show ((n : Int) - 1) = ((n - 1 : Nat) : Int) by omega]; simp, Nat.mod_eq_zero_of_dvd hd]; rfl
                have hkn2 : Hid (Known ls n (F.take (k + 1))) := by
                  show Known _ _ _
                  rw [getF hkl.out, HX.out]
                  exact known_snoc hkn.out ⟨hin.out, by rw [HQ.out]; exact hd⟩
                have hfs : Hid (facts ls (F.take (k + 1)) = if q ∈ facts ls (F.take k) then facts ls (F.take k) else facts ls (F.take k) ++ [q]) := by
                  show _ = _
                  rw [getF hkl.out, HX.out, facts_snoc, HQ.out]
                have hfl := facts_len (n := n) (fun j hj => (hkn.out j hj).1) (show ls.length ≤ 64 by have := HM.out; omega)
                clear hd
                obtain ⟨bo, cb, hv, hr⟩ := irow_owns hown.out (by rw [zs_length])
                subst hv
                have cC := fun d => slContains_any bo cb (zs (facts ls (F.take k))) (q : Int) (by rw [zs_length]; omega) (wr.drewN d) hr
                have HR := hid hr
                clear hr
                rw [zs_length] at cC hown ⊢
                have hown2 := hown.out
                obtain ⟨fs, hfe⟩ : ∃ fs, facts ls (F.take k) = fs := ⟨_, rfl⟩
                rw [hfe] at cC hfl hfs hown2 ⊢
                clear hown hfe
                by_cases hm : q ∈ fs
                · rw [decide_eq_true (zs_mem.2 hm)] at cC
                  have hfs2 : Hid (facts ls (F.take (k + 1)) = fs) := by show _ = _; rw [hfs.out, if_pos hm]
                  clear hm
                  go_wp2
                  go_quiet (fail)
                  go_wp2_with (go_at_call 36; refine (cC _).mono ?_; rintro e w1 ⟨rfl, hw⟩; subst w1)
                  go_roundw
                  case rel => exact ⟨k + 1, by simp, by omega, hkn2, by rw [hfs2.out]; exact hown2, below_drewN hB _⟩
                  case measure => exact measK hgo
                · rw [decide_eq_false (fun h => hm (zs_mem.1 h))] at cC
                  have hfs2 : Hid (facts ls (F.take (k + 1)) = fs ++ [q]) := by show _ = _; rw [hfs.out, if_neg hm]
                  have hsn : Hid (ivals (zs (fs ++ [q])) = ivals (zs fs) ++ [.int .i64 (q : Int)]) := by show _ = _; simp [zs, ivals]
                  clear hm
                  have hownD : ∀ d, (wr.drewN d).ownsRow (w.heap.size + 1) 2 1 (.slice bo fs.length cb) fs.length (ivals (zs fs)) := fun d => hown2
                  have hss := hB.size
                  go_wp2
                  go_quiet (fail)
                  go_wp2_with (first
                    | (go_at_call 36; refine (cC _).mono ?_; rintro e w1 ⟨rfl, hw⟩; subst w1)
                    | (at_builtin; refine wpList_append_own _ rfl _ _ 42 rfl (w.heap.size + 1) 2 i0 (.int .i64 0) 1 8 Try.underlying42 hi hz0 hz1 hz2 rfl (by decide) _ _ _ rfl ((hownD _).alloc _) ⟨wr.heap.size, 0, none⟩ 1 1 [.int .i64 (q : Int)] rfl rfl one_cell (by simp [Value.oneCell']) (by unfold maxLen; omega) (by omega) (by simp; omega) ?_; intro v' w1 hown' hgrow _))
                  go_roundw
                  case rel => exact ⟨k + 1, by simp, by omega, hkn2, by show World.ownsRow _ _ _ _ _ _ _; rw [hfs2.out, hsn.out, List.length_append]; exact hown', ((below_drewN hB _).alloc hB.size _).trans (below_grown ((hownD _).alloc _) hgrow (by omega) (by simp; omega))⟩
                  case measure => exact measK hgo
              · have hmz : (((n : Int) - 1) % (q : Int) != 0) = true := by
                  rw [show ((n : Int) - 1) % (q : Int) = (((n - 1) % q : Nat) : Int) by rw [show ((n : Int) - 1) = ((n - 1 : Nat) : Int) by omega]; simp]
                  have : ¬ (n - 1) % q = 0 := fun h => hd (Nat.dvd_of_mod_eq_zero h)
                  simp; omega
                have hno : Hid (¬ Known ls n F) := fun h => hd (by have := (h (p : Int) hxm.out).2; rw [HQ.out] at this; exact this)
                clear hd
                go_wp2
                go_quiet (fail)
                go_wp2
                go_ret2
                exact ⟨.inr ⟨hno.out, rfl⟩, below_drewN hBw.out _⟩
    · have hgo' : ¬ (k : Int) < (L : Int) := by omega
      have e : F.take k = F := List.take_of_length_le (by have := HL.out; omega)
      rw [e] at hkn hown
      obtain ⟨bo, cb, rfl, hr⟩ := irow_owns hown.out (by rw [zs_length])
      rw [zs_length]
      have HR := hid hr
      clear e hr
      go_wp2
      go_ret2
      exact ⟨.inl ⟨hkn.out, bo, cb, rfl, HR.out⟩, hBw.out⟩

end Go.Proofs.Ytmomlcibiklajaa.Calls36
