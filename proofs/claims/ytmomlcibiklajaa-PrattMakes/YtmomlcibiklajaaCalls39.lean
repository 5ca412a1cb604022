/-
  The document's Holds: does a line hold?
-/
import Derived.Test.YtmomlcibiklajaaCalls36
namespace Go.Proofs.Ytmomlcibiklajaa.Calls39
set_option linter.unusedVariables false
open Go.ChangeShapes Go.WideShapes Go.ChangeAt Go.RowKit Go.Deep Go.Proofs.Ytmomlcibiklajaa.Base Go.Proofs.Ytmomlcibiklajaa.Num13 Go.Proofs.Ytmomlcibiklajaa.Num31 Go.Proofs.Ytmomlcibiklajaa.Calls35 Go.Proofs.Ytmomlcibiklajaa.Calls36
open Go.Proofs.Ytmomlcibiklajaa.Calls19 (refPow_any)

theorem take_get {ls : List Ln} {i p : Nat} (h : p < i) : (ls.take i).getD p Ln0 = ls.getD p Ln0 := by simp [List.getD, h]

theorem quiet_at2 {P : Program} {f : FuncId} {args : Array Value} {w : World} {d n : Nat} {v : Value} (h : Calls P f args (w.drewN (d + n)) fun e w' => e = .returned v ∧ w' = w.drewN (d + n)) :
    Calls P f args (w.drewN (d + n)) fun e w'' => e = .returned v ∧ ∃ m, w'' = w.drewN (d + m) := h.mono fun _ _ ⟨he, hm⟩ => ⟨he, n, hm⟩

theorem refHolds_two (ao : Option Addr) (cap : Nat) (ls : List Ln) (i : Nat) (hi : i < ls.length) (hl : ls.length ≤ 1048576) (w : World) (hrow : LRow w ao ls) (h2 : (ls.getD i Ln0).N = 2) :
    Calls Try.prog 8 #[.slice ao ls.length cap, .int .i64 (i : Int)] w fun e w' => e = .returned (.bool true) ∧ Below w.heap.size w w' := by
  have hi' : (i : Int) < (ls.length : Int) := by omega
  have hi0 : (0 : Int) ≤ (i : Int) := by omega
  rcases ao with _ | ad
  · exact (lrow_none hrow hi).elim
  · obtain ⟨c1, c2, fo, cf, c3, hrF, hFl⟩ := hrow.2 ad rfl i hi
    rw [h2] at c1
    clear h2 hrF hFl
    go_enter Try.func8, Try.ntmps8
    go_wp2
    go_ret
    exact ⟨rfl, (Below.refl _ w).alloc (Nat.le_refl _) _⟩

theorem refHolds_out (ao : Option Addr) (cap : Nat) (ls : List Ln) (i : Nat) (hi : i < ls.length) (hl : ls.length ≤ 1048576) (w : World) (hrow : LRow w ao ls) (h2 : ¬ (ls.getD i Ln0).N = 2) (h : ¬ ((3 ≤ (ls.getD i Ln0).N ∧ (ls.getD i Ln0).N ≤ 1048576) ∧ (1 ≤ (ls.getD i Ln0).G ∧ (ls.getD i Ln0).G < (ls.getD i Ln0).N))) :
    Calls Try.prog 8 #[.slice ao ls.length cap, .int .i64 (i : Int)] w fun e w' => e = .returned (.bool false) ∧ Below w.heap.size w w' := by
  have hi' : (i : Int) < (ls.length : Int) := by omega
  have hi0 : (0 : Int) ≤ (i : Int) := by omega
  rcases ao with _ | ad
  · exact (lrow_none hrow hi).elim
  · obtain ⟨c1, c2, fo, cf, c3, hrF, hFl⟩ := hrow.2 ad rfl i hi
    obtain ⟨N, hN⟩ : ∃ N, (ls.getD i Ln0).N = N := ⟨_, rfl⟩
    obtain ⟨G, hG⟩ : ∃ G, (ls.getD i Ln0).G = G := ⟨_, rfl⟩
    rw [hN] at c1 h2 h
    rw [hG] at c2 h
    have h2' : (N == 2) = false := by simp [h2]
    clear hrF hFl hN hG
    by_cases h3 : N < 3
    · clear h
      go_enter Try.func8, Try.ntmps8
      go_wp2
      go_ret
      exact ⟨rfl, (Below.refl _ w).alloc (Nat.le_refl _) _⟩
    · by_cases h4 : 1048576 < N
      · clear h
        go_enter Try.func8, Try.ntmps8
        go_wp2
        go_ret
        exact ⟨rfl, (Below.refl _ w).alloc (Nat.le_refl _) _⟩
      · by_cases h5 : G < 1
        · clear h
          go_enter Try.func8, Try.ntmps8
          go_wp2
          go_ret
          exact ⟨rfl, (Below.refl _ w).alloc (Nat.le_refl _) _⟩
        · have h6 : N - 1 < G := by omega
          clear h
          go_enter Try.func8, Try.ntmps8
          go_wp2
          go_ret
          exact ⟨rfl, (Below.refl _ w).alloc (Nat.le_refl _) _⟩

/-- Fine so far. -/
def SoFine (ls : List Ln) (g : Int) (n : Nat) (F : List Int) : Prop := ∀ k ∈ F, Fine ls g n k

theorem soFine_snoc {ls : List Ln} {g : Int} {n : Nat} {F : List Int} {x : Int} (h : SoFine ls g n F) (hx : Fine ls g n x) : SoFine ls g n (F ++ [x]) := fun k hk => by
  rcases List.mem_append.1 hk with hk | hk
  · exact h k hk
  · have e : k = x := by simpa using hk
    rw [e]; exact hx

theorem douts_next (ls : List Ln) (F : List Int) (x : Int) (n : Nat) : douts ((F ++ [x]).map (val ls)) n = dout (val ls x) (douts (F.map (val ls)) n) := by
  rw [List.map_append, List.map_cons, List.map_nil, douts_snoc]

set_option maxRecDepth 100000 in
set_option maxHeartbeats 2000000 in
theorem refHolds_in (ad : Addr) (cap : Nat) (ls : List Ln) (i : Nat) (hi : i < ls.length) (hl : ls.length ≤ 1048576) (w : World) (hrow : LRow w (some ad) ls) (n : Nat) (G : Int) (F : List Int) (hn1 : 3 ≤ n) (hn2 : n ≤ 1048576) (hg1 : 1 ≤ G) (hg2 : G < n) (hx : ls.getD i Ln0 = ⟨(n : Int), G, F⟩) :
    Calls Try.prog 8 #[.slice (some ad) ls.length cap, .int .i64 (i : Int)] w fun e w' => Says (Hold3 (ls.take i) G n F) e ∧ Below w.heap.size w w' := by
  have hi' : (i : Int) < (ls.length : Int) := by omega
  have hi0 : (0 : Int) ≤ (i : Int) := by omega
  obtain ⟨c1, c2, fo, cf, c3, hrF, hFl⟩ := hrow.2 ad rfl i hi
  rw [hx] at c1 c2 c3 hrF hFl
  simp only at c1 c2 c3 hrF hFl
  clear hx
  have cP := fun w => refPow_any G n (by omega) hn2 (n - 1) w (by omega)
  rw [show ((n - 1 : Nat) : Int) = (n : Int) - 1 by omega] at cP
  have h2' : ¬ (n : Int) = 2 := by omega
  by_cases hone : pw G (n - 1) n = 1
  · rw [hone] at cP
    obtain ⟨L, hL⟩ : ∃ L, L = F.length := ⟨_, rfl⟩
    have HL : Hid (L = F.length) := hL
    rw [← hL] at c3 hFl
    clear hL
    have hbox := hid (BoxC.new w 36 #[.int .i64 (n : Int), .int .i64 G, .slice fo L cf])
    have HONE := hid hone
    have hB0 : Below w.heap.size w (w.alloc (.cells #[.int .i64 (n : Int), .int .i64 G, .slice fo L cf] 36)) := (Below.refl _ w).alloc (Nat.le_refl _) _
    clear hone
    go_enter Try.func8, Try.ntmps8
    go_wp2_with (go_at_call 16; refine (cP _).mono ?_; rintro e w1 ⟨rfl, hw⟩; subst w1)
    obtain ⟨W0, hW0⟩ : ∃ W0, w.alloc (.cells #[.int .i64 (n : Int), .int .i64 G, .slice fo L cf] 36) = W0 := ⟨_, rfl⟩
    rw [hW0] at hbox hB0 ⊢
    clear hW0
    have k0 := hbox.out.cell 0
    have k1 := hbox.out.cell 1
    simp at k0 k1
    go_loopw [6, 54] (fun r j wr => ∃ k r' : Nat, r = .int .i64 (r' : Int) ∧ j = .int .i64 (k : Int) ∧ k ≤ L ∧ 1 ≤ r' ∧ r' ≤ n ∧ Hid (SoFine (ls.take i) G n (F.take k)) ∧ Hid (r' = douts ((F.take k).map (val (ls.take i))) (n - 1)) ∧ ∃ d, wr = W0.drewN d) (fun r j wr => ((L : Int) - intOf j).toNat)
    case atStart => exact ⟨0, n - 1, by rw [show ((n - 1 : Nat) : Int) = (n : Int) - 1 by omega], rfl, by omega, by omega, by omega, fun k hk => (by simp at hk), by show _ = _; simp [douts], 0, rfl⟩
    case round =>
      obtain ⟨k, r, rfl, rfl, hk, hr1, hr2, hfine, hr, d, rfl⟩ := hrel
      have hBw : Hid (∀ d, Below w.heap.size w (W0.drewN d)) := fun d => below_drewN hB0 d
      by_cases hgo : k < L
      · have hgo' : (k : Int) < (L : Int) := by omega
        have hkl : Hid (k < F.length) := by have := HL.out; show k < F.length; omega
        rcases fo with _ | fd
        · exact (irow_none hrF hkl.out).elim
        · have c := (irow_below hrF hB0 (Nat.le_refl _)).2 fd rfl k hkl.out
          obtain ⟨x, hx⟩ : ∃ x, F.getD k 0 = x := ⟨_, rfl⟩
          rw [hx] at c
          have HX := hid hx
          have hxm : Hid (x ∈ F) := by show x ∈ F; rw [← hx]; exact getD_mem hkl.out
          clear hx
          by_cases hx0 : x < 0
          · have hx0' : decide (x < 0) = true := decide_eq_true hx0
            have hno : Hid (¬ Hold3 (ls.take i) G n F) := fun h => by have := (h.each x hxm.out).1.1; omega
            go_wp2
            go_quiet (fail)
            go_wp2
            go_ret
            exact ⟨Says.no hno.out, below_drewN (hBw.out _) _⟩
          · have hx0' : decide (x < 0) = false := decide_eq_false hx0
            obtain ⟨p, rfl⟩ : ∃ p : Nat, x = (p : Int) := ⟨x.toNat, by omega⟩
            by_cases hpM : i ≤ p
            · have hpM' : decide (i ≤ p) = true := decide_eq_true hpM
              have hno : Hid (¬ Hold3 (ls.take i) G n F) := fun h => by
                have := (h.each (p : Int) hxm.out).1.2
                rw [List.length_take] at this
                omega
              go_wp2
              go_quiet (fail)
              go_wp2
              go_ret
              exact ⟨Says.no hno.out, below_drewN (hBw.out _) _⟩
            · have hpM' : decide (i ≤ p) = false := decide_eq_false hpM
              have hpM2 : (p : Int) < (ls.length : Int) := by omega
              have hp0 : (0 : Int) ≤ (p : Int) := by omega
              obtain ⟨d1, _, _⟩ := (lrow_below hrow hB0 (Nat.le_refl _)).2 ad rfl p (by omega)
              have hgp : (ls.take i).getD p Ln0 = ls.getD p Ln0 := take_get (by omega)
              obtain ⟨Q, hQ⟩ : ∃ Q, (ls.getD p Ln0).N = Q := ⟨_, rfl⟩
              rw [hQ] at d1
              have hvQ : Hid (((ls.take i).getD (p : Int).toNat Ln0).N = Q) := by
                show _ = _
                rw [show ((p : Int)).toNat = p by omega, hgp]; exact hQ
              clear hQ hgp
              by_cases hQ2 : Q < 2
              · have hQ2' : decide (Q < 2) = true := decide_eq_true hQ2
                have hno : Hid (¬ Hold3 (ls.take i) G n F) := fun h => by
                  have := (h.each (p : Int) hxm.out).2.1
                  rw [hvQ.out] at this
                  omega
                go_wp2
                go_quiet (fail)
                go_wp2
                go_ret
                exact ⟨Says.no hno.out, below_drewN (hBw.out _) _⟩
              · obtain ⟨q, rfl⟩ : ∃ q : Nat, Q = (q : Int) := ⟨Q.toNat, by omega⟩
                have hq2 : 2 ≤ q := by omega
                have hQ2' : decide ((q : Int) < 2) = false := decide_eq_false hQ2
                have hval : Hid (val (ls.take i) (p : Int) = q) := by show val _ _ = _; unfold val; rw [hvQ.out]; omega
                have hq0 : ¬ (q : Int) = 0 := by omega
                have hq0' : ¬ q = 0 := by omega
                by_cases hd : q ∣ n - 1
                · have hmz : (((n : Int) - 1) % (q : Int) != 0) = false := by
                    rw [show ((n : Int) - 1) % (q : Int) = (((n - 1) % q : Nat) : Int) by rw [show ((n : Int) - 1) = ((n - 1 : Nat) : Int) by omega]; simp, Nat.mod_eq_zero_of_dvd hd]; rfl
                  have e1 : ((n : Int) - 1) / (q : Int) = (((n - 1) / q : Nat) : Int) := by
                    rw [show ((n : Int) - 1) = ((n - 1 : Nat) : Int) by omega]; simp
                  have hle : (n - 1) / q ≤ 1048576 := Nat.le_trans (Nat.div_le_self _ _) (by omega)
                  have cZ := fun w => refPow_any G n (by omega) hn2 ((n - 1) / q) w (by omega)
                  rw [← e1] at cZ
                  have hb1 : 0 ≤ ((n : Int) - 1) / (q : Int) := by rw [e1]; exact Int.natCast_nonneg _
                  have hb2 : ((n : Int) - 1) / (q : Int) ≤ 1048576 := by rw [e1]; omega
                  clear e1 hle
                  have HD := hid hd
                  have hnx : Hid (douts ((F.take (k + 1)).map (val (ls.take i))) (n - 1) = dout q r) := by
                    show _ = _
                    rw [getF hkl.out, HX.out, douts_next, hval.out, ← hr.out]
                  clear hd
                  obtain ⟨P1, hP1⟩ : ∃ P1, pw G ((n - 1) / q) n = P1 := ⟨_, rfl⟩
                  rw [hP1] at cZ
                  have HP := hid hP1
                  clear hP1
                  go_wp2
                  go_quiet (fail)
                  go_wp2
                  go_loop [6] (fun r' => ∃ s : Nat, r' = .int .i64 (s : Int) ∧ 1 ≤ s ∧ s ≤ n ∧ Hid (dout q s = dout q r)) (fun r' => (intOf r').toNat)
                  case atStart => exact ⟨r, rfl, hr1, by omega, rfl⟩
                  case round =>
                    obtain ⟨s, rfl, hs1, hs2, hs⟩ := hrel
                    by_cases hd : q ∣ s
                    · have hmy : ((s : Int) % (q : Int) == 0) = true := by
                        rw [show (s : Int) % (q : Int) = ((s % q : Nat) : Int) by simp, Nat.mod_eq_zero_of_dvd hd]; rfl
                      have hlt : s / q < s := Nat.div_lt_self hs1 (by omega)
                      have hp : 1 ≤ s / q := Nat.div_pos (Nat.le_of_dvd (by omega) hd) (by omega)
                      have hs3 : Hid (dout q (s / q) = dout q r) := by show _ = _; rw [← dout_step hq2 hs1 hd]; exact hs.out
                      clear hd
                      go_wp2
                      go_round
                      case rel => exact ⟨s / q, by simp, hp, by omega, hs3⟩
                      case measure => simp only [intOf]; rw [show (s : Int) / (q : Int) = ((s / q : Nat) : Int) by simp]; omega
                    · have hmy : ((s : Int) % (q : Int) == 0) = false := by
                        rw [show (s : Int) % (q : Int) = ((s % q : Nat) : Int) by simp]
                        have : ¬ s % q = 0 := fun h => hd (Nat.dvd_of_mod_eq_zero h)
                        simp; omega
                      have hs3 : Hid (s = douts ((F.take (k + 1)).map (val (ls.take i))) (n - 1)) := by show _ = _; rw [hnx.out, ← hs.out, dout_stop hd]
                      clear hd
                      by_cases h1 : P1 = 1
                      · have hno : Hid (¬ Hold3 (ls.take i) G n F) := fun h => by
                          have h5 := (h.each (p : Int) hxm.out).2.2.2
                          rw [hval.out, HP.out] at h5
                          exact h5 h1
                        subst h1
                        go_wp2
                        go_quiet ((go_at_call 16; first | exact Calls.quiet_of_same (cZ _) | exact quiet_at2 (cZ _)))
                        go_wp2
                        go_ret
                        exact ⟨Says.no hno.out, below_drewN (hBw.out _) _⟩
                      · have h1' : ((P1 : Int) == 1) = false := by simp; omega
                        have hf2 : Hid (SoFine (ls.take i) G n (F.take (k + 1))) := by
                          show SoFine _ _ _ _
                          rw [getF hkl.out, HX.out]
                          refine soFine_snoc hfine.out ⟨⟨by omega, by rw [List.length_take]; omega⟩, by rw [hvQ.out]; omega, by rw [hval.out]; exact HD.out, by rw [hval.out, HP.out]; exact h1⟩
                        go_wp2
                        go_quiet ((go_at_call 16; first | exact Calls.quiet_of_same (cZ _) | exact quiet_at2 (cZ _)))
                        go_wp2
                        go_roundw
                        case rel => exact ⟨k + 1, s, rfl, by simp, by omega, hs1, hs2, hf2, hs3, _, rfl⟩
                        case measure => exact measK hgo
                · have hmz : (((n : Int) - 1) % (q : Int) != 0) = true := by
                    rw [show ((n : Int) - 1) % (q : Int) = (((n - 1) % q : Nat) : Int) by rw [show ((n : Int) - 1) = ((n - 1 : Nat) : Int) by omega]; simp]
                    have : ¬ (n - 1) % q = 0 := fun h => hd (Nat.dvd_of_mod_eq_zero h)
                    simp; omega
                  have hno : Hid (¬ Hold3 (ls.take i) G n F) := fun h => hd (by have := (h.each (p : Int) hxm.out).2.2.1; rw [hval.out] at this; exact this)
                  clear hd
                  go_wp2
                  go_quiet (fail)
                  go_wp2
                  go_ret
                  exact ⟨Says.no hno.out, below_drewN (hBw.out _) _⟩
      · have hgo' : ¬ (k : Int) < (L : Int) := by omega
        have e : F.take k = F := List.take_of_length_le (by have := HL.out; omega)
        rw [e] at hfine hr
        clear e
        by_cases h1 : r = 1
        · have hy : Hid (Hold3 (ls.take i) G n F) := ⟨HONE.out, hfine.out, by rw [← hr.out, h1]⟩
          subst h1
          go_wp2
          go_ret
          exact ⟨Says.yes hy.out, hBw.out _⟩
        · have hy : Hid (¬ Hold3 (ls.take i) G n F) := fun h => h1 (by rw [hr.out]; exact h.left)
          have h1' : ((r : Int) == 1) = false := by simp; omega
          go_wp2
          go_ret
          exact ⟨Says.no hy.out, hBw.out _⟩
  · obtain ⟨p, hp⟩ : ∃ p, pw G (n - 1) n = p := ⟨_, rfl⟩
    have hy : Hid (¬ Hold3 (ls.take i) G n F) := fun h => hone h.one
    rw [hp] at cP hone
    have h1' : ((p : Int) != 1) = true := by simp; omega
    clear hp hrF
    go_enter Try.func8, Try.ntmps8
    go_wp2_with (go_at_call 16; refine (cP _).mono ?_; rintro e w1 ⟨rfl, hw⟩; subst w1)
    go_ret
    exact ⟨Says.no hy.out, (Below.refl _ w).alloc (Nat.le_refl _) _⟩

theorem refHolds_any (ao : Option Addr) (cap : Nat) (ls : List Ln) (i : Nat) (hi : i < ls.length) (hl : ls.length ≤ 1048576) (w : World) (hrow : LRow w ao ls) :
    Calls Try.prog 8 #[.slice ao ls.length cap, .int .i64 (i : Int)] w fun e w' => Says (Hold (ls.take i) (ls.getD i Ln0)) e ∧ Below w.heap.size w w' := by
  rcases ao with _ | ad
  · exact (lrow_none hrow hi).elim
  · by_cases h2 : (ls.getD i Ln0).N = 2
    · exact (refHolds_two _ cap ls i hi hl w hrow h2).mono fun e w' ⟨h1, h3⟩ => ⟨by rw [h1]; exact Says.yes (.inl h2), h3⟩
    · by_cases h : (3 ≤ (ls.getD i Ln0).N ∧ (ls.getD i Ln0).N ≤ 1048576) ∧ (1 ≤ (ls.getD i Ln0).G ∧ (ls.getD i Ln0).G < (ls.getD i Ln0).N)
      · have e : (ls.getD i Ln0).N = ((ls.getD i Ln0).N.toNat : Int) := by omega
        refine (refHolds_in ad cap ls i hi hl w hrow (ls.getD i Ln0).N.toNat (ls.getD i Ln0).G (ls.getD i Ln0).F (by omega) (by omega) (by omega) (by omega) (by rw [← e])).mono fun e w' ⟨h1, h3⟩ => ⟨?_, h3⟩
        obtain ⟨b, hb, he⟩ := h1
        refine ⟨b, hb.trans ⟨fun h4 => .inr ⟨h.1, h.2, h4⟩, fun h4 => ?_⟩, he⟩
        rcases h4 with h4 | h4
        · exact absurd h4 h2
        · exact h4.2.2
      · refine (refHolds_out _ cap ls i hi hl w hrow h2 h).mono fun e w' ⟨h1, h3⟩ => ⟨?_, h3⟩
        rw [h1]
        refine Says.no (fun h4 => ?_)
        rcases h4 with h4 | h4
        · exact h2 h4
        · exact h ⟨h4.1, h4.2.1⟩

end Go.Proofs.Ytmomlcibiklajaa.Calls39
