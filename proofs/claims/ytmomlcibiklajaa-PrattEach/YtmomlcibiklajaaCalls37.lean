/-
  What holds of package pratt answers, and Check; the document's Holds.
-/
import Derived.Test.YtmomlcibiklajaaCalls36
import Derived.Deep.RegionWith
namespace Go.Proofs.Ytmomlcibiklajaa.Calls37
set_option linter.unusedVariables false
open Go.ChangeShapes Go.WideShapes Go.ChangeAt Go.RowKit Go.Deep Go.Proofs.Ytmomlcibiklajaa.Base Go.Proofs.Ytmomlcibiklajaa.Num13 Go.Proofs.Ytmomlcibiklajaa.Num31 Go.Proofs.Ytmomlcibiklajaa.Calls35 Go.Proofs.Ytmomlcibiklajaa.Calls36
open Go.Proofs.Ytmomlcibiklajaa.Calls19 (refPow_any)

theorem below_box {w w1 : World} {o : Obj} (h : Below (w.alloc o).heap.size (w.alloc o) w1) : Below w.heap.size w w1 :=
  below_trans ((Below.refl _ w).alloc (Nat.le_refl _) o) h

theorem line_cells {w w1 : World} {t : TypeId} {a b c : Value} (h : Below (w.alloc (.cells #[a, b, c] t)).heap.size (w.alloc (.cells #[a, b, c] t)) w1) :
    w1.cell? ⟨w.heap.size, 0, none⟩ = some a ∧ w1.cell? ⟨w.heap.size, 1, none⟩ = some b ∧ w1.cell? ⟨w.heap.size, 2, none⟩ = some c := by
  have hb := (BoxC.new w t #[a, b, c]).below h (by simp)
  exact ⟨hb.cell 0, hb.cell 1, hb.cell 2⟩

theorem holds_two (G : Int) (F : List Int) (fo : Option Addr) (cf : Nat) (v : Value) (w : World) :
    Calls Try.prog 15 #[.agg #[.int .i64 2, .int .i64 G, .slice fo F.length cf], v] w fun e w' => e = .returned (.bool true) ∧ Below w.heap.size w w' := by
  go_enter Try.func15, Try.ntmps15
  go_wp2
  go_ret
  exact ⟨rfl, (Below.refl _ w).alloc (Nat.le_refl _) _⟩

theorem holds_out (N G : Int) (F : List Int) (fo : Option Addr) (cf : Nat) (v : Value) (w : World) (h2 : ¬ N = 2) (h : ¬ ((3 ≤ N ∧ N ≤ 1048576) ∧ (1 ≤ G ∧ G < N))) :
    Calls Try.prog 15 #[.agg #[.int .i64 N, .int .i64 G, .slice fo F.length cf], v] w fun e w' => e = .returned (.bool false) ∧ Below w.heap.size w w' := by
  have h2' : (N == 2) = false := by simp [h2]
  by_cases h3 : N < 3
  · clear h
    go_enter Try.func15, Try.ntmps15
    go_wp2
    go_ret
    exact ⟨rfl, (Below.refl _ w).alloc (Nat.le_refl _) _⟩
  · by_cases h4 : 1048576 < N
    · clear h
      go_enter Try.func15, Try.ntmps15
      go_wp2
      go_ret
      exact ⟨rfl, (Below.refl _ w).alloc (Nat.le_refl _) _⟩
    · by_cases h5 : G < 1
      · clear h
        go_enter Try.func15, Try.ntmps15
        go_wp2
        go_ret
        exact ⟨rfl, (Below.refl _ w).alloc (Nat.le_refl _) _⟩
      · have h6 : N ≤ G := by omega
        clear h
        go_enter Try.func15, Try.ntmps15
        go_wp2
        go_ret
        exact ⟨rfl, (Below.refl _ w).alloc (Nat.le_refl _) _⟩

set_option maxRecDepth 100000 in
theorem holds_in (n : Nat) (G : Int) (F : List Int) (fo : Option Addr) (cf : Nat) (ao : Option Addr) (cap : Nat) (ls : List Ln) (hn1 : 3 ≤ n) (hn2 : n ≤ 1048576) (hg1 : 1 ≤ G) (hg2 : G < n) (hls : ls.length ≤ 64) (hb : ∀ y ∈ ls, 2 ≤ y.N) (hF : F.length ≤ 9223372036854775807) (w : World) (hrF : IRow w fo F) (hrow : LRow w ao ls) (b : Bool) (hh : b = true ↔ Hold3 ls G n F) :
    Calls Try.prog 15 #[.agg #[.int .i64 (n : Int), .int .i64 G, .slice fo F.length cf], .slice ao ls.length cap] w fun e w' => e = .returned (.bool b) ∧ Below w.heap.size w w' := by
  rw [hold3_iff hb hn1] at hh
  have hB0 : Below w.heap.size w (w.alloc (.cells #[.int .i64 (n : Int), .int .i64 G, .slice fo F.length cf] 36)) := (Below.refl _ w).alloc (Nat.le_refl _) _
  have cN := named_any n G F fo cf ao cap ls hn1 hn2 hls hb hF _ (irow_below hrF hB0 (Nat.le_refl _)) (lrow_below hrow hB0 (Nat.le_refl _))
  have h2' : ¬ (n : Int) = 2 := by omega
  by_cases hk : Known ls n F
  · have cN2 := cN.mono (R' := fun e w' => (∃ bo cb, e = .returned (.tuple #[.slice bo (facts ls F).length cb, .bool true]) ∧ IRow w' bo (zs (facts ls F))) ∧ Below (w.alloc (.cells #[.int .i64 (n : Int), .int .i64 G, .slice fo F.length cf] 36)).heap.size (w.alloc (.cells #[.int .i64 (n : Int), .int .i64 G, .slice fo F.length cf] 36)) w') (fun e w1 h => ⟨by
      rcases h.1 with ⟨_, h⟩ | ⟨h, _⟩
      · exact h
      · exact absurd hk h, h.2⟩)
    have hfl := facts_len (n := n) (fun j hj => (hk j hj).1) hls
    have hfb := fact_bd hb hn1 hn2 hk
    have cM := fun bo cb w hr => makeUp_any bo cb (facts ls F) (n - 1) (by omega) hfb (by omega) (by omega) w hr
    rw [show ((n - 1 : Nat) : Int) = (n : Int) - 1 by omega] at cM
    by_cases hd : douts (facts ls F) (n - 1) = 1
    · rw [decide_eq_true hd] at cM
      have hl : b = true ↔ Last G n (facts ls F) := hh.trans ⟨fun h => h.2.2, fun h => ⟨hk, hd, h⟩⟩
      have cL := fun bo cb w hr => crl_any bo cb (facts ls F) G n hg1 hg2 hn1 hn2 (by omega) hfb w hr b hl
      clear cN hk hh hd hl hfb hb hrF hrow
      cases b with
      | true =>
        go_enter Try.func15, Try.ntmps15
        go_wp2_with (first
          | (go_at_call 24; refine cN2.mono ?_; rintro e w1 ⟨⟨bo, cb, rfl, hr⟩, hB1⟩; obtain ⟨k0, k1, k2⟩ := line_cells hB1; have HR := hid hr; clear hr)
          | (go_at_call 25; refine (cM _ _ _ HR.out).mono ?_; rintro e w2 ⟨rfl, hw⟩; subst w2)
          | (go_at_call 26; refine (cL _ _ _ HR.out).mono ?_; rintro e w2 ⟨rfl, hB2⟩))
        go_ret
        exact ⟨rfl, below_trans (below_box hB1) hB2⟩
      | false =>
        go_enter Try.func15, Try.ntmps15
        go_wp2_with (first
          | (go_at_call 24; refine cN2.mono ?_; rintro e w1 ⟨⟨bo, cb, rfl, hr⟩, hB1⟩; obtain ⟨k0, k1, k2⟩ := line_cells hB1; have HR := hid hr; clear hr)
          | (go_at_call 25; refine (cM _ _ _ HR.out).mono ?_; rintro e w2 ⟨rfl, hw⟩; subst w2)
          | (go_at_call 26; refine (cL _ _ _ HR.out).mono ?_; rintro e w2 ⟨rfl, hB2⟩))
        go_ret
        exact ⟨rfl, below_trans (below_box hB1) hB2⟩
    · rw [decide_eq_false hd] at cM
      have e : b = false := by
        cases b
        · rfl
        · exact absurd (hh.1 rfl).2.1 hd
      subst e
      clear cN hk hh hd hfb hb hrF hrow
      go_enter Try.func15, Try.ntmps15
      go_wp2_with (first
        | (go_at_call 24; refine cN2.mono ?_; rintro e w1 ⟨⟨bo, cb, rfl, hr⟩, hB1⟩; obtain ⟨k0, k1, k2⟩ := line_cells hB1; have HR := hid hr; clear hr)
        | (go_at_call 25; refine (cM _ _ _ HR.out).mono ?_; rintro e w2 ⟨rfl, hw⟩; subst w2))
      go_ret
      exact ⟨rfl, below_box hB1⟩
  · have cN2 := cN.mono (R' := fun e w' => e = .returned (.tuple #[.slice none 0 0, .bool false]) ∧ Below (w.alloc (.cells #[.int .i64 (n : Int), .int .i64 G, .slice fo F.length cf] 36)).heap.size (w.alloc (.cells #[.int .i64 (n : Int), .int .i64 G, .slice fo F.length cf] 36)) w') (fun e w1 h => ⟨by
      rcases h.1 with ⟨h, _⟩ | ⟨_, h⟩
      · exact absurd h hk
      · exact h, h.2⟩)
    have e : b = false := by
      cases b
      · rfl
      · exact absurd (hh.1 rfl).1 hk
    subst e
    clear cN hk hh hb hrF hrow
    go_enter Try.func15, Try.ntmps15
    go_wp2_with (go_at_call 24; refine cN2.mono ?_; rintro e w1 ⟨rfl, hB1⟩; obtain ⟨k0, k1, k2⟩ := line_cells hB1)
    go_ret
    exact ⟨rfl, below_box hB1⟩

theorem holds_any (x : Ln) (fo : Option Addr) (cf : Nat) (ao : Option Addr) (cap : Nat) (ls : List Ln) (hls : ls.length ≤ 64) (hb : ∀ y ∈ ls, 2 ≤ y.N) (hF : x.F.length ≤ 9223372036854775807) (w : World) (hrF : IRow w fo x.F) (hrow : LRow w ao ls) (b : Bool) (hh : b = true ↔ Hold ls x) :
    Calls Try.prog 15 #[.agg #[.int .i64 x.N, .int .i64 x.G, .slice fo x.F.length cf], .slice ao ls.length cap] w fun e w' => e = .returned (.bool b) ∧ Below w.heap.size w w' := by
  by_cases h2 : x.N = 2
  · rw [h2, hh.2 (.inl h2)]
    exact holds_two _ _ _ _ _ w
  · by_cases hr : (3 ≤ x.N ∧ x.N ≤ 1048576) ∧ (1 ≤ x.G ∧ x.G < x.N)
    · have e : x.N = (x.N.toNat : Int) := by omega
      have hh2 : b = true ↔ Hold3 ls x.G x.N.toNat x.F := hh.trans ⟨fun h => by
        rcases h with h | h
        · exact absurd h h2
        · exact h.2.2, fun h => .inr ⟨hr.1, hr.2, h⟩⟩
      have := holds_in x.N.toNat x.G x.F fo cf ao cap ls (by omega) (by omega) (by omega) (by omega) hls hb hF w hrF hrow b hh2
      rw [← e] at this
      exact this
    · have e : b = false := by
        cases b
        · rfl
        · rcases hh.1 rfl with h | h
          · exact absurd h h2
          · exact absurd ⟨h.1, h.2.1⟩ hr
      subst e
      exact holds_out _ _ _ _ _ _ w h2 hr

end Go.Proofs.Ytmomlcibiklajaa.Calls37
