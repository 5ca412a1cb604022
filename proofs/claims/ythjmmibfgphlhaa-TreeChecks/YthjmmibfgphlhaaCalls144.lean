/-
  Does a leaf lead with its proof to a root: package tree's Check.
-/
import Derived.Test.YthjmmibfgphlhaaCalls143
namespace Go.Proofs.Ythjmmibfgphlhaa.Calls144
set_option linter.unusedVariables false
open Go.ChangeShapes Go.WideShapes Go.ChangeAt Go.RowKit Go.Deep Go.Proofs.Ythjmmibfgphlhaa.Base Go.Proofs.Ythjmmibfgphlhaa.Base2 Go.Proofs.Ythjmmibfgphlhaa.Base7 Go.Proofs.Ythjmmibfgphlhaa.Base8 Go.Proofs.Ythjmmibfgphlhaa.Base9 Go.Proofs.Ythjmmibfgphlhaa.Num55 Go.Proofs.Ythjmmibfgphlhaa.Num60 Go.Proofs.Ythjmmibfgphlhaa.Calls126 Go.Proofs.Ythjmmibfgphlhaa.Calls128 Go.Proofs.Ythjmmibfgphlhaa.Calls133 Go.Proofs.Ythjmmibfgphlhaa.Calls134 Go.Proofs.Ythjmmibfgphlhaa.Calls135 Go.Proofs.Ythjmmibfgphlhaa.Calls141 Go.Proofs.Ythjmmibfgphlhaa.Calls142 Go.Proofs.Ythjmmibfgphlhaa.Calls143

theorem top_six {n : Nat} (h1 : 1 ≤ n) (h2 : n ≤ 64) : ∃ h, h ≤ 6 ∧ Top n h := top_ex h1 6 (mn_end h1 (by omega))

theorem bool_of (P : Prop) : ∃ g : Bool, g = true ↔ P := by
  rcases Classical.em P with h | h
  · exact ⟨true, fun _ => h, fun _ => rfl⟩
  · exact ⟨false, fun e => (by cases e), fun e => absurd e h⟩

/-- A proof of the right kind: its nodes are nodes, and they are as many as needed. -/
def GoodP (n i : Nat) (p : List Nat) (h : Nat) : Prop := ¬ FarP p ∧ p.length = us n i h

/-- What who asks of a place hands in, and what is known of it where nothing is wrong. -/
structure Pl (n i : Int) (m k : Nat) (n0 i0 h : Nat) : Prop where
  en : n = (n0 : Int)
  ei : i = (i0 : Int)
  one : 1 ≤ n0
  few : n0 ≤ 64
  lt : i0 < n0
  six : h ≤ 6
  top : Top n0 h
  text : m ≤ 4095
  nodes : k ≤ 64

theorem pl_ex {n i : Int} {m k : Nat} (h : PlC n i m k 0) : ∃ n0 i0 t, Pl n i m k n0 i0 t := by
  obtain ⟨h1, h2, h3, h4, h5, h6⟩ := h.ok
  obtain ⟨t, ht, htop⟩ := top_six (n := n.toNat) (by omega) (by omega)
  exact ⟨n.toNat, i.toNat, t, by omega, by omega, by omega, by omega, by omega, ht, htop, h5, h6⟩

set_option maxRecDepth 100000 in
theorem Check_bad (R n i : Int) (lo po : Option Addr) (m k lc pc : Nat) (c : Int) (hc : PlC n i m k c) (h0 : c ≠ 0) (hm : m ≤ 9223372036854775807) (w : World) :
    Calls Try.prog 16 #[.int .u32 R, .int .i64 n, .int .i64 i, .slice lo m lc, .slice po k pc] w fun e w' => e = .returned (.tuple #[.bool false, .int .i64 c]) ∧ w' = w := by
  have cC := checkProof_any n i lo po m k lc pc c hc hm w
  clear hc
  go_enter Try.func16, Try.ntmps16
  go_wp2_with (go_at_call 32; refine cC.mono ?_; rintro e w1 ⟨rfl, hw⟩; subst w1)
  go_ret2
  exact ⟨rfl, rfl⟩

set_option maxRecDepth 100000 in
set_option maxHeartbeats 1000000 in
theorem Check_yes (R : Int) (n0 i0 : Nat) (h1 : 1 ≤ n0) (h64 : n0 ≤ 64) (hi : i0 < n0) (h : Nat) (h6 : h ≤ 6) (ht : Top n0 h) (lo po : Option Addr) (lc pc : Nat) (a p : List Nat) (ha : a.length ≤ 4095) (hb : Byt a) (hp64 : p.length ≤ 64) (hpc : p.length ≤ pc) (b : Bool) (hbb : b = true ↔ GoodP n0 i0 p h ∧ ((kn n0 i0 p a h : Nat) : Int) = R) (w : World) (ra : YRow w lo a) (rp : URow w po p) :
    Calls Try.prog 16 #[.int .u32 R, .int .i64 (n0 : Int), .int .i64 (i0 : Int), .slice lo a.length lc, .slice po p.length pc] w fun e w' => e = .returned (.tuple #[.bool b, .int .i64 0]) ∧ Below w.heap.size w w' := by
  obtain ⟨g, hg⟩ := bool_of (GoodP n0 i0 p h)
  have cC := checkProof_any (n0 : Int) (i0 : Int) lo po a.length p.length lc pc 0 (.inr ⟨by omega, .inr ⟨by omega, rfl⟩⟩) (by omega) w
  have cW := wayUp_any n0 i0 h1 h64 hi h h6 ht lo po lc pc a p ha hb hp64 hpc g hg w ra rp
  cases g with
  | true =>
    have hus := Nat.le_trans (us_le (n := n0) (i := i0) h) h6
    have hfit := wl_at_fit (n := n0) (i := i0) (p := p) ha hb (k := h) (j := us n0 i0 h) (Nat.le_refl _)
    have hend := wl_end n0 i0 p a h
    have cE := hid (fun v (w' : World) (hw : WTab w' w.heap.size v (us n0 i0 h + 1) (wl n0 i0 p a h)) => end_any w.heap.size v (us n0 i0 h) (wl n0 i0 p a h) (by omega) w' hw hfit.1 hfit.2.1)
    rw [hend] at cE
    have hbR : ((((kn n0 i0 p a h : Nat) : Int)) == R) = b := by
      rw [Bool.eq_iff_iff, beq_iff_eq, hbb]
      exact ⟨fun e => ⟨hg.1 rfl, e⟩, fun e => e.2⟩
    generalize kn n0 i0 p a h = x at *
    generalize a.length = na at *
    generalize p.length = np at *
    clear hg hbb ra rp hb hfit hend ht hpc
    go_enter Try.func16, Try.ntmps16
    go_wp2_with (first
      | (go_at_call 32; refine cC.mono ?_; rintro e w1 ⟨rfl, hw⟩; subst w1)
      | (go_at_call 33; refine cW.mono ?_; rintro e w2 ⟨⟨v, ao, m, c, hv, rfl, hW⟩, hB⟩; have HW := hid (hW rfl); have HB := hid hB; clear hW hB hv)
      | (go_at_call 34; refine (cE.out v _ HW.out).mono ?_; rintro e w3 ⟨rfl, hB3⟩; have HB3 := hid (below_trans HB.out hB3); clear hB3))
    go_ret2
    exact ⟨rfl, HB3.out⟩
  | false =>
    have hbf : b = false := by
      cases b with
      | false => rfl
      | true => have := hg.2 (hbb.1 rfl).1; cases this
    subst hbf
    generalize a.length = na at *
    generalize p.length = np at *
    clear hg hbb ra rp hb ht hpc
    go_enter Try.func16, Try.ntmps16
    go_wp2_with (first
      | (go_at_call 32; refine cC.mono ?_; rintro e w1 ⟨rfl, hw⟩; subst w1)
      | (go_at_call 33; refine cW.mono ?_; rintro e w2 ⟨⟨v, ao, m, c, rfl, rfl, hW⟩, hB⟩; have HB := hid hB; clear hW hB))
    go_ret2
    exact ⟨rfl, HB.out⟩

end Go.Proofs.Ythjmmibfgphlhaa.Calls144
