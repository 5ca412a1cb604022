/-
  Package parts: what the shares of each value tell: all of them, and some of them.
-/
import Derived.Test.YtpnmepobdnclkaaCalls190
import Derived.Test.YtpnmepobdnclkaaCalls95
namespace Go.Proofs.Ytpnmepobdnclkaa.Calls191
set_option linter.unusedVariables false
open Go.ChangeShapes Go.WideShapes Go.ChangeAt Go.RowKit Go.Deep Go.Proofs.Ytpnmepobdnclkaa.Base Go.Proofs.Ytpnmepobdnclkaa.Base2 Go.Proofs.Ytpnmepobdnclkaa.Num Go.Proofs.Ytpnmepobdnclkaa.Num13 Go.Proofs.Ytpnmepobdnclkaa.Num16 Go.Proofs.Ytpnmepobdnclkaa.Num17 Go.Proofs.Ytpnmepobdnclkaa.Num34 Go.Proofs.Ytpnmepobdnclkaa.Num35 Go.Proofs.Ytpnmepobdnclkaa.Num39 Go.Proofs.Ytpnmepobdnclkaa.Num61 Go.Proofs.Ytpnmepobdnclkaa.Num69 Go.Proofs.Ytpnmepobdnclkaa.Num70 Go.Proofs.Ytpnmepobdnclkaa.Base4 Go.Proofs.Ytpnmepobdnclkaa.Base5 Go.Proofs.Ytpnmepobdnclkaa.Base10 Go.Proofs.Ytpnmepobdnclkaa.Calls56 Go.Proofs.Ytpnmepobdnclkaa.Calls69 Go.Proofs.Ytpnmepobdnclkaa.Calls176 Go.Proofs.Ytpnmepobdnclkaa.Calls182 Go.Proofs.Ytpnmepobdnclkaa.Calls183 Go.Proofs.Ytpnmepobdnclkaa.Calls184 Go.Proofs.Ytpnmepobdnclkaa.Calls189 Go.Proofs.Ytpnmepobdnclkaa.Calls190
open Go.Proofs.Ytpnmepobdnclkaa.Calls73 (dist_of)
open Go.Proofs.Ytpnmepobdnclkaa.Calls87 (ib)
open Go.Proofs.Ytpnmepobdnclkaa.Calls90 (InM)
open Go.Proofs.Ytpnmepobdnclkaa.Calls91 (refJoin_any)
open Go.Proofs.Ytpnmepobdnclkaa.Calls94 (fewL fewL_len)
open Go.Proofs.Ytpnmepobdnclkaa.Calls95 (fewL_at fewL_inc)

/-- What is known where a play may be. -/
theorem play_of {p t : Int} {n : Nat} {F : Nat → Nat → Int} {l R : List Int} (h : PlC p t n F l R 0) : ∃ (P T : Nat) (r : Nat → Int), p = (P : Int) ∧ t = (T : Int) ∧ Pr P ∧ P ≤ 251 ∧ T ≤ 4 ∧ 2 * T + 1 < P ∧ n ≤ 60 ∧ (∀ i, i < 2 * T + 1 → JoinIs P XP (dl i) (2 * T + 1) (r i)) ∧
    ∀ i, i < n → One P T (co (clr P l F n) i) (rwl (rows P T l R r F n) i) := by
  obtain ⟨hg, ht, hR⟩ := h.ok
  obtain ⟨hp, hn, hl, hI, hG⟩ := hg.ok
  obtain ⟨P, rfl, hP, hP2⟩ := hp.ok
  obtain ⟨r, hr⟩ := r_ex (n := 2 * t.toNat + 1) hP (by omega)
  refine ⟨P, t.toNat, r, rfl, by omega, hP, hP2, by omega, by omega, hn, hr, ?_⟩
  exact all_one hP (by omega) (fun i hi => hI i hi) hr hG

theorem one_opc {P T : Nat} (hP : Pr P) (hP2 : P ≤ 251) (hT : T ≤ 4) (hTP : 2 * T + 1 < P) {v : Int} {y : List Int} (h : One P T v y) : OpC (P : Int) (T : Int) y 0 :=
  .inr ⟨PrC.of hP hP2, .inr ⟨⟨by omega, by rw [h.2.1]; exact fun j hj => h.2.2.1 j hj⟩, .inr ⟨by rw [h.2.1]; omega, rfl⟩⟩⟩

theorem one_open {P T : Nat} (hP : Pr P) (hTP : 2 * T + 1 < P) {v u : Int} {y : List Int} (h : One P T v y) (hu : JoinIs P XP (co y) y.length u) : u = v := by
  rw [h.2.1] at hu
  exact h.2.2.2.all hP (by omega) hTP h.1 hu

/-- Some of the shares, more than t, tell the value. -/
theorem one_few {P T : Nat} (hP : Pr P) (hP2 : P ≤ 251) (hTP : 2 * T + 1 < P) (hT : T ≤ 4) {v : Int} {y : List Int} (h : One P T v y) (M : Nat) {s : List (Int × Int)} (hs : s = fewL M (mp (2 * T + 1) XP (co y)) (min (2 * T + 1) 32)) (hm : T < s.length) (ao : Option Addr) (cap : Nat) (w : World) (hrow : PRow w ao s) :
    Calls Try.prog 11 #[.int .i64 (P : Int), .slice ao s.length cap] w fun e w' => e = .returned (.int .i64 v) ∧ Below w.heap.size w w' := by
  obtain ⟨V, hV⟩ : ∃ V, V = 2 * T + 1 := ⟨_, rfl⟩
  rw [← hV, show min V 32 = V by omega] at hs
  have hat : ∀ j, j < s.length → ∃ i, i < V ∧ px s j = XP i ∧ py s j = co y i := fun j hj => by
    rw [hs] at hj ⊢
    obtain ⟨i, hi, e⟩ := fewL_at M (mp V XP (co y)) V j hj
    rw [mp_get hi] at e
    exact ⟨i, hi, by unfold px; rw [e], by unfold py; rw [e]⟩
  have hI : InP (P : Int) s s.length := fun j hj => by
    obtain ⟨i, hi, e1, e2⟩ := hat j hj
    rw [e1, e2]
    exact ⟨by unfold XP; omega, h.2.2.1 i (by omega)⟩
  have hD : Dis s s.length := fun i j hi hj e => by
    rw [hs] at hi
    obtain ⟨a, b, hab, hb, e1, e2⟩ := fewL_inc M (mp V XP (co y)) V i j hi hj
    rw [mp_get (by omega)] at e1
    rw [mp_get hb] at e2
    rw [← hs] at e1 e2
    have f1 : px s j = XP a := by unfold px; rw [e1]
    have f2 : px s i = XP b := by unfold px; rw [e2]
    rw [f1, f2] at e
    unfold XP at e
    omega
  have hl : s.length ≤ 13 := by
    have := fewL_len M (mp V XP (co y)) V
    rw [← hs] at this
    omega
  obtain ⟨u, hu⟩ := join_ex (p := P) (X := px s) (Y := py s) (n := s.length) hP (dist_of hI hD) (fun j hj => (hI j hj).2)
  have e := h.2.2.2.join hP h.1 hm (X := px s) (Y' := py s) (fun j hj => by
    obtain ⟨i, hi, e1, e2⟩ := hat j hj
    exact ⟨i, by omega, e1, e2⟩) (dist_of hI hD) hu
  rw [← e]
  exact refJoin_any P hP hP2 ao cap s hl hI hD u hu w hrow

end Go.Proofs.Ytpnmepobdnclkaa.Calls191
