/-
  The document's elements and its least element whose powers are all; powers one by one.
-/
import Derived.Test.YtjpmkcijkcnfiabCalls84
import Derived.Test.YtjpmkcijkcnfiabCalls60
import Derived.Deep.RegionHeld3
import Derived.Deep.RegionWith
namespace Go.Proofs.Ytjpmkcijkcnfiab.Calls85
set_option linter.unusedVariables false
open Go.ChangeShapes Go.WideShapes Go.ChangeAt Go.RowKit Go.Deep Go.Proofs.Ytjpmkcijkcnfiab.Base Go.Proofs.Ytjpmkcijkcnfiab.Base2 Go.Proofs.Ytjpmkcijkcnfiab.Num Go.Proofs.Ytjpmkcijkcnfiab.Num16 Go.Proofs.Ytjpmkcijkcnfiab.Num17 Go.Proofs.Ytjpmkcijkcnfiab.Num21 Go.Proofs.Ytjpmkcijkcnfiab.Num23 Go.Proofs.Ytjpmkcijkcnfiab.Num34 Go.Proofs.Ytjpmkcijkcnfiab.Num35 Go.Proofs.Ytjpmkcijkcnfiab.Num36 Go.Proofs.Ytjpmkcijkcnfiab.Num37 Go.Proofs.Ytjpmkcijkcnfiab.Num38 Go.Proofs.Ytjpmkcijkcnfiab.Base4 Go.Proofs.Ytjpmkcijkcnfiab.Calls56 Go.Proofs.Ytjpmkcijkcnfiab.Calls57 Go.Proofs.Ytjpmkcijkcnfiab.Calls58 Go.Proofs.Ytjpmkcijkcnfiab.Calls61 Go.Proofs.Ytjpmkcijkcnfiab.Calls75 Go.Proofs.Ytjpmkcijkcnfiab.Calls77 Go.Proofs.Ytjpmkcijkcnfiab.Calls78 Go.Proofs.Ytjpmkcijkcnfiab.Calls76 Go.Proofs.Ytjpmkcijkcnfiab.Calls79 Go.Proofs.Ytjpmkcijkcnfiab.Calls62 Go.Proofs.Ytjpmkcijkcnfiab.Calls80 Go.Proofs.Ytjpmkcijkcnfiab.Calls81 Go.Proofs.Ytjpmkcijkcnfiab.Calls82 Go.Proofs.Ytjpmkcijkcnfiab.Calls83 Go.Proofs.Ytjpmkcijkcnfiab.Calls84
open Go.Proofs.Ytjpmkcijkcnfiab.Num13 (rs rs_cast)
open Go.Proofs.Ytjpmkcijkcnfiab.Calls60 (wrap_in)
open Go.Proofs.Ytjpmkcijkcnfiab.Num20 (pw Ord)
open Go.Proofs.Ytjpmkcijkcnfiab.Num22 (El MulR)

theorem ec_one {p : Int} {f : List Int} {a c : Int} (h : EC p f [a] c) : (FC p f c ∧ c ≠ 0) ∨ (FC p f 0 ∧ ((¬ (0 ≤ a ∧ a < ((p.toNat ^ (f.length - 1) : Nat) : Int)) ∧ c = 2) ∨ ((0 ≤ a ∧ a < ((p.toNat ^ (f.length - 1) : Nat) : Int)) ∧ c = 0))) := by
  rcases h with h | ⟨h1, ⟨h2, h3⟩ | ⟨h2, h3⟩⟩
  · exact .inl h
  · exact .inr ⟨h1, .inl ⟨fun h => h2 (fun z hz => by simp at hz; subst hz; exact h), h3⟩⟩
  · exact .inr ⟨h1, .inr ⟨h2 a (by simp), h3⟩⟩

/-- The codes of two elements. -/
theorem ec_two {p : Int} {f : List Int} {a b c d : Int} (hc : EC p f [a] c) (hd : EC p f [b] d) : EC p f [a, b] (if c = 0 then d else c) := by
  rcases ec_one hc with ⟨h, h0⟩ | ⟨h, ⟨h1, rfl⟩ | ⟨h1, rfl⟩⟩
  · rw [if_neg h0]; exact .inl ⟨h, h0⟩
  · rw [if_neg (by decide)]
    exact .inr ⟨h, .inl ⟨fun k => h1 (k a (by simp)), rfl⟩⟩
  · rw [if_pos rfl]
    rcases hd with ⟨k, k0⟩ | ⟨k, ⟨k1, rfl⟩ | ⟨k1, rfl⟩⟩
    · exact .inl ⟨k, k0⟩
    · exact .inr ⟨k, .inl ⟨fun g => k1 (fun z hz => g z (by simp at hz; simp [hz])), rfl⟩⟩
    · exact .inr ⟨k, .inr ⟨fun z hz => by
        simp at hz
        rcases hz with rfl | rfl
        · exact h1
        · exact k1 z (by simp), rfl⟩⟩

theorem ecB_ex (p : Int) (f l : List Int) : ∃ b : Bool, (b = true ↔ EC p f l 0) := by
  rcases Classical.em (EC p f l 0) with h | h
  · exact ⟨true, ⟨fun _ => h, fun _ => rfl⟩⟩
  · refine ⟨false, ⟨fun e => ?_, fun e => absurd e h⟩⟩
    cases e

theorem fc_uniq0 {p : Int} {f : List Int} {c : Int} (h : FC p f c) (h0 : c ≠ 0) : ¬ FC p f 0 := fun k => by
  obtain ⟨P, rfl, hF⟩ := k.ok
  obtain ⟨g1, g2, g3, g4, g5, g6, g7, g8⟩ := hF
  rcases h with ⟨h, _⟩ | ⟨_, h⟩
  · rcases h with ⟨h, _⟩ | ⟨_, ⟨h, _⟩ | ⟨_, ⟨h, _⟩ | ⟨_, h⟩⟩⟩
    · rcases h with ⟨h, _⟩ | ⟨_, ⟨h, _⟩ | ⟨_, h⟩⟩
      · have := g1.1; exact h ⟨by omega, by omega⟩
      · rw [Int.toNat_natCast] at h; exact h g1
      · exact h0 h
    · omega
    · rw [Int.toNat_natCast] at h; exact h g3
    · exact h0 h
  · rw [Int.toNat_natCast] at h
    rcases h with ⟨h, _⟩ | ⟨_, ⟨h, _⟩ | ⟨_, ⟨h, _⟩ | ⟨_, h⟩⟩⟩
    · exact h ⟨g4, g6⟩
    · exact h g7
    · exact h g8
    · exact h0 h

set_option maxRecDepth 100000 in
theorem within_any (p : Int) (fo lo : Option Addr) (cf cl : Nat) (f l : List Int) (hm : f.length ≤ 9223372036854775807) (hml : l.length ≤ 9223372036854775807) (b : Bool) (hb : b = true ↔ EC p f l 0) (w : World) (rf : IRow w fo f) (rl : IRow w lo l) :
    Calls Try.prog 8 #[.int .i64 p, .slice fo f.length cf, .slice lo l.length cl] w fun e w' => e = .returned (.bool b) ∧ Below w.heap.size w w' := by
  obtain ⟨c, hc⟩ := fc_ex p f
  have cC := refFieldCheck_any p fo cf f hm c hc w rf
  by_cases h0 : c = 0
  · subst h0
    obtain ⟨P, rfl, hF⟩ := hc.ok
    have hs := hF.size
    have cZ := fun w => refFieldSize_any P hF.1.1 hF.2.1 fo cf f (by have := hF.fl; omega) w
    rw [fsz_of hF.2.2.2.2.2.2.1] at cZ
    have hIff : Hid (b = true ↔ ∀ a ∈ l, 0 ≤ a ∧ a < ((P ^ (f.length - 1) : Nat) : Int)) := by
      refine hb.trans ⟨fun h => ?_, fun h => EC.of hF h⟩
      obtain ⟨P', e, _, h2⟩ := h.ok
      have : P' = P := by omega
      subst this
      exact h2
    obtain ⟨S, hS⟩ : ∃ S, S = P ^ (f.length - 1) := ⟨_, rfl⟩
    rw [← hS] at hs hIff
    simp only [← hS] at cZ
    generalize f.length = n at *
    obtain ⟨N, hN⟩ : ∃ N, N = l.length := ⟨_, rfl⟩
    have HN : Hid (N = l.length) := hN
    rw [← hN] at hml ⊢
    clear rf hc hF hS hN hb
    go_enter Try.func8, Try.ntmps8
    go_wp2_with (go_at_call 16; refine cC.mono ?_; rintro e w1 ⟨rfl, hB1⟩)
    have RL := hid (irow_below rl hB1 (Nat.le_refl _))
    clear rl
    go_loop [15] (fun i => ∃ k : Nat, i = .int .i64 (k : Int) ∧ k ≤ N ∧ Hid (∀ j, j < k → 0 ≤ co l j ∧ co l j < (S : Int))) (fun i => ((N : Int) - intOf i).toNat)
    case atStart => exact ⟨0, rfl, by omega, fun j hj => by omega⟩
    case round =>
      obtain ⟨k, rfl, hk, hJ⟩ := hrel
      by_cases hgo : k < N
      · have hgo' : (k : Int) < (N : Int) := by omega
        have hkl : Hid (k < l.length) := by have := HN.out; show k < l.length; omega
        rcases lo with _ | ad
        · exact (irow_none RL.out hkl.out).elim
        have ce1 := RL.out.2 ad rfl k hkl.out
        have hJ2 : Hid ((0 ≤ co l k ∧ co l k < (S : Int)) → ∀ j, j < k + 1 → 0 ≤ co l j ∧ co l j < (S : Int)) := fun h j hj => by
          by_cases e : j = k
          · subst e; exact h
          · exact hJ.out j (by omega)
        have hN1 : Hid (¬ (0 ≤ co l k ∧ co l k < (S : Int)) → b = false) := fun h => by
          cases b with
          | false => rfl
          | true => exact absurd (hIff.out.1 rfl _ (co_mem hkl.out)) h
        generalize co l k = x at *
        by_cases h1 : x < 0
        · have hbf : Hid (b = false) := hN1.out (by omega)
          clear hN1 hJ2
          go_wp2_with (go_at_call 12; refine (cZ _).mono ?_; rintro e w2 ⟨rfl, hw⟩; subst w2)
          go_ret
          exact ⟨ret_bool hbf.out.symm, hB1⟩
        · have h1' : decide (x < 0) = false := by simpa using h1
          by_cases h2 : (S : Int) ≤ x
          · have hbf : Hid (b = false) := hN1.out (by omega)
            clear hN1 hJ2
            go_wp2_with (go_at_call 12; refine (cZ _).mono ?_; rintro e w2 ⟨rfl, hw⟩; subst w2)
            go_ret
            exact ⟨ret_bool hbf.out.symm, hB1⟩
          · have h2' : decide ((S : Int) ≤ x) = false := by simpa using h2
            have hJ3 := hid (hJ2.out ⟨by omega, by omega⟩)
            clear hJ2 hN1
            go_wp2_with (go_at_call 12; refine (cZ _).mono ?_; rintro e w2 ⟨rfl, hw⟩; subst w2)
            go_round
            case rel => exact ⟨k + 1, by simp, by omega, hJ3⟩
            case measure => exact measK hgo
      · have hgo' : ¬ (k : Int) < (N : Int) := by omega
        have hbt : Hid (b = true) := hIff.out.2 (fun a ha => by
          obtain ⟨j, hj, e⟩ := List.getElem_of_mem ha
          have := hJ.out j (by have := HN.out; omega)
          simpa [co, List.getD, hj, e] using this)
        go_wp2
        go_ret
        exact ⟨ret_bool hbt.out.symm, hB1⟩
  · have hbf : Hid (b = false) := by
      cases b with
      | false => exact rfl
      | true =>
        exfalso
        rcases hb.1 rfl with ⟨h, h2⟩ | ⟨h, _⟩
        · exact h2 rfl
        · exact fc_uniq0 hc h0 h
    have g1 : (c != 0) = true := by simpa using h0
    have g2 : (c == 0) = false := by simpa using h0
    generalize f.length = n at *
    generalize l.length = nl at *
    clear rf rl hc hb
    go_enter Try.func8, Try.ntmps8
    go_wp2_with (go_at_call 16; refine cC.mono ?_; rintro e w1 ⟨rfl, hB1⟩)
    go_ret
    exact ⟨ret_bool hbf.out.symm, hB1⟩

theorem ord_of {p : Nat} {f : List Int} (hf : Fld p f) {F : Fe p f} (hF : Fits p f F) {y : El p f} (hy : num y ≠ 0) : ∃ o, Ord F y o ∧ 1 ≤ o ∧ o ≤ 4096 ∧ o ∣ p ^ (f.length - 1) - 1 := by
  have hs := hf.size
  have h1 : pw F y (p ^ (f.length - 1) - 1) = F.one := (field_cyclic hf.1 hf.fl.1 F hF.1).2 y (hf.ne_zero hF hy)
  obtain ⟨o, ho⟩ := Go.Proofs.Ytjpmkcijkcnfiab.Num20.ord_ex F (by omega) h1
  have hd := (ho.2 _).1 h1
  have := Nat.le_of_dvd (by omega) hd
  exact ⟨o, ho, ho.1, by omega, hd⟩

set_option maxRecDepth 100000 in
theorem raised_el (P : Nat) (f : List Int) (hf : Fld P f) (F : Fe P f) (hF : Fits P f F) (x : El P f) (N : Nat) (hN : N ≤ 1048576) (fo : Option Addr) (cf : Nat) (w : World) (rf : IRow w fo f) :
    Calls Try.prog 11 #[.int .i64 (P : Int), .slice fo f.length cf, .int .i64 (num x : Int), .int .i64 (N : Int)] w fun e w' => e = .returned (.int .i64 (num (pw F x N) : Int)) ∧ Below w.heap.size w w' := by
  have cM := fun (y : El P f) w' (hB : Below w.heap.size w w') => fMul_el P f hf F hF y x fo cf w' (irow_below rf hB (Nat.le_refl _))
  have h1 : Hid (num (pw F x 0) = 1) := hF.one
  generalize f.length = n at *
  clear hf hF rf
  go_enter Try.func11, Try.ntmps11
  go_wp2
  go_loopw [9, 10] (fun vx vi wr => ∃ i u : Nat, vx = .int .i64 (u : Int) ∧ vi = .int .i64 (i : Int) ∧ i ≤ N ∧ Hid (u = num (pw F x i)) ∧ Hid (Below w.heap.size w wr)) (fun vx vi wr => ((N : Int) - intOf vi).toNat)
  case atStart => exact ⟨0, 1, rfl, rfl, by omega, h1.out.symm, Below.refl _ _⟩
  case round =>
    obtain ⟨i, u, rfl, rfl, hi, hU, hB⟩ := hrel
    by_cases hgo : i < N
    · have hgo' : (i : Int) < (N : Int) := by omega
      have cM1 := cM (pw F x i) wr hB.out
      rw [← hU.out] at cM1
      have hU2 : Hid (num (F.mul (pw F x i) x) = num (pw F x (i + 1))) := rfl
      rw [hU2.out] at cM1
      clear hU2 cM
      go_wp2_with (go_at_call 9; refine cM1.mono ?_; rintro e w2 ⟨rfl, hB3⟩; have HB3 := hid (below_trans hB.out hB3); clear hB3)
      go_roundw
      case rel => exact ⟨i + 1, _, rfl, by simp, by omega, rfl, HB3⟩
      case measure => exact measK hgo
    · have hgo' : ¬ (i : Int) < (N : Int) := by omega
      obtain rfl : i = N := by omega
      go_wp2
      go_ret
      exact ⟨by rw [hU.out]; rfl, hB.out⟩

end Go.Proofs.Ytjpmkcijkcnfiab.Calls85
