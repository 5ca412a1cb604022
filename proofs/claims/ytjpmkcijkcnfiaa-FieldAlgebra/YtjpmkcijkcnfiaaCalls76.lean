/-
  The document's fields: what is a product, what is wrong with a field, sums and products of elements.
-/
import Derived.Test.YtjpmkcijkcnfiaaCalls75
namespace Go.Proofs.Ytjpmkcijkcnfiaa.Calls76
set_option linter.unusedVariables false
open Go.ChangeShapes Go.WideShapes Go.ChangeAt Go.RowKit Go.Deep Go.Proofs.Ytjpmkcijkcnfiaa.Base Go.Proofs.Ytjpmkcijkcnfiaa.Base2 Go.Proofs.Ytjpmkcijkcnfiaa.Num Go.Proofs.Ytjpmkcijkcnfiaa.Num16 Go.Proofs.Ytjpmkcijkcnfiaa.Num17 Go.Proofs.Ytjpmkcijkcnfiaa.Num21 Go.Proofs.Ytjpmkcijkcnfiaa.Num22 Go.Proofs.Ytjpmkcijkcnfiaa.Num23 Go.Proofs.Ytjpmkcijkcnfiaa.Num34 Go.Proofs.Ytjpmkcijkcnfiaa.Num35 Go.Proofs.Ytjpmkcijkcnfiaa.Num36 Go.Proofs.Ytjpmkcijkcnfiaa.Num37 Go.Proofs.Ytjpmkcijkcnfiaa.Num38 Go.Proofs.Ytjpmkcijkcnfiaa.Base4 Go.Proofs.Ytjpmkcijkcnfiaa.Calls56 Go.Proofs.Ytjpmkcijkcnfiaa.Calls57 Go.Proofs.Ytjpmkcijkcnfiaa.Calls58 Go.Proofs.Ytjpmkcijkcnfiaa.Calls61 Go.Proofs.Ytjpmkcijkcnfiaa.Calls64 Go.Proofs.Ytjpmkcijkcnfiaa.Calls65 Go.Proofs.Ytjpmkcijkcnfiaa.Calls75
open Go.Proofs.Ytjpmkcijkcnfiaa.Num20 (Fd)

theorem fsz_of {p : Nat} {f : List Int} (h : p ^ (f.length - 1) ≤ 4096) : fsz p f = p ^ (f.length - 1) := by unfold fsz; rw [if_pos h]

theorem left_nil {p : Nat} (hp : Pr p) {f d q r : List Int} (hd : Cn p d) (nd : d ≠ []) (h : DivIs p f d q r) : r = [] ↔ Dv p d f := (dv_iff hp hd nd h.1 h.2.1 h.2.2.1 h.2.2.2).symm

set_option maxRecDepth 100000 in
theorem refProduct_any (p : Nat) (hP : Pr p) (hp : p ≤ 251) (ao : Option Addr) (ca : Nat) (f : List Int) (hf : Cn p f) (hf2 : 2 ≤ f.length) (hfl : f.length ≤ 13) (hs : p ^ (f.length - 1) ≤ 4096) (b : Bool) (hb : b = true ↔ ¬ Irr p f) (w : World) (ra : IRow w ao f) :
    Calls Try.prog 24 #[.int .i64 (p : Int), .slice ao f.length ca] w fun e w' => e = .returned (.bool b) ∧ Below w.heap.size w w' := by
  have hp1 := hP.1
  have cZ := fun w => refFieldSize_any p hp1 hp ao ca f (by omega) w
  rw [fsz_of hs] at cZ
  have cD := fun (a : Nat) (ha : a < 4096) w => refDigits_any p hp1 hp a (by omega) w
  have cL := fun (a : Nat) (ha : p ≤ a) (ha2 : a < 4096) (o2 : Option Addr) (c2 : Nat) w' (hB : Below w.heap.size w w') (hr : IRow w' o2 (dig p a)) => refLeft_any p hP hp ao o2 ca c2 f (dig p a) hf (dig_cn (by omega) a) (fun e => by have := dig_two hp1 (by omega) ha; rw [e] at this; simp at this) (by omega) (by have := dig_len20 p a; omega) w' (irow_below ra hB (Nat.le_refl _)) hr
  have hYes : Hid (∀ a, p ≤ a → a < p ^ (f.length - 1) → Fnd p f a → b = true) := fun a h1 h2 h3 => hb.2 ((irr_iff hP hf hf2 hs).1 ⟨a, h1, h2, h3⟩)
  have hNo : Hid ((∀ a, p ≤ a → a < p ^ (f.length - 1) → ¬ Fnd p f a) → b = false) := fun h => by
    cases b with
    | false => rfl
    | true =>
      obtain ⟨a, h1, h2, h3⟩ := (irr_iff hP hf hf2 hs).2 (hb.1 rfl)
      exact absurd h3 (h a h1 h2)
  have hDv : Hid (∀ a q r, p ≤ a → a < 4096 → DivIs p f (dig p a) q r → (r = [] ↔ Dv p (dig p a) f)) := fun a q r h1 h2 h => left_nil hP (dig_cn (by omega) a) (fun e => by have := dig_two hp1 (by omega) h1; rw [e] at this; simp at this) h
  have hpk : p ≤ p ^ (f.length - 1) := by
    have h2 : p ^ 1 ≤ p ^ (f.length - 1) := Nat.pow_le_pow_right (by omega) (by omega)
    rwa [Nat.pow_one] at h2
  obtain ⟨n, hn⟩ : ∃ n, n = f.length := ⟨_, rfl⟩
  have hFn : Hid (∀ a, Fnd p f a ↔ (2 * (dig p a).length ≤ n + 1 ∧ Dv p (dig p a) f)) := fun a => by rw [hn]; rfl
  obtain ⟨S, hS⟩ : ∃ S, S = p ^ (f.length - 1) := ⟨_, rfl⟩
  rw [← hS] at hs hpk hYes hNo
  simp only [← hS] at cZ
  rw [← hn] at hfl hf2 ⊢
  simp only [← hn] at cZ cL
  clear hn hS ra hb hf
  go_enter Try.func24, Try.ntmps24
  go_wp2
  go_loopw [5] (fun i wr => ∃ a : Nat, i = .int .i64 (a : Int) ∧ p ≤ a ∧ a ≤ S ∧ Hid (∀ a', p ≤ a' → a' < a → ¬ Fnd p f a') ∧ Hid (Below w.heap.size w wr)) (fun i wr => ((S : Int) - intOf i).toNat)
  case atStart => exact ⟨p, rfl, Nat.le_refl _, hpk, fun a' h1 h2 => absurd h1 (by omega), Below.refl _ _⟩
  case round =>
    obtain ⟨a, rfl, ha, haS, hN, hB⟩ := hrel
    by_cases hgo : a < S
    · have hgo' : (a : Int) < (S : Int) := by omega
      have ha4 : a < 4096 := by omega
      have cD1 := cD a ha4 wr
      have cL1 := cL a ha ha4
      have hFa := hFn.out a
      have hDa := hid (fun q r h => hDv.out a q r ha ha4 h)
      have hYa := hid (hYes.out a ha hgo)
      have hl20 := dig_len20 p a
      have hme := hid (measK (n := S) hgo)
      by_cases hlen : 2 * (dig p a).length ≤ n + 1
      · by_cases hdv : Dv p (dig p a) f
        · have hbt : Hid (b = true) := hYa.out (hFa.2 ⟨hlen, hdv⟩)
          have hr0 : Hid (∀ q r, DivIs p f (dig p a) q r → r = []) := fun q r h => (hDa.out q r h).2 hdv
          have cL2 := fun o2 c2 w' hB hr => (cL1 o2 c2 w' hB hr).mono (R' := fun e w2 => (∃ o3 c3, e = .returned (.slice o3 0 c3)) ∧ Below w'.heap.size w' w2) (fun e w2 ⟨⟨q, r, hD, o3, c3, he, _, _⟩, hB⟩ => ⟨⟨o3, c3, by rw [he, hr0.out q r hD]; rfl⟩, hB⟩)
          clear hFa hdv hDa hYa hr0 cL1 cL cD
          generalize dig p a = d at *
          obtain ⟨m, hm⟩ : ∃ m, m = d.length := ⟨_, rfl⟩
          simp only [← hm] at cL2
          unfold RetL at cD1
          rw [← hm] at cD1 hlen hl20
          clear hm
          have hlen' : 2 * (m : Int) ≤ (n : Int) + 1 := by omega
          go_wp2_with (first
            | (go_at_call 23; refine (cZ _).mono ?_; rintro e w1 ⟨rfl, hw⟩; subst w1)
            | (go_at_call 28; refine cD1.mono ?_; rintro e w1 ⟨⟨o2, c2, rfl, hc2, hr2⟩, hB2⟩; have H2 := hid hr2; have HB2 := hid hB2; clear hr2 hB2)
            | (go_at_call 30; refine (cL2 o2 c2 _ (below_trans hB.out HB2.out) H2.out).mono ?_; rintro e w2 ⟨⟨o3, c3, rfl⟩, hB3⟩; have HB3 := hid hB3; clear hB3))
          go_ret
          exact ⟨ret_bool hbt.out.symm, below_trans (below_trans hB.out HB2.out) HB3.out⟩
        · have hN2 : Hid (∀ a', p ≤ a' → a' < a + 1 → ¬ Fnd p f a') := fun a' h1 h2 h3 => by
            by_cases e : a' = a
            · subst e; exact hdv (hFa.1 h3).2
            · exact hN.out a' h1 (by omega) h3
          have hr0 : Hid (∀ q r, DivIs p f (dig p a) q r → 1 ≤ r.length) := fun q r h => pos_of_ne (fun e => hdv ((hDa.out q r h).1 e))
          have cL2 := fun o2 c2 w' hB hr => (cL1 o2 c2 w' hB hr).mono (R' := fun e w2 => (∃ o3 c3, ∃ m3 : Nat, e = .returned (.slice o3 (m3 + 1) c3)) ∧ Below w'.heap.size w' w2) (fun e w2 ⟨⟨q, r, hD, o3, c3, he, _, _⟩, hB⟩ => ⟨⟨o3, c3, r.length - 1, by rw [he, show r.length - 1 + 1 = r.length by have := hr0.out q r hD; omega]⟩, hB⟩)
          clear hFa hdv hDa hYa hr0 cL1 cL cD
          generalize dig p a = d at *
          obtain ⟨m, hm⟩ : ∃ m, m = d.length := ⟨_, rfl⟩
          simp only [← hm] at cL2
          unfold RetL at cD1
          rw [← hm] at cD1 hlen hl20
          clear hm
          have hlen' : 2 * (m : Int) ≤ (n : Int) + 1 := by omega
          go_wp2_with (first
            | (go_at_call 23; refine (cZ _).mono ?_; rintro e w1 ⟨rfl, hw⟩; subst w1)
            | (go_at_call 28; refine cD1.mono ?_; rintro e w1 ⟨⟨o2, c2, rfl, hc2, hr2⟩, hB2⟩; have H2 := hid hr2; have HB2 := hid hB2; clear hr2 hB2)
            | (go_at_call 30; refine (cL2 o2 c2 _ (below_trans hB.out HB2.out) H2.out).mono ?_; rintro e w2 ⟨⟨o3, c3, m3, rfl⟩, hB3⟩; have HB3 := hid hB3; clear hB3))
          go_roundw
          case rel => exact ⟨a + 1, by simp, by omega, by omega, hN2, below_trans (below_trans hB.out HB2.out) HB3.out⟩
          case measure => exact hme.out
      · have hN2 : Hid (∀ a', p ≤ a' → a' < a + 1 → ¬ Fnd p f a') := fun a' h1 h2 h3 => by
          by_cases e : a' = a
          · subst e; exact hlen (hFa.1 h3).1
          · exact hN.out a' h1 (by omega) h3
        clear hFa hDa hYa cL1 cL cD
        generalize dig p a = d at *
        obtain ⟨m, hm⟩ : ∃ m, m = d.length := ⟨_, rfl⟩
        unfold RetL at cD1
        rw [← hm] at cD1 hlen hl20
        clear hm
        have hlen' : decide (2 * (m : Int) ≤ (n : Int) + 1) = false := by simp; omega
        go_wp2_with (first
          | (go_at_call 23; refine (cZ _).mono ?_; rintro e w1 ⟨rfl, hw⟩; subst w1)
          | (go_at_call 28; refine cD1.mono ?_; rintro e w1 ⟨⟨o2, c2, rfl, hc2, hr2⟩, hB2⟩; have H2 := hid hr2; have HB2 := hid hB2; clear hr2 hB2))
        go_roundw
        case rel => exact ⟨a + 1, by simp, by omega, by omega, hN2, below_trans hB.out HB2.out⟩
        case measure => exact hme.out
    · have hgo' : decide ((a : Int) < (S : Int)) = false := by simp; omega
      obtain rfl : a = S := by omega
      have hbf : Hid (b = false) := hNo.out (fun a' h1 h2 => hN.out a' h1 h2)
      clear cL cD
      go_wp2_with (go_at_call 23; refine (cZ _).mono ?_; rintro e w1 ⟨rfl, hw⟩; subst w1)
      go_ret
      exact ⟨ret_bool hbf.out.symm, hB.out⟩

/-! ### what is wrong with a field -/

def Mn (f : List Int) : Prop := 2 ≤ f.length ∧ co f (f.length - 1) = 1

/-- The code of a field. -/
def FC (p : Int) (f : List Int) (c : Int) : Prop :=
  (PC p f c ∧ c ≠ 0) ∨ (PC p f 0 ∧ ((¬ Mn f ∧ c = 3) ∨ (Mn f ∧ ((¬ p.toNat ^ (f.length - 1) ≤ 4096 ∧ c = 1) ∨ (p.toNat ^ (f.length - 1) ≤ 4096 ∧ ((¬ Irr p.toNat f ∧ c = 4) ∨ (Irr p.toNat f ∧ c = 0)))))))

theorem fc_ex (p : Int) (f : List Int) : ∃ c, FC p f c := by
  obtain ⟨c, hc⟩ := pc_ex p f
  by_cases h0 : c = 0
  · subst h0
    rcases Classical.em (Mn f) with h1 | h1
    · by_cases h2 : p.toNat ^ (f.length - 1) ≤ 4096
      · rcases Classical.em (Irr p.toNat f) with h3 | h3
        · exact ⟨0, .inr ⟨hc, .inr ⟨h1, .inr ⟨h2, .inr ⟨h3, rfl⟩⟩⟩⟩⟩
        · exact ⟨4, .inr ⟨hc, .inr ⟨h1, .inr ⟨h2, .inl ⟨h3, rfl⟩⟩⟩⟩⟩
      · exact ⟨1, .inr ⟨hc, .inr ⟨h1, .inl ⟨h2, rfl⟩⟩⟩⟩
    · exact ⟨3, .inr ⟨hc, .inl ⟨h1, rfl⟩⟩⟩
  · exact ⟨c, .inl ⟨hc, h0⟩⟩

theorem FC.ok {p : Int} {f : List Int} (h : FC p f 0) : ∃ P : Nat, p = (P : Int) ∧ Fld P f := by
  rcases h with ⟨_, h⟩ | ⟨h1, ⟨_, h⟩ | ⟨h2, ⟨_, h⟩ | ⟨h3, ⟨_, h⟩ | ⟨h4, _⟩⟩⟩⟩
  · exact absurd rfl h
  · cases h
  · cases h
  · cases h
  · obtain ⟨P, rfl, g1, g2, g3, g4⟩ := h1.ok
    rw [Int.toNat_natCast] at h3 h4
    exact ⟨P, rfl, g1, g2, g4, h2.1, g3, h2.2, h3, h4⟩

theorem FC.of {P : Nat} {f : List Int} (h : Fld P f) : FC (P : Int) f 0 := by
  obtain ⟨g1, g2, g3, g4, g5, g6, g7, g8⟩ := h
  exact .inr ⟨PC.of g1 g2 g5 g3, .inr ⟨⟨g4, g6⟩, .inr ⟨by rw [Int.toNat_natCast]; exact g7, .inr ⟨by rw [Int.toNat_natCast]; exact g8, rfl⟩⟩⟩⟩

theorem irrB_ex (p : Nat) (f : List Int) : ∃ b : Bool, (b = true ↔ ¬ Irr p f) := by
  rcases Classical.em (Irr p f) with h | h
  · refine ⟨false, ⟨fun e => ?_, fun e => absurd h e⟩⟩
    cases e
  · exact ⟨true, ⟨fun _ => h, fun _ => rfl⟩⟩

set_option maxRecDepth 100000 in
theorem refFieldCheck_any (p : Int) (ao : Option Addr) (ca : Nat) (f : List Int) (hm : f.length ≤ 9223372036854775807) (c : Int) (hc : FC p f c) (w : World) (ra : IRow w ao f) :
    Calls Try.prog 10 #[.int .i64 p, .slice ao f.length ca] w fun e w' => e = .returned (.int .i64 c) ∧ Below w.heap.size w w' := by
  rcases hc with ⟨hc, h0⟩ | ⟨hc, h1⟩
  · have cC := refPolyCheck_any p ao ca f hm c hc w ra
    have hn : (c != 0) = true := by simpa using h0
    have hn2 : (c == 0) = false := by simpa using h0
    generalize f.length = n at *
    clear hc ra
    go_enter Try.func10, Try.ntmps10
    go_wp2_with (go_at_call 22; refine cC.mono ?_; rintro e w1 ⟨rfl, hw⟩; try subst w1)
    go_ret
    exact ⟨rfl, Below.refl _ _⟩
  · have cC := refPolyCheck_any p ao ca f hm 0 hc w ra
    obtain ⟨P, rfl, hP, hP2, hfl, hf⟩ := hc.ok
    rw [Int.toNat_natCast] at h1
    have hp1 := hP.1
    by_cases hl : f.length < 2
    · have h3 : c = 3 := by
        rcases h1 with ⟨_, h⟩ | ⟨h, _⟩
        · exact h
        · exact absurd h.1 (by omega)
      subst h3
      have hl' : (f.length : Int) < 2 := by omega
      generalize f.length = n at *
      clear hc ra h1 hl
      go_enter Try.func10, Try.ntmps10
      go_wp2_with (go_at_call 22; refine cC.mono ?_; rintro e w1 ⟨rfl, hw⟩; try subst w1)
      go_ret
      exact ⟨rfl, Below.refl _ _⟩
    · rcases ao with _ | ad
      · exact (irow_none ra (j := 0) (by omega)).elim
      have cc := ra.2 ad rfl (f.length - 1) (by omega)
      have cZ := fun w => refFieldSize_any P hp1 hP2 (some ad) ca f (by omega) w
      by_cases ht : co f (f.length - 1) = 1
      · rw [ht] at cc
        have hMn : Mn f := ⟨by omega, ht⟩
        have h2 := h1.resolve_left (fun h => h.1 hMn)
        by_cases hsz : P ^ (f.length - 1) ≤ 4096
        · have h3 := h2.2.resolve_left (fun h => h.1 hsz)
          obtain ⟨b, hb⟩ := irrB_ex P f
          have cP := refProduct_any P hP hP2 (some ad) ca f hf (by omega) hfl hsz b hb w ra
          rw [fsz_of hsz] at cZ
          have hS0 : P ^ (f.length - 1) ≠ 0 := by
            have := Nat.pow_pos (a := P) (n := f.length - 1) (by omega)
            omega
          obtain ⟨S, hS⟩ : ∃ S, S = P ^ (f.length - 1) := ⟨_, rfl⟩
          rw [← hS] at hS0
          simp only [← hS] at cZ
          obtain ⟨m, hm2⟩ : ∃ m, f.length = m + 1 := ⟨f.length - 1, by omega⟩
          have hS0' : ((S : Int) == 0) = false := by simp; omega
          have hcb : Hid (c = if b = true then 4 else 0) := by
            show _ = _
            rcases h3.2 with ⟨h4, h5⟩ | ⟨h4, h5⟩
            · rw [if_pos (hb.2 h4), h5]
            · rw [if_neg (fun e => (hb.1 e) h4), h5]
          clear hMn h1 h2 h3 hb hc ra hf ht hsz hS
          simp only [hm2] at *
          rw [Nat.add_sub_cancel] at cc
          have hl' : decide ((m : Int) + 1 < 2) = false := by simp; omega
          cases b with
          | true =>
            have : Hid (c = 4) := hcb.out
            rw [this.out]
            clear hcb this
            go_enter Try.func10, Try.ntmps10
            go_wp2_with (first
              | (go_at_call 22; refine cC.mono ?_; rintro e w1 ⟨rfl, hw⟩; subst w1)
              | (go_at_call 23; refine (cZ _).mono ?_; rintro e w1 ⟨rfl, hw⟩; subst w1)
              | (go_at_call 24; refine cP.mono ?_; rintro e w1 ⟨rfl, hB⟩))
            go_ret
            exact ⟨rfl, hB⟩
          | false =>
            have : Hid (c = 0) := hcb.out
            rw [this.out]
            clear hcb this
            go_enter Try.func10, Try.ntmps10
            go_wp2_with (first
              | (go_at_call 22; refine cC.mono ?_; rintro e w1 ⟨rfl, hw⟩; subst w1)
              | (go_at_call 23; refine (cZ _).mono ?_; rintro e w1 ⟨rfl, hw⟩; subst w1)
              | (go_at_call 24; refine cP.mono ?_; rintro e w1 ⟨rfl, hB⟩))
            go_ret
            exact ⟨rfl, hB⟩
        · have h3 : c = 1 := by
            rcases h2.2 with ⟨_, h⟩ | ⟨h, _⟩
            · exact h
            · exact absurd h hsz
          subst h3
          have e0 : fsz P f = 0 := by unfold fsz; rw [if_neg hsz]
          rw [e0] at cZ
          obtain ⟨m, hm2⟩ : ∃ m, f.length = m + 1 := ⟨f.length - 1, by omega⟩
          clear hMn h1 h2 hc ra hf ht hsz e0
          simp only [hm2] at *
          rw [Nat.add_sub_cancel] at cc
          have hl' : decide ((m : Int) + 1 < 2) = false := by simp; omega
          go_enter Try.func10, Try.ntmps10
          go_wp2_with (first
            | (go_at_call 22; refine cC.mono ?_; rintro e w1 ⟨rfl, hw⟩; subst w1)
            | (go_at_call 23; refine (cZ _).mono ?_; rintro e w1 ⟨rfl, hw⟩; subst w1))
          go_ret
          exact ⟨rfl, Below.refl _ _⟩
      · have h3 : c = 3 := by
          rcases h1 with ⟨_, h⟩ | ⟨h, _⟩
          · exact h
          · exact absurd h.2 ht
        subst h3
        obtain ⟨m, hm2⟩ : ∃ m, f.length = m + 1 := ⟨f.length - 1, by omega⟩
        clear h1 hc ra hf cZ
        generalize co f (f.length - 1) = x at *
        simp only [hm2] at *
        rw [Nat.add_sub_cancel] at cc
        have hl' : decide ((m : Int) + 1 < 2) = false := by simp; omega
        have hx : (x != 1) = true := by simpa using ht
        have hx2 : (x == 1) = false := by simpa using ht
        go_enter Try.func10, Try.ntmps10
        go_wp2_with (go_at_call 22; refine cC.mono ?_; rintro e w1 ⟨rfl, hw⟩; subst w1)
        go_ret
        exact ⟨rfl, Below.refl _ _⟩

/-! ### sums and products -/

theorem fad_fits {p : Nat} (hp : 1 ≤ p) {k : Nat} {a b : Nat} (ha : a < p ^ k) (hb : b < p ^ k) (hk : k ≤ 20) : (nm p (padd (dig p a) (dig p b))).length ≤ k := by
  have h1 := dig_len hp ha hk
  have h2 := dig_len hp hb hk
  have h3 := nm_length p (padd (dig p a) (dig p b))
  have h4 : (padd (dig p a) (dig p b)).length ≤ k := by rw [padd_length]; omega
  omega

set_option maxRecDepth 100000 in
theorem refFieldAdd_any (p : Nat) (hp1 : 2 ≤ p) (hp : p ≤ 251) (k : Nat) (hk : k ≤ 12) (hs : p ^ k ≤ 4096) (a b : Nat) (ha : a < p ^ k) (hb : b < p ^ k) (w : World) :
    Calls Try.prog 14 #[.int .i64 (p : Int), .int .i64 (a : Int), .int .i64 (b : Int)] w fun e w' => e = .returned (.int .i64 (fad p a b : Int)) ∧ Below w.heap.size w w' := by
  have cA := fun w => refDigits_any p hp1 hp a (by omega) w
  have cB := fun w => refDigits_any p hp1 hp b (by omega) w
  have cS := fun (ao bo : Option Addr) (ca cb : Nat) w' ra rb => refAdd_any p (by omega) hp ao bo ca cb (dig p a) (dig p b) (dig_cn (by omega) a).1 (dig_cn (by omega) b).1 (by have := dig_len20 p a; omega) (by have := dig_len20 p b; omega) w' ra rb
  have hl := fad_fits (p := p) (by omega) ha hb (by omega)
  have hpl : p ^ (nm p (padd (dig p a) (dig p b))).length ≤ 4096 := Nat.le_trans (Nat.pow_le_pow_right (by omega) hl) hs
  have cN := fun (ao : Option Addr) (ca : Nat) w' ra => refNumber_any p hp1 hp ao ca (nm p (padd (dig p a) (dig p b))) (nm_cn (by omega) _).1 (by omega) (by omega) w' ra
  have HF : Hid (nb p (nm p (padd (dig p a) (dig p b))) = fad p a b) := rfl
  simp only [HF.out] at cN
  clear HF hl hpl ha hb hs
  unfold RetL at cA cB cS
  generalize nm p (padd (dig p a) (dig p b)) = r at *
  generalize dig p a = da at *
  generalize dig p b = db at *
  generalize fad p a b = z at *
  go_enter Try.func14, Try.ntmps14
  go_wp2_with (first
    | (go_at_call 28; refine (cA _).mono ?_; rintro e w1 ⟨⟨o1, c1, rfl, hc1, hr1⟩, hB1⟩; have H1 := hid hr1; have HB1 := hid hB1; clear hr1 hB1 cA)
    | (go_at_call 28; refine (cB _).mono ?_; rintro e w2 ⟨⟨o2, c2, rfl, hc2, hr2⟩, hB2⟩; have H2 := hid hr2; have HB2 := hid hB2; clear hr2 hB2)
    | (go_at_call 27; refine (cS o1 o2 c1 c2 _ (irow_below H1.out HB2.out (Nat.le_refl _)) H2.out).mono ?_; rintro e w3 ⟨⟨o3, c3, rfl, hc3, hr3⟩, hB3⟩; have H3 := hid hr3; have HB3 := hid hB3; clear hr3 hB3)
    | (go_at_call 26; refine (cN o3 c3 _ H3.out).mono ?_; rintro e w4 ⟨rfl, hw⟩; subst w4))
  go_ret
  exact ⟨rfl, below_trans (below_trans HB1.out HB2.out) HB3.out⟩

/-- The call has returned the product. -/
def MulE (p : Nat) (f : List Int) (a b : Nat) (e : Ending) : Prop := ∃ c : Nat, FMul p f a b c ∧ e = .returned (.int .i64 (c : Int))

theorem mul_short {p : Nat} (hp : 1 ≤ p) (a b : Nat) : (nm p (pmul (dig p a) (dig p b))).length ≤ 40 := by
  have h1 := mul_nm_len hp (dig p a) (dig p b)
  have h2 := dig_len20 p a
  have h3 := dig_len20 p b
  omega

set_option maxRecDepth 100000 in
theorem refFieldMul_any (p : Nat) (f : List Int) (hf : Fld p f) (fo : Option Addr) (cf : Nat) (a b : Nat) (ha : a < 1048576) (hb : b < 1048576) (w : World) (rf : IRow w fo f) :
    Calls Try.prog 16 #[.int .i64 (p : Int), .slice fo f.length cf, .int .i64 (a : Int), .int .i64 (b : Int)] w fun e w' => MulE p f a b e ∧ Below w.heap.size w w' := by
  have hp1 := hf.1.1
  have hp := hf.2.1
  have hfl := hf.2.2.2.2.1
  have nf : f ≠ [] := fun e => by have := hf.2.2.2.1; rw [e] at this; simp at this
  have cA := fun w => refDigits_any p hp1 hp a ha w
  have cB := fun w => refDigits_any p hp1 hp b hb w
  have cS := fun (ao bo : Option Addr) (ca cb : Nat) w' ra rb => refMul_any p (by omega) hp ao bo ca cb (dig p a) (dig p b) (dig_cn (by omega) a).1 (dig_cn (by omega) b).1 (by have := dig_len20 p a; omega) (by have := dig_len20 p b; omega) w' ra rb
  have cL := fun (ao : Option Addr) (ca : Nat) w' (hB : Below w.heap.size w w') ra => (refLeft_any p hf.1 hp ao fo ca cf (nm p (pmul (dig p a) (dig p b))) f (nm_cn (by omega) _) hf.2.2.1 nf (by have := mul_short (p := p) (by omega) a b; omega) (by omega) w' ra (irow_below rf hB (Nat.le_refl _))).mono (R' := fun e w2 => (∃ r, Hid (FMul p f a b (nb p r) ∧ Bd p r ∧ p ^ r.length ≤ 1048576 ∧ r.length ≤ 4096) ∧ RetL r e w2) ∧ Below w'.heap.size w' w2) (fun e w2 ⟨⟨q, r, hD, hr⟩, hB⟩ => ⟨⟨r, ⟨⟨r, mulR_of (by omega) hD, rfl⟩, hD.2.1.1, by
      have h1 : p ^ r.length ≤ p ^ (f.length - 1) := Nat.pow_le_pow_right (by omega) (by have := hD.2.2.1; omega)
      have := hf.2.2.2.2.2.2.1
      omega, by have := hD.2.2.1; omega⟩, hr⟩, hB⟩)
  have cN := fun (ao : Option Addr) (ca : Nat) (r : List Int) (h : Hid (FMul p f a b (nb p r) ∧ Bd p r ∧ p ^ r.length ≤ 1048576 ∧ r.length ≤ 4096)) w' ra => refNumber_any p hp1 hp ao ca r h.out.2.1 h.out.2.2.1 h.out.2.2.2 w' ra
  generalize f.length = n at *
  clear rf hf nf ha hb
  unfold RetL at cA cB cS cL
  generalize nm p (pmul (dig p a) (dig p b)) = r at *
  generalize dig p a = da at *
  generalize dig p b = db at *
  go_enter Try.func16, Try.ntmps16
  go_wp2_with (first
    | (go_at_call 28; refine (cA _).mono ?_; rintro e w1 ⟨⟨o1, c1, rfl, hc1, hr1⟩, hB1⟩; have H1 := hid hr1; have HB1 := hid hB1; clear hr1 hB1 cA)
    | (go_at_call 28; refine (cB _).mono ?_; rintro e w2 ⟨⟨o2, c2, rfl, hc2, hr2⟩, hB2⟩; have H2 := hid hr2; have HB2 := hid hB2; clear hr2 hB2)
    | (go_at_call 31; refine (cS o1 o2 c1 c2 _ (irow_below H1.out HB2.out (Nat.le_refl _)) H2.out).mono ?_; rintro e w3 ⟨⟨o3, c3, rfl, hc3, hr3⟩, hB3⟩; have H3 := hid hr3; have HB3 := hid hB3; clear hr3 hB3)
    | (go_at_call 30; refine (cL o3 c3 _ (below_trans (below_trans HB1.out HB2.out) HB3.out) H3.out).mono ?_; rintro e w4 ⟨⟨r4, hR4, o4, c4, rfl, hc4, hr4⟩, hB4⟩; have H4 := hid hr4; have HB4 := hid hB4; clear hr4 hB4)
    | (go_at_call 26; refine (cN o4 c4 r4 hR4 _ H4.out).mono ?_; rintro e w5 ⟨rfl, hw⟩; subst w5))
  go_ret
  exact ⟨⟨_, hR4.out.1, rfl⟩, below_trans (below_trans (below_trans HB1.out HB2.out) HB3.out) HB4.out⟩

end Go.Proofs.Ytjpmkcijkcnfiaa.Calls76
