/-
  Package walsh: Degree and Immune.
-/
import Derived.Test.YtpnjpkmlfbcnjaaCalls112
namespace Go.Proofs.Ytpnjpkmlfbcnjaa.Calls113
set_option linter.unusedVariables false
open Go.ChangeShapes Go.WideShapes Go.ChangeAt Go.RowKit Go.Deep Go.Proofs.Ytpnjpkmlfbcnjaa.Base Go.Proofs.Ytpnjpkmlfbcnjaa.Base2 Go.Proofs.Ytpnjpkmlfbcnjaa.Num34 Go.Proofs.Ytpnjpkmlfbcnjaa.Base4 Go.Proofs.Ytpnjpkmlfbcnjaa.Base6 Go.Proofs.Ytpnjpkmlfbcnjaa.Num41 Go.Proofs.Ytpnjpkmlfbcnjaa.Num42 Go.Proofs.Ytpnjpkmlfbcnjaa.Num57 Go.Proofs.Ytpnjpkmlfbcnjaa.Num58 Go.Proofs.Ytpnjpkmlfbcnjaa.Calls110 Go.Proofs.Ytpnjpkmlfbcnjaa.Calls111 Go.Proofs.Ytpnjpkmlfbcnjaa.Calls112

theorem an_ok {n f : Nat} (hn : n ≤ 5) : FnOk (n : Int) (an n f) := ⟨by omega, by omega, by simpa using an_lt⟩

theorem an_u32 {n f : Nat} (hn : n ≤ 5) : an n f < 4294967296 := Nat.lt_of_lt_of_le an_lt (pow_pow5 hn)

set_option maxRecDepth 100000 in
theorem Degree_yes (n N f : Nat) (hf : f < 4294967296) (hF : FnOk (n : Int) f) (hn : n ≤ 5) (hN : N = 2 ^ n) (w : World) :
    Calls Try.prog 14 #[.int .i64 (n : Int), .int .u32 (f : Int)] w fun e w' => e = .returned (.tuple #[.int .i64 (df n f), .int .i64 0]) ∧ Below w.heap.size w w' := by
  have cA := Anf_yes n N f hf hF hn hN w
  have cV := fun w => values_any (an n f) n N (an_u32 hn) hn hN w
  have hD : Hid (∀ i, i < N → bv (an n f) i = ((ab n f i : Nat) : Int)) := fun i hi => by
    show ((bt (an n f) i : Nat) : Int) = _
    rw [an_bit (by rw [← hN]; exact hi)]
  have hE : Hid (dg (ab n f) N = df n f) := by show _ = dg (ab n f) (2 ^ n); rw [hN]
  have hNN := pow_n hn hN
  have cOn := fun x (hx : x < N) w => ones_any x (by omega) w
  clear hF hN
  generalize an n f = a at *
  go_enter Try.func14, Try.ntmps14
  go_wp2_with (first
    | (go_at_call 12; refine cA.mono ?_; rintro e w1 ⟨rfl, hB⟩; clear cA)
    | (go_at_call 22; refine (cV _).mono ?_; rintro e w2 ⟨rfl, hO2, hB2⟩; clear cV))
  have O1 := hid (hO2.congr hD.out)
  have B1 := hid (below_trans hB hB2)
  obtain ⟨G, hG⟩ : ∃ G, G = w1.heap.size := ⟨_, rfl⟩
  rw [← hG] at O1 ⊢
  clear hB hO2 hB2 hG hD
  go_loopw [8, 24] (fun u i wr => ∃ k : Nat, u = .int .i64 (dg (ab n f) k) ∧ i = .int .i64 (k : Int) ∧ k ≤ N ∧ Hid (wr = w2)) (fun u i wr => ((N : Int) - intOf i).toNat)
  case atStart => exact ⟨0, rfl, rfl, by omega, rfl⟩
  case round =>
    obtain ⟨k, rfl, rfl, hk, hW⟩ := hrel
    by_cases hgo : k < N
    · have hgo' : (k : Int) < (N : Int) := by omega
      have hc := O1.out.cell hgo
      rw [← hW.out] at hc
      have hl := ab_lt n f k
      have hdb := dg_bd (ab n f) k
      have ho := on_le 5 k
      have cO := fun w => cOn k hgo w
      have hstep : Hid (dg (ab n f) (k + 1) = if ab n f k = 1 ∧ dg (ab n f) k < ((on 5 k : Nat) : Int) then ((on 5 k : Nat) : Int) else dg (ab n f) k) := rfl
      obtain ⟨d2, hd2⟩ : ∃ d2, d2 = dg (ab n f) (k + 1) := ⟨_, rfl⟩
      have HD2 := hid hd2
      rw [← hd2] at hstep
      clear hd2 cOn
      generalize dg (ab n f) k = d at *
      generalize on 5 k = o at *
      by_cases hb : ab n f k = 1
      · rw [hb] at hc
        have hc' : wr.cell? ⟨G, k, none⟩ = some (.int .i64 1) := hc
        by_cases hlt : d < (o : Int)
        · have e : Hid (d2 = (o : Int)) := by have := hstep.out; rw [if_pos ⟨hb, hlt⟩] at this; exact this
          clear hstep hb hc hl
          go_wp2_with (go_at_call 26; refine (cO _).mono ?_; rintro e w' ⟨rfl, hw⟩; subst w')
          go_roundw
          case rel => exact ⟨k + 1, by rw [← HD2.out, e.out], by simp, by omega, hW⟩
          case measure => exact measK hgo
        · have e : Hid (d2 = d) := by have := hstep.out; rw [if_neg (fun h => hlt h.2)] at this; exact this
          clear hstep hb hc hl
          go_wp2_with (go_at_call 26; refine (cO _).mono ?_; rintro e w' ⟨rfl, hw⟩; subst w')
          go_roundw
          case rel => exact ⟨k + 1, by rw [← HD2.out, e.out], by simp, by omega, hW⟩
          case measure => exact measK hgo
      · have e : Hid (d2 = d) := by have := hstep.out; rw [if_neg (fun h => hb h.1)] at this; exact this
        have hb2 : ab n f k = 0 := by omega
        rw [hb2] at hc
        have hc' : wr.cell? ⟨G, k, none⟩ = some (.int .i64 0) := hc
        clear hstep hb hb2 hc hl
        go_wp2
        go_roundw
        case rel => exact ⟨k + 1, by rw [← HD2.out, e.out], by simp, by omega, hW⟩
        case measure => exact measK hgo
    · have hgo' : ¬ (k : Int) < (N : Int) := by omega
      obtain rfl : k = N := by omega
      rw [hE.out]
      go_wp2
      go_ret2
      exact ⟨rfl, by rw [hW.out]; exact B1.out⟩

theorem Degree_no (n : Int) (f : Nat) (hf : f < 4294967296) (hF : ¬ FnOk n f) (w : World) :
    Calls Try.prog 14 #[.int .i64 n, .int .u32 (f : Int)] w fun e w' => e = .returned (.tuple #[.int .i64 0, .int .i64 2]) ∧ w' = w := by
  have cA := Anf_no n f hf hF w
  clear hF
  go_enter Try.func14, Try.ntmps14
  go_wp2_with (go_at_call 12; refine cA.mono ?_; rintro e w' ⟨rfl, hw⟩; subst w')
  go_ret2
  exact ⟨rfl, rfl⟩

theorem Immune_no (n : Int) (f : Nat) (k : Int) (hf : f < 4294967296) (hF : ¬ FnOk n f) (w : World) :
    Calls Try.prog 16 #[.int .i64 n, .int .u32 (f : Int), .int .i64 k] w fun e w' => e = .returned (.tuple #[.bool false, .int .i64 2]) ∧ w' = w := by
  have cA := Waves_no n f hf hF w
  clear hF
  go_enter Try.func16, Try.ntmps16
  go_wp2_with (go_at_call 9; refine cA.mono ?_; rintro e w' ⟨rfl, hw⟩; subst w')
  go_ret2
  exact ⟨rfl, rfl⟩

set_option maxRecDepth 100000 in
theorem Immune_far (n N f : Nat) (k : Int) (hf : f < 4294967296) (hF : FnOk (n : Int) f) (hn : n ≤ 5) (hN : N = 2 ^ n) (hk : k < 0 ∨ (n : Int) < k) (w : World) :
    Calls Try.prog 16 #[.int .i64 (n : Int), .int .u32 (f : Int), .int .i64 k] w fun e w' => e = .returned (.tuple #[.bool false, .int .i64 2]) ∧ Below w.heap.size w w' := by
  have cA := Waves_yes n N f hf hF hn hN w
  clear hF hN
  by_cases h0 : k < 0
  · clear hk
    go_enter Try.func16, Try.ntmps16
    go_wp2_with (go_at_call 9; refine cA.mono ?_; rintro e w1 ⟨rfl, hO, hB⟩)
    go_ret2
    exact ⟨rfl, hB⟩
  · have h1 : (n : Int) < k := by omega
    have h0' : decide (k < 0) = false := by simpa using h0
    clear hk
    go_enter Try.func16, Try.ntmps16
    go_wp2_with (go_at_call 9; refine cA.mono ?_; rintro e w1 ⟨rfl, hO, hB⟩)
    go_ret2
    exact ⟨rfl, hB⟩

theorem wf_bd {n f u : Nat} (hn : n ≤ 5) (hu : u < 2 ^ n) : -32 ≤ wf n f u ∧ wf n f u ≤ 32 := by
  have h := tn_big (g := fun x => sn (bv f x)) (fun x => sn_bd f x) n u
  rw [tn_wv n _ u hu] at h
  have h2 : (2 : Int) ^ n ≤ 32 := by
    rcases (show n = 0 ∨ n = 1 ∨ n = 2 ∨ n = 3 ∨ n = 4 ∨ n = 5 by omega) with rfl | rfl | rfl | rfl | rfl | rfl <;> decide
  unfold wf
  omega

set_option maxRecDepth 100000 in
theorem Immune_yes (n N f k : Nat) (hf : f < 4294967296) (hF : FnOk (n : Int) f) (hn : n ≤ 5) (hN : N = 2 ^ n) (hk : k ≤ n) (b : Bool) (hb : b = true ↔ ImW n f k N) (w : World) :
    Calls Try.prog 16 #[.int .i64 (n : Int), .int .u32 (f : Int), .int .i64 (k : Int)] w fun e w' => e = .returned (.tuple #[.bool b, .int .i64 0]) ∧ Below w.heap.size w w' := by
  have cA := Waves_yes n N f hf hF hn hN w
  have hNN := pow_n hn hN
  have cOn := fun x (hx : x < N) w => ones_any x (by omega) w
  have h0' : decide ((k : Int) < 0) = false := by simp
  have h1' : decide ((n : Int) < (k : Int)) = false := by simp; omega
  have h2' : ¬ n < k := by omega
  have h3' : decide (n < k) = false := by simpa using hk
  have hwb := hid (fun u (hu : u < N) => wf_bd (f := f) hn (show u < 2 ^ n by rw [← hN]; exact hu))
  have HB := hid hb
  clear hF hN hb
  go_enter Try.func16, Try.ntmps16
  go_wp2_with (go_at_call 9; refine cA.mono ?_; rintro e w1 ⟨rfl, hO, hB⟩; clear cA)
  have O1 := hid hO
  have B1 := hid hB
  clear hO hB
  go_loopw [30] (fun i wr => ∃ u : Nat, i = .int .i64 (u : Int) ∧ u ≤ N ∧ Hid (ImW n f k u) ∧ Hid (wr = w1)) (fun i wr => ((N : Int) - intOf i).toNat)
  case atStart => exact ⟨0, rfl, by omega, fun u hu => by omega, rfl⟩
  case round =>
    obtain ⟨u, rfl, hu, hI, hW⟩ := hrel
    by_cases hgo : u < N
    · have hgo' : (u : Int) < (N : Int) := by omega
      have hc := O1.out.cell hgo
      rw [← hW.out] at hc
      have ho := on_le 5 u
      have cO := fun w => cOn u hgo w
      have hbd := hwb.out u hgo
      have hnx : Hid ((1 ≤ u → on 5 u ≤ k → wf n f u = 0) → ImW n f k (u + 1)) := fun h => hI.out.next h
      have hbr : Hid (1 ≤ u → on 5 u ≤ k → wf n f u ≠ 0 → b = false) := fun h1 h2 h3 => by
        cases b
        · rfl
        · exact absurd (HB.out.1 rfl u hgo h1 h2) h3
      clear cOn
      generalize wf n f u = z at *
      generalize on 5 u = o at *
      by_cases h1 : 1 ≤ u
      · have h1' : (0 : Int) < (u : Int) := by omega
        by_cases h2 : o ≤ k
        · have h2' : (o : Int) ≤ (k : Int) := by omega
          by_cases h3 : z = 0
          · have hI2 := hid (hnx.out (fun _ _ => h3))
            subst h3
            go_wp2_with (go_at_call 26; refine (cO _).mono ?_; rintro e w' ⟨rfl, hw⟩; subst w')
            go_roundw
            case rel => exact ⟨u + 1, by simp, by omega, hI2, hW⟩
            case measure => exact measK hgo
          · have e : Hid (b = false) := hbr.out h1 h2 h3
            have h3' : (z != 0) = true := by simpa using h3
            go_wp2_with (go_at_call 26; refine (cO _).mono ?_; rintro e w' ⟨rfl, hw⟩; subst w')
            go_ret2
            exact ⟨by rw [e.out]; rfl, by rw [hW.out]; exact B1.out⟩
        · have h2' : ¬ (o : Int) ≤ (k : Int) := by omega
          have hI2 := hid (hnx.out (fun _ h => absurd h h2))
          go_wp2_with (go_at_call 26; refine (cO _).mono ?_; rintro e w' ⟨rfl, hw⟩; subst w')
          go_roundw
          case rel => exact ⟨u + 1, by simp, by omega, hI2, hW⟩
          case measure => exact measK hgo
      · have h1' : ¬ (0 : Int) < (u : Int) := by omega
        have hI2 := hid (hnx.out (fun h _ => absurd h h1))
        go_wp2_with (go_at_call 26; refine (cO _).mono ?_; rintro e w' ⟨rfl, hw⟩; subst w')
        go_roundw
        case rel => exact ⟨u + 1, by simp, by omega, hI2, hW⟩
        case measure => exact measK hgo
    · have hgo' : ¬ (u : Int) < (N : Int) := by omega
      obtain rfl : u = N := by omega
      have e : Hid (b = true) := HB.out.2 hI.out
      go_wp2
      go_ret2
      exact ⟨by rw [e.out]; rfl, by rw [hW.out]; exact B1.out⟩

end Go.Proofs.Ytpnjpkmlfbcnjaa.Calls113
