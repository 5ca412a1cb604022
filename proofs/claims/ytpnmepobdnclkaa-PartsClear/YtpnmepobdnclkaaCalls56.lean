/-
  Package poly: the last number, zeros at the end, what is left, what makes 1, and what is wrong with a polynomial; and the document's answers to these.
-/
import Derived.Test.YtpnmepobdnclkaaBase4
import Derived.Test.YtpnmepobdnclkaaFoldC
namespace Go.Proofs.Ytpnmepobdnclkaa.Calls56
set_option linter.unusedVariables false
open Go.ChangeShapes Go.WideShapes Go.ChangeAt Go.RowKit Go.Deep Go.Proofs.Ytpnmepobdnclkaa.Base Go.Proofs.Ytpnmepobdnclkaa.Base2 Go.Proofs.Ytpnmepobdnclkaa.Num Go.Proofs.Ytpnmepobdnclkaa.Num13 Go.Proofs.Ytpnmepobdnclkaa.Num16 Go.Proofs.Ytpnmepobdnclkaa.Num17 Go.Proofs.Ytpnmepobdnclkaa.Num34 Go.Proofs.Ytpnmepobdnclkaa.Base4
open Go.Proofs.Ytpnmepobdnclkaa.Math (gg gg_nonneg gg_left gg_right)
open Go.Proofs.Ytpnmepobdnclkaa.Calls1 (tmod_bd)
open Go.Proofs.Ytpnmepobdnclkaa.Calls6 (one_yes leastFactor_any)
open Go.Proofs.Ytpnmepobdnclkaa.Calls9 (prB prB_iff Is_yes refIs_any)
open Go.Proofs.Ytpnmepobdnclkaa.Calls19 (two_mod refPow_any refMod_at)


theorem last_any (ad : Addr) (cap m : Nat) (x : Int) (hm : m + 1 ≤ 9223372036854775807) (w : World) (hc : w.cell? (ad.add m) = some (.int .i64 x)) :
    Calls Try.prog 56 #[.slice (some ad) (m + 1) cap] w fun e w' => e = .returned (.int .i64 x) ∧ w' = w := by
  go_enter Try.func56, Try.ntmps56
  go_wp2
  go_ret
  exact ⟨rfl, rfl⟩

theorem last_row (ao : Option Addr) (cap m : Nat) (l : List Int) (hl : m < l.length) (hm : l.length ≤ 9223372036854775807) (w : World) (hrow : IRow w ao l) :
    Calls Try.prog 56 #[.slice ao (m + 1) cap] w fun e w' => e = .returned (.int .i64 (co l m)) ∧ w' = w := by
  rcases ao with _ | ad
  · exact (irow_none hrow hl).elim
  · exact last_any ad cap m (co l m) (by omega) w (hrow.2 ad rfl m hl)

set_option maxRecDepth 100000 in
theorem trim_any (ao : Option Addr) (cap : Nat) (l : List Int) (hm : l.length ≤ 9223372036854775807) (hcap : l.length ≤ cap) (w : World) (hrow : IRow w ao l) :
    Calls Try.prog 73 #[.slice ao l.length cap] w fun e w' => RetL (tr l) e w' ∧ w' = w := by
  have cL := fun m (h : m < l.length) w' (hw : w' = w) => last_row ao cap m l h hm w' (by rw [hw]; exact hrow)
  obtain ⟨n, hn⟩ : ∃ n, n = l.length := ⟨_, rfl⟩
  have HN : Hid (n = l.length) := hn
  have HR := hid hrow
  rw [← hn] at hm hcap ⊢
  rw [← hn] at cL
  clear hn hrow
  go_enter Try.func73, Try.ntmps73
  go_wp2
  go_loop [0] (fun v => ∃ k : Nat, v = .slice ao k cap ∧ k ≤ n ∧ Hid (tr (l.take k) = tr l)) (fun v => slen v)
  case atStart => exact ⟨n, rfl, by omega, by show _ = _; rw [HN.out, List.take_of_length_le (Nat.le_refl _)]⟩
  case round =>
    obtain ⟨k, rfl, hk, hT⟩ := hrel
    match k, hk, hT with
    | 0, hk, hT =>
      go_wp2
      go_ret
      refine ⟨?_, rfl⟩
      have e : tr l = [] := by rw [← hT.out]; simp [tr]
      rw [e]
      exact ⟨ao, cap, rfl, by simp, irow_nil _ _⟩
    | m + 1, hk, hT =>
      have cM := fun w' hw => cL m (by omega) w' hw
      have hz : Hid (co l m = 0 → tr (l.take (m + 1)) = tr (l.take m)) := fun h0 => tr_take_zero (l := l) (k := m) (by have := HN.out; omega) h0
      have hs : Hid (co l m ≠ 0 → tr (l.take (m + 1)) = l.take (m + 1)) := fun h0 => tr_take_stop (l := l) (k := m + 1) (by have := HN.out; omega) (.inr (by rw [Nat.add_sub_cancel]; exact h0))
      generalize co l m = x at *
      by_cases h0 : x = 0
      · subst h0
        have hz2 : Hid (tr (l.take (m + 1)) = tr (l.take m)) := hz.out rfl
        clear hz hs
        rcases ao with _ | ad
        · exact (irow_none HR.out (j := m) (by have := HN.out; omega)).elim
        · go_wp2_with (go_at_call 56; refine (cM _ rfl).mono ?_; rintro e w1 ⟨rfl, hw⟩; subst w1)
          go_round
          case rel => exact ⟨m, by simp, by omega, by show _ = _; rw [← hz2.out, hT.out]⟩
          case measure => simp [slen]
      · have h0' : (x == 0) = false := by simpa using h0
        have hs2 : Hid (tr (l.take (m + 1)) = l.take (m + 1)) := hs.out h0
        clear hz hs
        go_wp2_with (go_at_call 56; refine (cM _ rfl).mono ?_; rintro e w1 ⟨rfl, hw⟩; subst w1)
        go_ret
        refine ⟨?_, rfl⟩
        have e : tr l = l.take (m + 1) := by rw [← hT.out, hs2.out]
        have el : (l.take (m + 1)).length = m + 1 := by rw [List.length_take]; have := HN.out; omega
        rw [e]
        exact ⟨ao, cap, by rw [el]; rfl, by rw [el]; omega, irow_take HR.out _⟩

theorem left_any (a : Int) (m : Nat) (h1 : 1 ≤ m) (h2 : m ≤ 1048576) (w : World) :
    Calls Try.prog 59 #[.int .i64 a, .int .i64 (m : Int)] w fun e w' => e = .returned (.int .i64 (rs a m : Int)) ∧ w' = w := by
  have hb := tmod_bd (n := a) (m := m) (by omega)
  have H := hid (two_mod a h1)
  have h0 : ¬ (m : Int) = 0 := by omega
  have hq0 : 0 ≤ a.tmod (m : Int) + (m : Int) := by omega
  go_enter Try.func59, Try.ntmps59
  go_wp2
  go_ret
  exact ⟨ret_int (by rw [← H.out]), rfl⟩

theorem Inverse_b (a m : Int) (w : World) (ha1 : -2147483648 ≤ a) (ha2 : a ≤ 2147483648) (h1 : 1 ≤ m) (h2 : m ≤ 1048576) (hg : gg a m = 1) :
    Calls Try.prog 74 #[.int .i64 a, .int .i64 m] w fun e w' =>
      ∃ x : Int, e = .returned (.tuple #[.int .i64 x, .int .i64 0]) ∧ 0 ≤ x ∧ x < m ∧ m ∣ x * a - 1 ∧ Below w.heap.size w w' := by
  have d1 : decide (m < 1) = false := by simp; omega
  have d2 : decide (1048576 < m) = false := by simp; omega
  have hm : (m.natAbs : Int) / 1 = m := by omega
  have HG := hid hg
  have HM := hid hm
  clear hg hm
  go_enter Try.func74, Try.ntmps74
  go_wp2_with (first
    | (go_at_call 80; refine (one_yes a _ ha1 ha2).mono ?_; rintro e w' ⟨rfl, rfl⟩)
    | (go_at_call 81; refine (leastFactor_any _ _ _ (by omega) ha1 ha2 (by omega) (by omega)).mono ?_; rw [HG.out, HM.out]; rintro e w' ⟨x, rfl, hx1, hx2, hx3, rfl⟩; have HX := hid hx3; clear hx3))
  go_ret2
  exact ⟨x, rfl, hx1, hx2, HX.out, (Below.refl _ _).alloc (Nat.le_refl _) _⟩

theorem gg_one {p : Nat} (hp : Pr p) {x : Int} (h : ¬ (p : Int) ∣ x) : gg x (p : Int) = 1 := by
  have hp1 := hp.1
  have h1 := gg_left x (p : Int)
  have h2 := gg_right x (p : Int)
  have h0 := gg_nonneg x (p : Int)
  obtain ⟨g, hg⟩ : ∃ g : Nat, gg x (p : Int) = (g : Int) := ⟨(gg x (p : Int)).toNat, by omega⟩
  rw [hg] at h1 h2 ⊢
  rcases hp.2 g (Int.ofNat_dvd.1 h2) with e | e
  · rw [e]; rfl
  · rw [e] at h1; exact absurd h1 h

theorem inverse_any (p : Nat) (hp : Pr p) (h2 : p ≤ 1048576) (x : Int) (hx : 0 ≤ x ∧ x < (p : Int)) (hx0 : x ≠ 0) (w : World) :
    Calls Try.prog 63 #[.int .i64 (p : Int), .int .i64 x] w fun e w' => e = .returned (.int .i64 (iv p x : Int)) ∧ Below w.heap.size w w' := by
  have hp1 := hp.1
  have hd := not_dvd hx hx0
  have cI := fun w => (Inverse_b x (p : Int) w (by omega) (by omega) (by omega) (by omega) (gg_one hp hd)).mono (R' := fun e w' => e = .returned (.tuple #[.int .i64 (iv p x : Int), .int .i64 0]) ∧ Below w.heap.size w w') (fun e w' ⟨y, he, hy1, hy2, hy3, hB⟩ => ⟨by rw [he, iv_uniq hp hd ⟨hy1, hy2⟩ hy3], hB⟩)
  clear hd hx0
  go_enter Try.func63, Try.ntmps63
  go_wp2_with (go_at_call 74; refine (cI _).mono ?_; rintro e w1 ⟨rfl, hB⟩)
  go_ret
  exact ⟨rfl, hB⟩

/-! ### what is wrong with a prime -/

/-- The code of p. -/
def PrC (p c : Int) : Prop := (¬ (2 ≤ p ∧ p ≤ 251) ∧ c = 2) ∨ ((2 ≤ p ∧ p ≤ 251) ∧ ((¬ Pr p.toNat ∧ c = 3) ∨ (Pr p.toNat ∧ c = 0)))

theorem prc_ex (p : Int) : ∃ c, PrC p c := by
  by_cases h : 2 ≤ p ∧ p ≤ 251
  · rcases Classical.em (Pr p.toNat) with h2 | h2
    · exact ⟨0, .inr ⟨h, .inr ⟨h2, rfl⟩⟩⟩
    · exact ⟨3, .inr ⟨h, .inl ⟨h2, rfl⟩⟩⟩
  · exact ⟨2, .inl ⟨h, rfl⟩⟩

theorem PrC.ok {p : Int} (h : PrC p 0) : ∃ P : Nat, p = (P : Int) ∧ Pr P ∧ P ≤ 251 := by
  rcases h with ⟨_, h⟩ | ⟨h, ⟨_, h2⟩ | ⟨h2, _⟩⟩
  · cases h
  · cases h2
  · exact ⟨p.toNat, by omega, h2, by omega⟩

theorem PrC.of {P : Nat} (h : Pr P) (h2 : P ≤ 251) : PrC (P : Int) 0 := by
  have := h.1
  exact .inr ⟨⟨by omega, by omega⟩, .inr ⟨by rw [Int.toNat_natCast]; exact h, rfl⟩⟩

theorem checkPrime_any (p c : Int) (hc : PrC p c) (w : World) :
    Calls Try.prog 54 #[.int .i64 p] w fun e w' => e = .returned (.int .i64 c) ∧ Below w.heap.size w w' := by
  rcases hc with ⟨h, rfl⟩ | ⟨h, h2⟩
  · by_cases h1 : p < 2
    · go_enter Try.func54, Try.ntmps54
      go_wp2
      go_ret
      exact ⟨rfl, Below.refl _ _⟩
    · have h1' : decide (p < 2) = false := by simpa using h1
      have h3 : 251 < p := by omega
      go_enter Try.func54, Try.ntmps54
      go_wp2
      go_ret
      exact ⟨rfl, Below.refl _ _⟩
  · obtain ⟨P, rfl⟩ : ∃ P : Nat, p = (P : Int) := ⟨p.toNat, by omega⟩
    have cI := fun w => Is_yes P (by omega) (by omega) w
    have h3 : decide ((P : Int) < 2) = false := by simp; omega
    have h4 : decide ((251 : Int) < (P : Int)) = false := by simp; omega
    rw [Int.toNat_natCast] at h2
    rcases h2 with ⟨h2, rfl⟩ | ⟨h2, rfl⟩
    · have e : prB P = false := by
        cases hb : prB P
        · rfl
        · exact absurd ((prB_iff P).1 hb) h2
      rw [e] at cI
      clear h2 e
      go_enter Try.func54, Try.ntmps54
      go_wp2_with (go_at_call 68; refine (cI _).mono ?_; rintro e w1 ⟨rfl, hB⟩)
      go_ret
      exact ⟨rfl, hB⟩
    · rw [(prB_iff P).2 h2] at cI
      clear h2
      go_enter Try.func54, Try.ntmps54
      go_wp2_with (go_at_call 68; refine (cI _).mono ?_; rintro e w1 ⟨rfl, hB⟩)
      go_ret
      exact ⟨rfl, hB⟩

theorem refPrimeCheck_any (p c : Int) (hc : PrC p c) (w : World) :
    Calls Try.prog 9 #[.int .i64 p] w fun e w' => e = .returned (.int .i64 c) ∧ w' = w := by
  rcases hc with ⟨h, rfl⟩ | ⟨h, h2⟩
  · by_cases h1 : p < 2
    · go_enter Try.func9, Try.ntmps9
      go_wp2
      go_ret
      exact ⟨rfl, rfl⟩
    · have h1' : decide (p < 2) = false := by simpa using h1
      have h3 : 251 < p := by omega
      go_enter Try.func9, Try.ntmps9
      go_wp2
      go_ret
      exact ⟨rfl, rfl⟩
  · obtain ⟨P, rfl⟩ : ∃ P : Nat, p = (P : Int) := ⟨p.toNat, by omega⟩
    have cI := fun w => refIs_any P (by omega) w
    have h3 : decide ((P : Int) < 2) = false := by simp; omega
    have h4 : decide ((251 : Int) < (P : Int)) = false := by simp; omega
    rw [Int.toNat_natCast] at h2
    rcases h2 with ⟨h2, rfl⟩ | ⟨h2, rfl⟩
    · have e : prB P = false := by
        cases hb : prB P
        · rfl
        · exact absurd ((prB_iff P).1 hb) h2
      rw [e] at cI
      clear h2 e
      go_enter Try.func9, Try.ntmps9
      go_wp2_with (go_at_call 22; refine (cI _).mono ?_; rintro e w1 ⟨rfl, hw⟩; subst w1)
      go_ret
      exact ⟨rfl, rfl⟩
    · rw [(prB_iff P).2 h2] at cI
      clear h2
      go_enter Try.func9, Try.ntmps9
      go_wp2_with (go_at_call 22; refine (cI _).mono ?_; rintro e w1 ⟨rfl, hw⟩; subst w1)
      go_ret
      exact ⟨rfl, rfl⟩

/-! ### numbers out of bounds -/

def outB (p x : Int) : Bool := decide (x < 0) || decide (p ≤ x)

theorem outside1_any (A : Nat) (p x : Int) (w : World) (hA : w.cell? ⟨A, 0, none⟩ = some (.int .i64 p)) :
    Calls Try.prog 69 #[.int .i64 x, .pointer (some ⟨A, 0, none⟩)] w fun e w' => e = .returned (.bool (outB p x)) ∧ w' = w := by
  by_cases h : x < 0
  · have e : Hid (outB p x = true) := by show _ = _; unfold outB; rw [decide_eq_true h]; rfl
    go_enter Try.func69, Try.ntmps69
    go_wp2
    go_ret
    exact ⟨ret_bool e.out.symm, rfl⟩
  · have h' : decide (x < 0) = false := by simpa using h
    by_cases h2 : p ≤ x
    · have e : Hid (outB p x = true) := by show _ = _; unfold outB; rw [decide_eq_true h2]; simp
      go_enter Try.func69, Try.ntmps69
      go_wp2
      go_ret
      exact ⟨ret_bool e.out.symm, rfl⟩
    · have h2' : decide (p ≤ x) = false := by simpa using h2
      have e : Hid (outB p x = false) := by show _ = _; unfold outB; rw [decide_eq_false h, decide_eq_false h2]; rfl
      go_enter Try.func69, Try.ntmps69
      go_wp2
      go_ret
      exact ⟨ret_bool e.out.symm, rfl⟩

theorem outside_any (p : Int) (w : World) :
    Calls Try.prog 55 #[.int .i64 p] w fun e w' => e = .returned (.func (.func 69) #[] #[.pointer (some ⟨w.heap.size, 0, none⟩)]) ∧ w' = w.alloc (.cells #[.int .i64 p] 2) := by
  go_enter Try.func55, Try.ntmps55
  go_wp2
  go_ret
  exact ⟨rfl, rfl⟩

/-- What IndexFunc answers: a place, or -1. -/
def SeenO (p : Int) (l : List Int) (e : Ending) : Prop := (∃ k : Nat, (∃ x ∈ l, outB p x = true) ∧ e = .returned (.int .i64 (k : Int))) ∨ ((∀ x ∈ l, outB p x = false) ∧ e = .returned (.int .i64 (-1)))

set_option maxRecDepth 100000 in
theorem slIndexFunc_any (ao : Option Addr) (cap : Nat) (l : List Int) (A : Nat) (p : Int) (hl : l.length ≤ 1048576) (w : World) (hrow : IRow w ao l) (hA : w.cell? ⟨A, 0, none⟩ = some (.int .i64 p)) :
    Calls Try.prog 57 #[.slice ao l.length cap, .func (.func 69) #[] #[.pointer (some ⟨A, 0, none⟩)]] w fun e w' => SeenO p l e ∧ w' = w := by
  obtain ⟨N, hN⟩ : ∃ N, N = l.length := ⟨_, rfl⟩
  have HN : Hid (N = l.length) := hN
  rw [← hN] at hl ⊢
  clear hN
  go_enter Try.func57, Try.ntmps57
  go_wp2
  go_loop [8] (fun i => ∃ k : Nat, i = .int .i64 (k : Int) ∧ k ≤ N ∧ Hid (∀ j, j < k → outB p (co l j) = false)) (fun i => ((N : Int) - intOf i).toNat)
  case atStart => exact ⟨0, rfl, by omega, fun j hj => by omega⟩
  case round =>
    obtain ⟨k, rfl, hk, hnot⟩ := hrel
    by_cases hgo : k < N
    · have hgo' : (k : Int) < (N : Int) := by omega
      have hkl : Hid (k < l.length) := by have := HN.out; show k < l.length; omega
      rcases ao with _ | ad
      · exact (irow_none hrow hkl.out).elim
      · have c := hrow.2 ad rfl k hkl.out
        obtain ⟨q, hqe⟩ : ∃ q, co l k = q := ⟨_, rfl⟩
        rw [hqe] at c
        have hqm : Hid (q ∈ l) := by show q ∈ l; rw [← hqe]; exact co_mem hkl.out
        have HE := hid hqe
        clear hqe
        have cC := outside1_any A p q w hA
        cases hb : outB p q with
        | true =>
          rw [hb] at cC
          have HB := hid hb
          clear hb
          go_wp2_with (go_at_call 69; refine cC.mono ?_; rintro e w1 ⟨rfl, hw⟩; subst w1)
          go_ret
          exact ⟨.inl ⟨k, ⟨q, hqm.out, HB.out⟩, rfl⟩, rfl⟩
        | false =>
          rw [hb] at cC
          have HB : Hid (∀ j, j < k + 1 → outB p (co l j) = false) := fun j hj => by
            by_cases e : j = k
            · subst e; rw [HE.out]; exact hb
            · exact hnot.out j (by omega)
          clear hb
          go_wp2_with (go_at_call 69; refine cC.mono ?_; rintro e w1 ⟨rfl, hw⟩; subst w1)
          go_round
          case rel => exact ⟨k + 1, by simp, by omega, HB⟩
          case measure => exact measK hgo
    · have hgo' : ¬ (k : Int) < (N : Int) := by omega
      have hm : Hid (∀ q ∈ l, outB p q = false) := fun q hq => by
        obtain ⟨j, hj, e⟩ := List.getElem_of_mem hq
        have := hnot.out j (by have := HN.out; omega)
        simpa [co, List.getD, hj, e] using this
      go_wp2
      go_ret
      exact ⟨.inr ⟨hm.out, rfl⟩, rfl⟩

theorem bd_or (p : Nat) (l : List Int) : (∃ x ∈ l, outB (p : Int) x = true) ∨ Bd p l := by
  rcases Classical.em (∃ x ∈ l, outB (p : Int) x = true) with h | h
  · exact .inl h
  · refine .inr (fun x hx => ?_)
    have h1 : ¬ outB (p : Int) x = true := fun e => h ⟨x, hx, e⟩
    simp [outB] at h1
    omega

theorem Bd.out {p : Nat} {l : List Int} (h : Bd p l) {x : Int} (hx : x ∈ l) : outB (p : Int) x = false := by
  have := h x hx
  unfold outB
  rw [decide_eq_false (by omega), decide_eq_false (by omega)]; rfl

theorem slContainsFunc_any (ao : Option Addr) (cap : Nat) (l : List Int) (A p : Nat) (hl : l.length ≤ 1048576) (b : Bool) (hb : b = false ↔ Bd p l) (w : World) (hrow : IRow w ao l) (hA : w.cell? ⟨A, 0, none⟩ = some (.int .i64 (p : Int))) :
    Calls Try.prog 44 #[.slice ao l.length cap, .func (.func 69) #[] #[.pointer (some ⟨A, 0, none⟩)]] w fun e w' => e = .returned (.bool b) ∧ w' = w := by
  have cF := slIndexFunc_any ao cap l A (p : Int) hl w hrow hA
  cases b with
  | true =>
    have cI := cF.mono (R' := fun e w1 => (∃ k : Nat, e = .returned (.int .i64 (k : Int))) ∧ w1 = w) (fun e w1 h => ⟨by
      rcases h.1 with ⟨k, _, e⟩ | ⟨h, _⟩
      · exact ⟨k, e⟩
      · exfalso
        rcases bd_or p l with ⟨x, h1, h2⟩ | h1
        · rw [h x h1] at h2; exact absurd h2 (by decide)
        · exact absurd (hb.2 h1) (by decide), h.2⟩)
    clear cF hb hrow hA
    go_enter Try.func44, Try.ntmps44
    go_wp2_with (go_at_call 57; refine cI.mono ?_; rintro e w1 ⟨⟨k, rfl⟩, hw⟩; subst w1)
    go_ret
    exact ⟨ret_bool (by simp), rfl⟩
  | false =>
    have hB := hb.1 rfl
    have cI := cF.mono (R' := fun e w1 => e = .returned (.int .i64 (-1)) ∧ w1 = w) (fun e w1 h => ⟨by
      rcases h.1 with ⟨k, ⟨x, h1, h2⟩, e⟩ | ⟨_, e⟩
      · rw [Bd.out hB h1] at h2; exact absurd h2 (by decide)
      · exact e, h.2⟩)
    clear cF hb hrow hA hB
    go_enter Try.func44, Try.ntmps44
    go_wp2_with (go_at_call 57; refine cI.mono ?_; rintro e w1 ⟨rfl, hw⟩; subst w1)
    go_ret
    exact ⟨rfl, rfl⟩

end Go.Proofs.Ytpnmepobdnclkaa.Calls56
