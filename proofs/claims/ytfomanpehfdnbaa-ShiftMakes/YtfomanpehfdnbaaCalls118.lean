/-
  Package shift's polynomials of two words: degree, one bit, a bit more, sum, how many bits are set in both.
-/
import Derived.Test.YtfomanpehfdnbaaBase7
import Derived.Test.YtfomanpehfdnbaaNum66
import Derived.Laws.BitsAllLaws
import Derived.Lib.BitFns
import Derived.Lib.Strings
import Derived.Lib.Small
import Derived.Lib.Walk
import Derived.Laws.Bits128
namespace Go.Proofs.Ytfomanpehfdnbaa.Calls118
set_option linter.unusedVariables false
open Go.ChangeShapes Go.WideShapes Go.ChangeAt Go.RowKit Go.Deep Go.Proofs.Ytfomanpehfdnbaa.Base Go.Proofs.Ytfomanpehfdnbaa.Base2 Go.Proofs.Ytfomanpehfdnbaa.Base7 Go.Proofs.Ytfomanpehfdnbaa.Num44 Go.Proofs.Ytfomanpehfdnbaa.Num54 Go.Proofs.Ytfomanpehfdnbaa.Num65 Go.Proofs.Ytfomanpehfdnbaa.Num66

theorem s0_bd {x : Nat} (hx : x < 18446744073709551616) : x / 2 &&& 6148914691236517205 ≤ 6148914691236517205 ∧ x &&& 6148914691236517205 ≤ 6148914691236517205 := ⟨Nat.and_le_right, Nat.and_le_right⟩

theorem u64n (a b : Nat) (ha : a < 18446744073709551616) (hb : b < 18446744073709551616) : bits .and .u64 (a : Int) (b : Int) = ((a &&& b : Nat) : Int) := u64_and_nat a b ha hb

set_option maxRecDepth 100000 in
theorem ones64_all (x : Nat) (hx : x < 18446744073709551616) (w : World) :
    Calls Try.prog 24 #[.int .u64 (x : Int)] w fun e w' => e = .returned (.int .i64 (((bts x 64).sum : Nat) : Int)) ∧ w' = w := by
  obtain ⟨l, hl1, hl2, hl3, hl4⟩ := bytes_ex hx
  obtain ⟨z1, z2, z3, e1, e2, e3, e4, b1, b2⟩ := last_steps hl1 hl2 hl4
  rw [← hl3, ← e4]
  obtain ⟨A, hA⟩ : ∃ A, A = x / 2 &&& 6148914691236517205 := ⟨_, rfl⟩
  obtain ⟨B, hB⟩ : ∃ B, B = x &&& 6148914691236517205 := ⟨_, rfl⟩
  have hA1 : A ≤ 6148914691236517205 := hA ▸ Nat.and_le_right
  have hB1 : B ≤ 6148914691236517205 := hB ▸ Nat.and_le_right
  have k1 : bits .and .u64 ((x : Int) / 2) 6148914691236517205 = (A : Int) := by
    have := u64n (x / 2) 6148914691236517205 (by omega) (by omega)
    rw [hA]; simpa using this
  have k2 : bits .and .u64 (x : Int) 6148914691236517205 = (B : Int) := by
    have := u64n x 6148914691236517205 (by omega) (by omega)
    rw [hB]; simpa using this
  obtain ⟨y, hy⟩ : ∃ y, y = A + B := ⟨_, rfl⟩
  have hs0 : s0 x = y := by rw [hy, hA, hB]; rfl
  have k3 : (A : Int) + (B : Int) = (y : Int) := by omega
  rw [hs0] at e1 b1
  obtain ⟨C, hC⟩ : ∃ C, C = y / 4 &&& 3689348814741910323 := ⟨_, rfl⟩
  obtain ⟨D, hD⟩ : ∃ D, D = y &&& 3689348814741910323 := ⟨_, rfl⟩
  have hC1 : C ≤ 3689348814741910323 := hC ▸ Nat.and_le_right
  have hD1 : D ≤ 3689348814741910323 := hD ▸ Nat.and_le_right
  have hy1 : y < 18446744073709551616 := by omega
  have k4 : bits .and .u64 ((y : Int) / 4) 3689348814741910323 = (C : Int) := by
    have := u64n (y / 4) 3689348814741910323 (by omega) (by omega)
    rw [hC]; simpa using this
  have k5 : bits .and .u64 (y : Int) 3689348814741910323 = (D : Int) := by
    have := u64n y 3689348814741910323 (by omega) (by omega)
    rw [hD]; simpa using this
  obtain ⟨z, hz⟩ : ∃ z, z = C + D := ⟨_, rfl⟩
  have hs1 : s1 y = z := by rw [hz, hC, hD]; rfl
  have k6 : (C : Int) + (D : Int) = (z : Int) := by omega
  rw [hs1] at e1 b1
  obtain ⟨u, hu⟩ : ∃ u, u = z / 16 + z := ⟨_, rfl⟩
  have k7 : (z : Int) / 16 + (z : Int) = (u : Int) := by omega
  have hu1 : u < 18446744073709551616 := by omega
  obtain ⟨v, hv⟩ : ∃ v, v = u &&& 1085102592571150095 := ⟨_, rfl⟩
  have hs2 : s2' z = v := by rw [hv, hu]; rfl
  rw [hs2] at e1 b1
  have k8 : bits .and .u64 (u : Int) 1085102592571150095 = (v : Int) := by
    have := u64n u 1085102592571150095 (by omega) (by omega)
    rw [hv]; simpa using this
  have k9 : (v : Int) + (v : Int) / 256 = (z1 : Int) := by omega
  have k10 : (z1 : Int) + (z1 : Int) / 65536 = (z2 : Int) := by omega
  have k11 : (z2 : Int) + (z2 : Int) / 4294967296 = (z3 : Int) := by omega
  have k12 : bits .and .i64 (z3 : Int) 127 = ((z3 % 128 : Nat) : Int) := by rw [i64_and127]; simp
  have hb1 : (z1 : Int) ≤ 4611686018427387904 := by omega
  have hb2 : (z2 : Int) ≤ 4611686018427387904 := by omega
  have hb3 : (z3 : Int) ≤ 4611686018427387904 := by omega
  have hb4 : (v : Int) ≤ 1152921504606846976 := by omega
  have hb5 : (u : Int) < 18446744073709551616 := by omega
  have hb6 : (y : Int) < 18446744073709551616 := by omega
  have hb7 : (z : Int) < 18446744073709551616 := by omega
  clear hl1 hl2 hl3 hl4 hA hB hs0 hs1 hs2 hC hD hy hz hu hv e1 e2 e3 e4 b1 b2 hA1 hB1 hC1 hD1 hy1 hu1
  go_enter Try.func24, Try.ntmps24
  go_wp2
  go_ret
  exact ⟨rfl, rfl⟩

theorem pow_pos64 (x : Nat) (hx : x < 64) : 1 ≤ (2 : Int) ^ x ∧ (2 : Int) ^ x ≤ 9223372036854775808 := by
  revert hx
  revert x
  decide +kernel

/-! ### how many bits a word has -/

theorem len_tab {n : Nat} (h : n < 256) (hs : n < Lib.len8tab.size) : ((Lib.len8tab[n]'hs).toNat : Int) = (Lib.bitLen n : Int) := by
  have e := Lib.len8_eq ⟨n, h⟩
  rw [← e]
  unfold Lib.len8
  simp [hs]

theorem len_close {K x y : Int} (h0 : 0 ≤ y) (h1 : y < 256) (hs : y.toNat < Lib.len8tab.size) (hK : 0 ≤ K ∧ K ≤ 56) (hb : (Lib.bitLen x.toNat : Int) = K + (Lib.bitLen y.toNat : Int)) :
    wrap64 (K + wrap64 ((Lib.len8tab[y.toNat]'hs).toNat : Int)) = ((Lib.bitLen x.toNat : Nat) : Int) := by
  have l := Lib.bitLen_le8' y h0 (by omega)
  rw [len_tab (by omega) hs, hb]
  generalize Lib.bitLen y.toNat = b at *
  rw [IntWalk.wrap64_in (b : Int) (by omega), IntWalk.wrap64_in _ (by omega)]

theorem len_close0 {x : Int} (h0 : 0 ≤ x) (h1 : x < 256) (hs : x.toNat < Lib.len8tab.size) :
    wrap64 (wrap64 ((Lib.len8tab[x.toNat]'hs).toNat : Int)) = ((Lib.bitLen x.toNat : Nat) : Int) := by
  have := len_close (K := 0) (x := x) h0 h1 hs (by omega) (by omega)
  rwa [Int.zero_add] at this

theorem ln_len : ∀ (k x : Nat), x < 2 ^ k → k ≤ 64 → Ln x (Lib.bitLen x) ∧ Lib.bitLen x ≤ k
  | 0, x, h, _ => by
    obtain rfl : x = 0 := by simp at h; omega
    exact ⟨⟨by decide, .inl (by decide)⟩, by decide⟩
  | k + 1, x, h, hk => by
    by_cases h0 : x = 0
    · subst h0
      exact ⟨⟨by decide, .inl (by decide)⟩, by rw [show Lib.bitLen 0 = 0 by decide]; omega⟩
    · have h2 : x / 2 < 2 ^ k := by rw [Nat.pow_succ] at h; omega
      have h64 : x < 2 ^ 64 := Nat.lt_of_lt_of_le h (Nat.pow_le_pow_right (by decide) hk)
      obtain ⟨⟨i1, i2⟩, i3⟩ := ln_len k (x / 2) h2 (by omega)
      rw [Lib.bitLen_half x h0 h64]
      generalize Lib.bitLen (x / 2) = l at *
      refine ⟨⟨by rw [Nat.add_comm, Nat.pow_succ]; omega, .inr ?_⟩, by omega⟩
      rw [Nat.add_sub_cancel_left]
      rcases i2 with i2 | i2
      · subst i2; simp; omega
      · by_cases hl : l = 0
        · subst hl; simp; omega
        · obtain ⟨m, rfl⟩ : ∃ m, l = m + 1 := ⟨l - 1, by omega⟩
          rw [Nat.add_sub_cancel] at i2
          rw [Nat.pow_succ]; omega

attribute [local go_sem] Lib.len8tab_size Try.underlying9

/-- A word that was halved k times, and what is told of the rest. -/
theorem len_part {K x y : Int} {q : Nat} (h : Lib.bitLen x.toNat = K.toNat + Lib.bitLen (x.toNat / q)) (e : y.toNat = x.toNat / q) (hK : 0 ≤ K ∧ K ≤ 56) (h0 : 0 ≤ y) (h1 : y < 256) (hs : y.toNat < Lib.len8tab.size) :
    wrap64 (K + wrap64 ((Lib.len8tab[y.toNat]'hs).toNat : Int)) = ((Lib.bitLen x.toNat : Nat) : Int) :=
  len_close h0 h1 hs hK (by rw [h, e]; omega)

set_option maxHeartbeats 1000000 in
set_option maxRecDepth 100000 in
theorem len64_int (x : Int) (w : World) (h0 : 0 ≤ x) (h1 : x ≤ 18446744073709551615) :
    Calls Try.prog 23 #[.int .u64 x] w fun e w' => e = .returned (.int .i64 (Lib.bitLen x.toNat)) ∧ w' = w := by
  go_enter Try.func23, Try.ntmps23
  go_wp2
  · go_ret
    exact ⟨ret_int (len_part (q := 72057594037927936) (Lib.bitLen_shift56 x.toNat (by omega) (by omega)) (by omega) (by omega) (by omega) (by omega) _), rfl⟩
  · go_ret
    exact ⟨ret_int (len_part (q := 281474976710656) (Lib.bitLen_shift48 x.toNat (by omega) (by omega)) (by omega) (by omega) (by omega) (by omega) _), rfl⟩
  · go_ret
    exact ⟨ret_int (len_part (q := 1099511627776) (Lib.bitLen_shift40 x.toNat (by omega) (by omega)) (by omega) (by omega) (by omega) (by omega) _), rfl⟩
  · go_ret
    exact ⟨ret_int (len_part (q := 4294967296) (Lib.bitLen_shift32 x.toNat (by omega) (by omega)) (by omega) (by omega) (by omega) (by omega) _), rfl⟩
  · go_ret
    exact ⟨ret_int (len_part (q := 16777216) (Lib.bitLen_shift24 x.toNat (by omega) (by omega)) (by omega) (by omega) (by omega) (by omega) _), rfl⟩
  · go_ret
    exact ⟨ret_int (len_part (q := 65536) (Lib.bitLen_shift16 x.toNat (by omega) (by omega)) (by omega) (by omega) (by omega) (by omega) _), rfl⟩
  · go_ret
    exact ⟨ret_int (len_part (q := 256) (Lib.bitLen_shift8 x.toNat (by omega) (by omega)) (by omega) (by omega) (by omega) (by omega) _), rfl⟩
  · go_ret
    exact ⟨ret_int (len_close0 (by omega) (by omega) _), rfl⟩

theorem len64_any (x : Nat) (hx : x < 18446744073709551616) (w : World) :
    Calls Try.prog 23 #[.int .u64 (x : Int)] w fun e w' => e = .returned (.int .i64 ((Lib.bitLen x : Nat) : Int)) ∧ w' = w := by
  have := len64_int (x : Int) w (by omega) (by omega)
  rwa [Int.toNat_natCast] at this

/-! ### the polynomials -/

/-- Two words, as the program has them. -/
abbrev pn (a b : Nat) : Value := .agg #[.int .u64 (a : Int), .int .u64 (b : Int)]

set_option maxRecDepth 100000 in
theorem degree_any (a b : Nat) (h : Wd a b) (d : Int) (hd : Dg a b d) (w : World) :
    Calls Try.prog 19 #[pn a b] w fun e w' => e = .returned (.int .i64 d) ∧ Below w.heap.size w w' := by
  have ha := h.1
  have hb := h.2
  have la := ln_len 64 a ha (by omega)
  have lb := ln_len 64 b hb (by omega)
  have cA := len64_any a ha
  have cB := len64_any b hb
  by_cases h0 : b = 0
  · subst h0
    have e : Hid ((Lib.bitLen a : Int) - 1 = d) := Dg.uniq (dg_lo la.1 la.2) hd
    have h1 := la.2
    generalize Lib.bitLen a = l at *
    clear la lb hd h cB
    go_enter Try.func19, Try.ntmps19
    go_wp2_with (go_at_call 23; refine (cA _).mono ?_; rintro e w' ⟨rfl, hw⟩; subst w')
    go_ret
    exact ⟨ret_int e.out, (Below.refl _ _).alloc (Nat.le_refl _) _⟩
  · have e : Hid (63 + (Lib.bitLen b : Int) = d) := Dg.uniq (dg_hi h lb.1 h0) hd
    have h1 := lb.2
    have h0' : ¬ (b : Int) = 0 := by omega
    generalize Lib.bitLen b = l at *
    clear la lb hd h cA
    go_enter Try.func19, Try.ntmps19
    go_wp2_with (go_at_call 23; refine (cB _).mono ?_; rintro e w' ⟨rfl, hw⟩; subst w')
    go_ret
    exact ⟨ret_int e.out, (Below.refl _ _).alloc (Nat.le_refl _) _⟩

set_option maxRecDepth 100000 in
theorem plus_any (a b c d : Nat) (h : Wd a b) (h2 : Wd c d) (w : World) :
    Calls Try.prog 20 #[pn a b, pn c d] w fun e w' => e = .returned (pn (a ^^^ c) (b ^^^ d)) ∧ Below w.heap.size w w' := by
  have k1 := u64_xor_nat a c h.1 h2.1
  have k2 := u64_xor_nat b d h.2 h2.2
  generalize a ^^^ c = x at *
  generalize b ^^^ d = y at *
  clear h h2
  go_enter Try.func20, Try.ntmps20
  go_wp2
  exact bodyPost_ret (v := pn x y) (by simp [results, Try.results20, go_sem]) rfl ⟨rfl, (((Below.refl _ _).alloc (Nat.le_refl _) _).alloc (by simp) _).alloc (by simp; omega) _⟩

set_option maxRecDepth 100000 in
theorem odd_any (a b c d : Nat) (h : Wd a b) (h2 : Wd c d) (w : World) :
    Calls Try.prog 22 #[pn a b, pn c d] w fun e w' => e = .returned (.bool (xs 128 (fun i => pb a b i && pb c d i))) ∧ Below w.heap.size w w' := by
  have k1 := u64_and_nat a c h.1 h2.1
  have k2 := u64_and_nat b d h.2 h2.2
  have m1 : a &&& c < 18446744073709551616 := Nat.lt_of_le_of_lt Nat.and_le_left h.1
  have m2 : b &&& d < 18446744073709551616 := Nat.lt_of_le_of_lt Nat.and_le_left h.2
  have k3 := u64_xor_nat _ _ m1 m2
  have m3 : (a &&& c) ^^^ (b &&& d) < 18446744073709551616 := Nat.xor_lt_two_pow (n := 64) m1 m2
  have cO := ones64_all _ m3
  have hE := xs_words a b c d
  rw [← bits_sum] at hE
  generalize (a &&& c) ^^^ (b &&& d) = z at *
  generalize a &&& c = x at *
  generalize b &&& d = y at *
  generalize (bts z 64).sum = S at *
  generalize xs 128 (fun i => pb a b i && pb c d i) = r at *
  have HE := hid hE
  clear hE h h2 m1 m2 m3
  have hr : ((S : Int) % 2 == 1) = r := by
    have := HE.out
    rw [← this, Bool.eq_iff_iff]
    simp
    omega
  go_enter Try.func22, Try.ntmps22
  go_wp2_with (go_at_call 24; refine (cO _).mono ?_; rintro e w' ⟨rfl, hw⟩; subst w')
  go_ret
  exact ⟨rfl, ((Below.refl _ _).alloc (Nat.le_refl _) _).alloc (by simp) _⟩

theorem and_one64 (y : Nat) (h : y < 18446744073709551616) : bits .and .u64 (y : Int) 1 = ((y % 2 : Nat) : Int) := by
  have := u64_and_nat y 1 h (by omega)
  rw [show y &&& 1 = y % 2 from Nat.and_one_is_mod y] at this
  simpa using this

theorem bit_one (x k : Nat) : (((x / 2 ^ k % 2 : Nat) : Int) == 1) = x.testBit k := by
  rw [Nat.testBit_eq_decide_div_mod_eq]
  rcases Nat.mod_two_eq_zero_or_one (x / 2 ^ k) with h | h <;> rw [h] <;> rfl

set_option maxRecDepth 100000 in
theorem has_any (a b i : Nat) (h : Wd a b) (hi : i < 128) (w : World) :
    Calls Try.prog 16 #[pn a b, .int .i64 (i : Int)] w fun e w' => e = .returned (.bool (pb a b i)) ∧ Below w.heap.size w w' := by
  by_cases h64 : i < 64
  · have hq : (i : Int) / 64 = 0 := by omega
    have hr : (i : Int) % 64 = (i : Int) := by omega
    have hd : (a : Int) / 2 ^ i = ((a / 2 ^ i : Nat) : Int) := by simp
    have hl : a / 2 ^ i < 18446744073709551616 := Nat.lt_of_le_of_lt (Nat.div_le_self _ _) h.1
    have ho := and_one64 _ hl
    have hb : (((a / 2 ^ i % 2 : Nat) : Int) == 1) = pb a b i := by rw [bit_one]; unfold pb; rw [if_pos h64]
    generalize pb a b i = r at *
    have hw := h.1
    generalize a / 2 ^ i = y at *
    generalize y % 2 = z at *
    clear h
    go_enter Try.func16, Try.ntmps16
    go_wp2
    go_ret
    exact ⟨rfl, (Below.refl _ _).alloc (Nat.le_refl _) _⟩
  · obtain ⟨k, hk⟩ : ∃ k, k = i - 64 := ⟨_, rfl⟩
    have hq : (i : Int) / 64 = 1 := by omega
    have hr : (i : Int) % 64 = (k : Int) := by omega
    have hk64 : k < 64 := by omega
    have hd : (b : Int) / 2 ^ k = ((b / 2 ^ k : Nat) : Int) := by simp
    have hl : b / 2 ^ k < 18446744073709551616 := Nat.lt_of_le_of_lt (Nat.div_le_self _ _) h.2
    have ho := and_one64 _ hl
    have hb : (((b / 2 ^ k % 2 : Nat) : Int) == 1) = pb a b i := by rw [bit_one]; unfold pb; rw [if_neg h64, hk]
    generalize pb a b i = r at *
    have hw := h.2
    generalize b / 2 ^ k = y at *
    generalize y % 2 = z at *
    clear h hk
    go_enter Try.func16, Try.ntmps16
    go_wp2
    go_ret
    exact ⟨rfl, (Below.refl _ _).alloc (Nat.le_refl _) _⟩

set_option maxRecDepth 100000 in
theorem with_any (a b i : Nat) (h : Wd a b) (hi : i < 128) (w : World) :
    Calls Try.prog 21 #[pn a b, .int .i64 (i : Int)] w fun e w' => (∃ c d : Nat, e = .returned (pn c d) ∧ Wd c d ∧ ∀ j, pb c d j = (pb a b j || decide (j = i))) ∧ Below w.heap.size w w' := by
  by_cases h64 : i < 64
  · have hq : (i : Int) / 64 = 0 := by omega
    have hr : (i : Int) % 64 = (i : Int) := by omega
    have hp := pow_pos64 i h64
    have hm : (2 : Int) ^ i % 18446744073709551616 = ((2 ^ i : Nat) : Int) := by
      have : ((2 ^ i : Nat) : Int) = (2 : Int) ^ i := by simp
      omega
    have hl : 2 ^ i < 18446744073709551616 := Nat.pow_lt_pow_right (a := 2) (n := 64) (by decide) h64
    have ho : bits .or .u64 (a : Int) ((2 : Int) ^ i) = ((a ||| 2 ^ i : Nat) : Int) := by
      have := u64_or_nat a (2 ^ i) h.1 hl
      simpa using this
    have hwd := hid (wd_with_lo h h64)
    have hpb := hid (fun j => pb_with_lo (a := a) (b := b) h64 j)
    have hw := h.1
    generalize a ||| 2 ^ i = c at *
    clear h hl
    go_enter Try.func21, Try.ntmps21
    go_wp2_with go_region
    exact bodyPost_ret (v := pn c b) (by simp [results, Try.results21, go_sem]) rfl ⟨⟨c, b, rfl, hwd.out, hpb.out⟩, (((Below.refl _ _).alloc (Nat.le_refl _) _).alloc (by simp) _).drew⟩
  · obtain ⟨k, hk⟩ : ∃ k, k = i - 64 := ⟨_, rfl⟩
    have hq : (i : Int) / 64 = 1 := by omega
    have hr : (i : Int) % 64 = (k : Int) := by omega
    have hk64 : k < 64 := by omega
    have hp := pow_pos64 k hk64
    have hm : (2 : Int) ^ k % 18446744073709551616 = ((2 ^ k : Nat) : Int) := by
      have : ((2 ^ k : Nat) : Int) = (2 : Int) ^ k := by simp
      omega
    have hl : 2 ^ k < 18446744073709551616 := Nat.pow_lt_pow_right (a := 2) (n := 64) (by decide) hk64
    have ho : bits .or .u64 (b : Int) ((2 : Int) ^ k) = ((b ||| 2 ^ k : Nat) : Int) := by
      have := u64_or_nat b (2 ^ k) h.2 hl
      simpa using this
    have hwd := hid (wd_with_hi h (by omega) hi)
    have hpb := hid (fun j => pb_with_hi (a := a) (b := b) (i := i) (by omega) j)
    rw [← hk] at hwd hpb
    have hw := h.2
    generalize b ||| 2 ^ k = c at *
    clear h hl hk
    go_enter Try.func21, Try.ntmps21
    go_wp2_with go_region
    exact bodyPost_ret (v := pn a c) (by simp [results, Try.results21, go_sem]) rfl ⟨⟨a, c, rfl, hwd.out, hpb.out⟩, (((Below.refl _ _).alloc (Nat.le_refl _) _).alloc (by simp) _).drew⟩

end Go.Proofs.Ytfomanpehfdnbaa.Calls118
