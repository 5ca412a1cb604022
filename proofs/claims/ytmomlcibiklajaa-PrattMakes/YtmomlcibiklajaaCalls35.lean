/-
  Rows of numbers and of lines in memory; what of the library pratt calls on them: Index, Contains, IndexFunc, ContainsFunc; makeUp, comesRoundLast.
-/
import Derived.Test.YtmomlcibiklajaaBase2
import Derived.Test.YtmomlcibiklajaaCalls19
import Derived.Test.YtmomlcibiklajaaNum31
namespace Go.Proofs.Ytmomlcibiklajaa.Calls35
set_option linter.unusedVariables false
open Go.ChangeShapes Go.WideShapes Go.ChangeAt Go.RowKit Go.Deep Go.Proofs.Ytmomlcibiklajaa.Base Go.Proofs.Ytmomlcibiklajaa.Num13 Go.Proofs.Ytmomlcibiklajaa.Num31
open Go.Proofs.Ytmomlcibiklajaa.Calls19 (Pow_yes refPow_any)

/-- A slice of numbers reads as a list. -/
def IRow (W : World) (ao : Option Addr) (l : List Int) : Prop :=
  (ao = none → l = []) ∧ ∀ ad, ao = some ad → ∀ j, j < l.length → W.cell? (ad.add j) = some (.int .i64 (l.getD j 0))

theorem irow_none {W : World} {l : List Int} (h : IRow W none l) {j : Nat} (hj : j < l.length) : False := by
  rw [h.1 rfl] at hj; simp at hj

theorem irow_below {W W' : World} {ao : Option Addr} {l : List Int} {n : Nat} (h : IRow W ao l) (hb : Below n W W') (hn : W.heap.size ≤ n) : IRow W' ao l := by
  refine ⟨h.1, fun ad e j hj => ?_⟩
  have c := h.2 ad e j hj
  have hl := cell_lt c
  exact (hb.cell (p := ad.add j) (by omega)).trans c

theorem irow_nil (W : World) : IRow W none [] := ⟨fun _ => rfl, fun ad e => by cases e⟩

def zs (l : List Nat) : List Int := l.map (fun x : Nat => (x : Int))

theorem zs_length (l : List Nat) : (zs l).length = l.length := by simp [zs]

theorem zs_get (l : List Nat) (j : Nat) : (zs l).getD j 0 = ((l.getD j 0 : Nat) : Int) := by
  simp only [zs, List.getD, List.getElem?_map]
  cases l[j]? <;> simp

theorem zs_mem {l : List Nat} {x : Nat} : (x : Int) ∈ zs l ↔ x ∈ l := by
  simp only [zs, List.mem_map]
  constructor
  · rintro ⟨a, ha, e⟩
    have : a = x := by omega
    exact this ▸ ha
  · exact fun h => ⟨x, h, rfl⟩

theorem getD_mem {l : List Int} {k : Nat} (h : k < l.length) : l.getD k 0 ∈ l := by simp [List.getD, h]

theorem mem_getD {l : List Int} {x : Int} (h : x ∈ l) : ∃ k, k < l.length ∧ l.getD k 0 = x := by
  obtain ⟨k, hk, e⟩ := List.getElem_of_mem h
  exact ⟨k, hk, by simp [List.getD, hk, e]⟩

/-- What Index answers: a place, or -1. -/
def Seen (x : Int) (l : List Int) (e : Ending) : Prop := (∃ k : Nat, x ∈ l ∧ e = .returned (.int .i64 (k : Int))) ∨ (x ∉ l ∧ e = .returned (.int .i64 (-1)))

set_option maxRecDepth 100000 in
theorem slIndex_any (ao : Option Addr) (cap : Nat) (l : List Int) (x : Int) (hl : l.length ≤ 9223372036854775807) (w : World) (hrow : IRow w ao l) :
    Calls Try.prog 47 #[.slice ao l.length cap, .int .i64 x] w fun e w' => Seen x l e ∧ w' = w := by
  obtain ⟨n, hn⟩ : ∃ n, n = l.length := ⟨_, rfl⟩
  have HN : Hid (n = l.length) := hn
  rw [← hn] at hl ⊢
  clear hn
  go_enter Try.func47, Try.ntmps47
  go_wp2
  go_loop [8] (fun i => ∃ k : Nat, i = .int .i64 (k : Int) ∧ k ≤ n ∧ Hid (∀ j, j < k → ¬ l.getD j 0 = x)) (fun i => ((n : Int) - intOf i).toNat)
  case atStart => exact ⟨0, rfl, by omega, fun j hj => by omega⟩
  case round =>
    obtain ⟨k, rfl, hk, hnot⟩ := hrel
    by_cases hgo : k < n
    · have hgo' : (k : Int) < (n : Int) := by omega
      have hkl : Hid (k < l.length) := by have := HN.out; show k < l.length; omega
      rcases ao with _ | ad
      · exact (irow_none hrow hkl.out).elim
      · have c := hrow.2 ad rfl k hkl.out
        obtain ⟨y, hy⟩ : ∃ y, l.getD k 0 = y := ⟨_, rfl⟩
        rw [hy] at c
        have HY := hid hy
        clear hy
        by_cases hxy : x = y
        · subst hxy
          have hm : Hid (x ∈ l) := by show x ∈ l; rw [← HY.out]; exact getD_mem hkl.out
          go_wp2
          go_ret
          exact ⟨.inl ⟨k, hm.out, rfl⟩, rfl⟩
        · have hx' : (x == y) = false := by simp [hxy]
          have hn2 : Hid (∀ j, j < k + 1 → ¬ l.getD j 0 = x) := fun j hj => by
            by_cases e : j = k
            · subst e; rw [HY.out]; exact fun e => hxy e.symm
            · exact hnot.out j (by omega)
          go_wp2
          go_round
          case rel => exact ⟨k + 1, by simp, by omega, hn2⟩
          case measure => exact measK hgo
    · have hgo' : ¬ (k : Int) < (n : Int) := by omega
      have hm : Hid (x ∉ l) := fun hm => by
        obtain ⟨j, hj, e⟩ := mem_getD hm
        exact hnot.out j (by have := HN.out; omega) e
      go_wp2
      go_ret
      exact ⟨.inr ⟨hm.out, rfl⟩, rfl⟩

theorem slContains_any (ao : Option Addr) (cap : Nat) (l : List Int) (x : Int) (hl : l.length ≤ 9223372036854775807) (w : World) (hrow : IRow w ao l) :
    Calls Try.prog 36 #[.slice ao l.length cap, .int .i64 x] w fun e w' => e = .returned (.bool (decide (x ∈ l))) ∧ w' = w := by
  by_cases hm : x ∈ l
  · have cI := fun w' (hw : w' = w) => (slIndex_any ao cap l x hl w' (by rw [hw]; exact hrow)).mono (R' := fun e w1 => (∃ k : Nat, e = .returned (.int .i64 (k : Int))) ∧ w1 = w') (fun e w1 h => ⟨by
      rcases h.1 with ⟨k, _, e⟩ | ⟨h, _⟩
      · exact ⟨k, e⟩
      · exact absurd hm h, h.2⟩)
    rw [decide_eq_true hm]
    clear hm hrow
    go_enter Try.func36, Try.ntmps36
    go_wp2_with (go_at_call 47; refine (cI _ rfl).mono ?_; rintro e w1 ⟨⟨k, rfl⟩, hw⟩; subst w1)
    go_ret
    exact ⟨ret_bool (by simp), rfl⟩
  · have cI := fun w' (hw : w' = w) => (slIndex_any ao cap l x hl w' (by rw [hw]; exact hrow)).mono (R' := fun e w1 => e = .returned (.int .i64 (-1)) ∧ w1 = w') (fun e w1 h => ⟨by
      rcases h.1 with ⟨k, h, e⟩ | ⟨_, e⟩
      · exact absurd h hm
      · exact e, h.2⟩)
    rw [decide_eq_false hm]
    clear hm hrow
    go_enter Try.func36, Try.ntmps36
    go_wp2_with (go_at_call 47; refine (cI _ rfl).mono ?_; rintro e w1 ⟨rfl, hw⟩; subst w1)
    go_ret
    exact ⟨rfl, rfl⟩

theorem praise_any (a : Int) (k m : Nat) (ha1 : -2147483648 ≤ a) (ha2 : a ≤ 2147483648) (hk : k ≤ 2147483648) (hm1 : 1 ≤ m) (hm2 : m ≤ 1048576) (w : World) :
    Calls Try.prog 38 #[.int .i64 a, .int .i64 (k : Int), .int .i64 (m : Int)] w fun e w' => e = .returned (.int .i64 (pw a k m : Int)) ∧ w' = w := by
  have cP := fun w => Pow_yes a k m ha1 ha2 hk hm1 hm2 w
  go_enter Try.func38, Try.ntmps38
  go_wp2_with (go_at_call 48; refine (cP _).mono ?_; rintro e w1 ⟨rfl, hw⟩; subst w1)
  go_ret
  exact ⟨rfl, rfl⟩

set_option maxRecDepth 100000 in
theorem makeUp_any (ao : Option Addr) (cap : Nat) (qs : List Nat) (m : Nat) (hl : qs.length ≤ 1048576) (hq : ∀ q ∈ qs, 2 ≤ q ∧ q ≤ 1048576) (hm1 : 1 ≤ m) (hm2 : m ≤ 1048576) (w : World) (hrow : IRow w ao (zs qs)) :
    Calls Try.prog 25 #[.slice ao qs.length cap, .int .i64 (m : Int)] w fun e w' => e = .returned (.bool (decide (douts qs m = 1))) ∧ w' = w := by
  obtain ⟨n, hn⟩ : ∃ n, n = qs.length := ⟨_, rfl⟩
  have HN : Hid (n = qs.length) := hn
  have HQ := hid hq
  rw [← hn] at hl ⊢
  clear hn hq
  go_enter Try.func25, Try.ntmps25
  go_wp2
  go_loop [1, 9] (fun r i => ∃ k r' : Nat, r = .int .i64 (r' : Int) ∧ i = .int .i64 (k : Int) ∧ k ≤ n ∧ 1 ≤ r' ∧ r' ≤ m ∧ Hid (r' = douts (qs.take k) m)) (fun r i => ((n : Int) - intOf i).toNat)
  case atStart => exact ⟨0, m, rfl, rfl, by omega, hm1, by omega, by show m = _; simp [douts]⟩
  case round =>
    obtain ⟨k, r, rfl, rfl, hk, hr1, hr2, hr⟩ := hrel
    by_cases hgo : k < n
    · have hgo' : (k : Int) < (n : Int) := by omega
      have hkl : Hid (k < qs.length) := by have := HN.out; show k < qs.length; omega
      rcases ao with _ | ad
      · exact (irow_none hrow (by rw [zs_length]; exact hkl.out)).elim
      · have c := hrow.2 ad rfl k (by rw [zs_length]; exact hkl.out)
        rw [zs_get] at c
        obtain ⟨q, hqe⟩ : ∃ q, qs.getD k 0 = q := ⟨_, rfl⟩
        rw [hqe] at c
        obtain ⟨hq2, hq3⟩ := HQ.out q (by rw [← hqe]; simp [List.getD, hkl.out])
        have hr3 : Hid (dout q r = douts (qs.take (k + 1)) m) := by
          show dout q r = _
          rw [List.take_add_one, List.getElem?_eq_getElem hkl.out, Option.toList_some, douts_snoc, ← hr.out]
          congr 1
          rw [← hqe]; simp [List.getD, hkl.out]
        have hq0 : ¬ (q : Int) = 0 := by omega
        clear hqe
        go_wp2
        go_loop [1] (fun r' => ∃ s : Nat, r' = .int .i64 (s : Int) ∧ 1 ≤ s ∧ s ≤ m ∧ Hid (dout q s = dout q r)) (fun r' => (intOf r').toNat)
        case atStart => exact ⟨r, rfl, hr1, by omega, rfl⟩
        case round =>
          obtain ⟨s, rfl, hs1, hs2, hs⟩ := hrel
          by_cases hd : q ∣ s
          · have hmz : ((s : Int) % (q : Int) == 0) = true := by
              rw [show (s : Int) % (q : Int) = ((s % q : Nat) : Int) by simp, Nat.mod_eq_zero_of_dvd hd]; rfl
            have hlt : s / q < s := Nat.div_lt_self hs1 (by omega)
            have hp : 1 ≤ s / q := Nat.div_pos (Nat.le_of_dvd (by omega) hd) (by omega)
            have hs3 : Hid (dout q (s / q) = dout q r) := by show _ = _; rw [← dout_step hq2 hs1 hd]; exact hs.out
            clear hd
            go_wp2
            go_round
            case rel => exact ⟨s / q, by simp, hp, by omega, hs3⟩
            case measure => simp only [intOf]; rw [show (s : Int) / (q : Int) = ((s / q : Nat) : Int) by simp]; omega
          · have hmz : ((s : Int) % (q : Int) == 0) = false := by
              rw [show (s : Int) % (q : Int) = ((s % q : Nat) : Int) by simp]
              have : ¬ s % q = 0 := fun h => hd (Nat.dvd_of_mod_eq_zero h)
              simp; omega
            have hs3 : Hid (s = douts (qs.take (k + 1)) m) := by show _ = _; rw [← hr3.out, ← hs.out, dout_stop hd]
            clear hd
            go_wp2
            go_round
            case rel => exact ⟨k + 1, s, rfl, by simp, by omega, hs1, hs2, hs3⟩
            case measure => exact measK hgo
    · have hgo' : ¬ (k : Int) < (n : Int) := by omega
      have e : Hid (r = douts qs m) := by
        show r = _
        rw [hr.out, List.take_of_length_le (by have := HN.out; omega)]
      by_cases h1 : r = 1
      · have e2 : Hid (decide (douts qs m = 1) = true) := decide_eq_true (by rw [← e.out]; exact h1)
        subst h1
        go_wp2
        go_ret
        exact ⟨ret_bool e2.out.symm, rfl⟩
      · have e2 : Hid (decide (douts qs m = 1) = false) := decide_eq_false (by rw [← e.out]; exact h1)
        have h1' : ((r : Int) == 1) = false := by simp; omega
        go_wp2
        go_ret
        exact ⟨ret_bool e2.out.symm, rfl⟩

/-- Does g come round too early, by n, at the prime q of n less 1? -/
def earlyB (g : Int) (n q : Nat) : Bool := decide (pw g ((n - 1) / q) n = 1)

theorem div_bd {n q : Nat} (hn : n ≤ 1048576) : 0 ≤ ((n : Int) - 1) / (q : Int) ∨ n = 0 := by
  rcases Nat.eq_zero_or_pos n with h | h
  · exact .inr h
  · left
    exact Int.ediv_nonneg (by omega) (by omega)

theorem crl1_any (A B : Nat) (g : Int) (n q : Nat) (hg1 : 1 ≤ g) (hg2 : g < n) (hn1 : 3 ≤ n) (hn2 : n ≤ 1048576) (hq1 : 1 ≤ q) (hq2 : q ≤ 1048576) (w : World) (hA : w.cell? ⟨A, 0, none⟩ = some (.int .i64 g)) (hB : w.cell? ⟨B, 0, none⟩ = some (.int .i64 (n : Int))) :
    Calls Try.prog 37 #[.int .i64 (q : Int), .pointer (some ⟨A, 0, none⟩), .pointer (some ⟨B, 0, none⟩)] w fun e w' => e = .returned (.bool (earlyB g n q)) ∧ ∃ k, w' = w.drewN k := by
  have e1 : ((n : Int) - 1) / (q : Int) = (((n - 1) / q : Nat) : Int) := by
    rw [show ((n : Int) - 1) = ((n - 1 : Nat) : Int) by omega]; simp
  have hle : (n - 1) / q ≤ 1048576 := Nat.le_trans (Nat.div_le_self _ _) (by omega)
  have cR := fun w => praise_any g ((n - 1) / q) n (by omega) (by omega) (by omega) (by omega) hn2 w
  rw [← e1] at cR
  have hb1 : 0 ≤ ((n : Int) - 1) / (q : Int) := by rw [e1]; exact Int.natCast_nonneg _
  have hb2 : ((n : Int) - 1) / (q : Int) ≤ 1048576 := by rw [e1]; omega
  have hq0 : ¬ q = 0 := by omega
  clear e1 hle
  obtain ⟨p, hp⟩ : ∃ p, pw g ((n - 1) / q) n = p := ⟨_, rfl⟩
  have HP : Hid (earlyB g n q = decide (p = 1)) := by show earlyB g n q = _; unfold earlyB; rw [hp]
  rw [hp] at cR
  clear hp
  by_cases h1 : p = 1
  · have e2 : Hid (earlyB g n q = true) := by show _ = _; rw [HP.out, decide_eq_true h1]
    subst h1
    go_enter Try.func37, Try.ntmps37
    go_wp2
    go_quiet ((go_at_call 38; exact Calls.quiet_of_same (cR _)))
    go_wp2
    go_ret
    exact ⟨ret_bool e2.out.symm, _, rfl⟩
  · have e2 : Hid (earlyB g n q = false) := by show _ = _; rw [HP.out, decide_eq_false h1]
    have h1' : ((p : Int) == 1) = false := by simp; omega
    go_enter Try.func37, Try.ntmps37
    go_wp2
    go_quiet ((go_at_call 38; exact Calls.quiet_of_same (cR _)))
    go_wp2
    go_ret
    exact ⟨ret_bool e2.out.symm, _, rfl⟩

/-- What IndexFunc answers: a place where p holds, or -1. -/
def SeenF (p : Nat → Bool) (l : List Nat) (e : Ending) : Prop := (∃ k : Nat, (∃ q ∈ l, p q = true) ∧ e = .returned (.int .i64 (k : Int))) ∨ ((∀ q ∈ l, p q = false) ∧ e = .returned (.int .i64 (-1)))

theorem cell_drewN (w : World) (d : Nat) (a : Addr) : (w.drewN d).cell? a = w.cell? a := rfl

set_option maxRecDepth 100000 in
theorem slIndexFunc_any (ao : Option Addr) (cap : Nat) (qs : List Nat) (A B : Nat) (g : Int) (n : Nat) (hg1 : 1 ≤ g) (hg2 : g < n) (hn1 : 3 ≤ n) (hn2 : n ≤ 1048576) (hl : qs.length ≤ 1048576) (hq : ∀ q ∈ qs, 2 ≤ q ∧ q ≤ 1048576) (w : World) (hrow : IRow w ao (zs qs))
    (hA : w.cell? ⟨A, 0, none⟩ = some (.int .i64 g)) (hB : w.cell? ⟨B, 0, none⟩ = some (.int .i64 (n : Int))) :
    Calls Try.prog 49 #[.slice ao qs.length cap, .func (.func 37) #[] #[.pointer (some ⟨A, 0, none⟩), .pointer (some ⟨B, 0, none⟩)]] w fun e w' => SeenF (earlyB g n) qs e ∧ ∃ k, w' = w.drewN k := by
  obtain ⟨N, hN⟩ : ∃ N, N = qs.length := ⟨_, rfl⟩
  have HN : Hid (N = qs.length) := hN
  have HQ := hid hq
  rw [← hN] at hl ⊢
  clear hN hq
  go_enter Try.func49, Try.ntmps49
  go_wp2
  go_loopw [8] (fun i wr => ∃ k : Nat, i = .int .i64 (k : Int) ∧ k ≤ N ∧ Hid (∀ j, j < k → earlyB g n (qs.getD j 0) = false) ∧ ∃ d, wr = w.drewN d) (fun i wr => ((N : Int) - intOf i).toNat)
  case atStart => exact ⟨0, rfl, by omega, fun j hj => by omega, 0, rfl⟩
  case round =>
    obtain ⟨k, rfl, hk, hnot, d, rfl⟩ := hrel
    by_cases hgo : k < N
    · have hgo' : (k : Int) < (N : Int) := by omega
      have hkl : Hid (k < qs.length) := by have := HN.out; show k < qs.length; omega
      rcases ao with _ | ad
      · exact (irow_none hrow (by rw [zs_length]; exact hkl.out)).elim
      · have c := hrow.2 ad rfl k (by rw [zs_length]; exact hkl.out)
        rw [zs_get] at c
        obtain ⟨q, hqe⟩ : ∃ q, qs.getD k 0 = q := ⟨_, rfl⟩
        rw [hqe] at c
        have hqm : Hid (q ∈ qs) := by show q ∈ qs; rw [← hqe]; simp [List.getD, hkl.out]
        obtain ⟨hq2, hq3⟩ := HQ.out q hqm.out
        have HE := hid hqe
        clear hqe
        have cC := fun d => crl1_any A B g n q hg1 hg2 hn1 hn2 (by omega) hq3 (w.drewN d) hA hB
        cases hb : earlyB g n q with
        | true =>
          rw [hb] at cC
          have HB := hid hb
          clear hb
          go_wp2_with (go_at_call 37; refine (cC _).mono ?_; rintro e w1 ⟨rfl, k1, hw⟩; subst w1)
          go_ret
          exact ⟨.inl ⟨k, ⟨q, hqm.out, HB.out⟩, rfl⟩, _, rfl⟩
        | false =>
          rw [hb] at cC
          have HB : Hid (∀ j, j < k + 1 → earlyB g n (qs.getD j 0) = false) := fun j hj => by
            by_cases e : j = k
            · subst e; rw [HE.out]; exact hb
            · exact hnot.out j (by omega)
          clear hb
          go_wp2_with (go_at_call 37; refine (cC _).mono ?_; rintro e w1 ⟨rfl, k1, hw⟩; subst w1)
          go_roundw
          case rel => exact ⟨k + 1, by simp, by omega, HB, _, rfl⟩
          case measure => exact measK hgo
    · have hgo' : ¬ (k : Int) < (N : Int) := by omega
      have hm : Hid (∀ q ∈ qs, earlyB g n q = false) := fun q hq => by
        obtain ⟨j, hj, e⟩ := List.getElem_of_mem hq
        have := hnot.out j (by have := HN.out; omega)
        simpa [List.getD, hj, e] using this
      go_wp2
      go_ret
      exact ⟨.inr ⟨hm.out, rfl⟩, d, rfl⟩

/-- Comes g round too early at one of these? -/
def anyEarly (g : Int) (n : Nat) (qs : List Nat) : Prop := ∃ q ∈ qs, pw g ((n - 1) / q) n = 1

theorem slContainsFunc_any (ao : Option Addr) (cap : Nat) (qs : List Nat) (A B : Nat) (g : Int) (n : Nat) (hg1 : 1 ≤ g) (hg2 : g < n) (hn1 : 3 ≤ n) (hn2 : n ≤ 1048576) (hl : qs.length ≤ 1048576) (hq : ∀ q ∈ qs, 2 ≤ q ∧ q ≤ 1048576) (w : World) (hrow : IRow w ao (zs qs))
    (hA : w.cell? ⟨A, 0, none⟩ = some (.int .i64 g)) (hB : w.cell? ⟨B, 0, none⟩ = some (.int .i64 (n : Int))) (b : Bool) (hb : b = true ↔ anyEarly g n qs) :
    Calls Try.prog 39 #[.slice ao qs.length cap, .func (.func 37) #[] #[.pointer (some ⟨A, 0, none⟩), .pointer (some ⟨B, 0, none⟩)]] w fun e w' => e = .returned (.bool b) ∧ ∃ k, w' = w.drewN k := by
  have cF := slIndexFunc_any ao cap qs A B g n hg1 hg2 hn1 hn2 hl hq w hrow hA hB
  cases b with
  | true =>
    obtain ⟨q, hq1, hq2⟩ := hb.1 rfl
    have cI := cF.mono (R' := fun e w1 => (∃ k : Nat, e = .returned (.int .i64 (k : Int))) ∧ ∃ k, w1 = w.drewN k) (fun e w1 h => ⟨by
      rcases h.1 with ⟨k, _, e⟩ | ⟨h, _⟩
      · exact ⟨k, e⟩
      · have := h q hq1
        simp [earlyB, hq2] at this, h.2⟩)
    clear cF hb hq hrow hA hB hq2
    go_enter Try.func39, Try.ntmps39
    go_wp2_with (go_at_call 49; refine cI.mono ?_; rintro e w1 ⟨⟨k, rfl⟩, d, hw⟩; subst w1)
    go_ret
    exact ⟨ret_bool (by simp), _, rfl⟩
  | false =>
    have hn : ∀ q ∈ qs, ¬ pw g ((n - 1) / q) n = 1 := fun q hq1 hq2 => by
      have := hb.2 ⟨q, hq1, hq2⟩
      cases this
    have cI := cF.mono (R' := fun e w1 => e = .returned (.int .i64 (-1)) ∧ ∃ k, w1 = w.drewN k) (fun e w1 h => ⟨by
      rcases h.1 with ⟨k, ⟨q, h1, h2⟩, e⟩ | ⟨_, e⟩
      · exact absurd (of_decide_eq_true h2) (hn q h1)
      · exact e, h.2⟩)
    clear cF hb hq hrow hA hB hn
    go_enter Try.func39, Try.ntmps39
    go_wp2_with (go_at_call 49; refine cI.mono ?_; rintro e w1 ⟨rfl, d, hw⟩; subst w1)
    go_ret
    exact ⟨rfl, _, rfl⟩

/-- g comes round by n, and not earlier at one of these. -/
def Last (g : Int) (n : Nat) (qs : List Nat) : Prop := pw g (n - 1) n = 1 ∧ ∀ q ∈ qs, ¬ pw g ((n - 1) / q) n = 1

theorem below_two_drewN {w : World} {a b : Obj} {k : Nat} : Below w.heap.size w (((w.alloc a).alloc b).drewN k) :=
  below_drewN (((Below.refl _ w).alloc (Nat.le_refl _) a).alloc (by simp) b) k

theorem crl_any (ao : Option Addr) (cap : Nat) (qs : List Nat) (g : Int) (n : Nat) (hg1 : 1 ≤ g) (hg2 : g < n) (hn1 : 3 ≤ n) (hn2 : n ≤ 1048576) (hl : qs.length ≤ 1048576) (hq : ∀ q ∈ qs, 2 ≤ q ∧ q ≤ 1048576) (w : World) (hrow : IRow w ao (zs qs)) (b : Bool) (hb : b = true ↔ Last g n qs) :
    Calls Try.prog 26 #[.int .i64 g, .int .i64 (n : Int), .slice ao qs.length cap] w fun e w' => e = .returned (.bool b) ∧ Below w.heap.size w w' := by
  have cR := fun w => praise_any g (n - 1) n (by omega) (by omega) (by omega) (by omega) hn2 w
  rw [show ((n - 1 : Nat) : Int) = (n : Int) - 1 by omega] at cR
  have hA : ((w.alloc (.cells #[.int .i64 g] 2)).alloc (.cells #[.int .i64 (n : Int)] 2)).cell? ⟨w.heap.size, 0, none⟩ = some (.int .i64 g) := ((BoxC.new w 2 #[.int .i64 g]).alloc (.cells #[.int .i64 (n : Int)] 2)).cell 0
  have hB : ((w.alloc (.cells #[.int .i64 g] 2)).alloc (.cells #[.int .i64 (n : Int)] 2)).cell? ⟨w.heap.size + 1, 0, none⟩ = some (.int .i64 (n : Int)) := by
    have h := (BoxC.new (w.alloc (.cells #[.int .i64 g] 2)) 2 #[.int .i64 (n : Int)]).cell 0
    rw [World.size_alloc] at h
    exact h
  have hB2 : Below w.heap.size w ((w.alloc (.cells #[.int .i64 g] 2)).alloc (.cells #[.int .i64 (n : Int)] 2)) := ((Below.refl _ w).alloc (Nat.le_refl _) _).alloc (by simp) _
  have hrow2 := irow_below hrow hB2 (Nat.le_refl _)
  by_cases h1 : pw g (n - 1) n = 1
  · have hany : ∃ c : Bool, (c = true ↔ anyEarly g n qs) ∧ b = !c := by
      rcases Classical.em (anyEarly g n qs) with h | h
      · refine ⟨true, ⟨fun _ => h, fun _ => rfl⟩, ?_⟩
        cases b
        · rfl
        · obtain ⟨q, hq1, hq2⟩ := h
          exact absurd hq2 ((hb.1 rfl).2 q hq1)
      · refine ⟨false, ⟨fun e => (by cases e), fun e => absurd e h⟩, ?_⟩
        exact hb.2 ⟨h1, fun q hq1 hq2 => h ⟨q, hq1, hq2⟩⟩
    obtain ⟨c, hc, rfl⟩ := hany
    have cC := slContainsFunc_any ao cap qs w.heap.size (w.heap.size + 1) g n hg1 hg2 hn1 hn2 hl hq _ hrow2 hA hB c hc
    rw [h1] at cR
    clear hb hc hrow hrow2 h1 hq
    go_enter Try.func26, Try.ntmps26
    cases c with
    | true =>
      go_wp2_with (first
        | (go_at_call 38; refine (cR _).mono ?_; rintro e w1 ⟨rfl, hw⟩; subst w1)
        | (go_at_call 39; refine cC.mono ?_; rintro e w1 ⟨rfl, d, hw⟩; subst w1))
      go_ret
      exact ⟨rfl, below_two_drewN⟩
    | false =>
      go_wp2_with (first
        | (go_at_call 38; refine (cR _).mono ?_; rintro e w1 ⟨rfl, hw⟩; subst w1)
        | (go_at_call 39; refine cC.mono ?_; rintro e w1 ⟨rfl, d, hw⟩; subst w1))
      go_ret
      exact ⟨rfl, below_two_drewN⟩
  · have e : b = false := by
      cases b
      · rfl
      · exact absurd (hb.1 rfl).1 h1
    subst e
    obtain ⟨p, hp⟩ : ∃ p, pw g (n - 1) n = p := ⟨_, rfl⟩
    rw [hp] at cR h1
    have h1' : ((p : Int) == 1) = false := by simp; omega
    clear hb hrow hrow2 hp hq
    go_enter Try.func26, Try.ntmps26
    go_wp2_with (go_at_call 38; refine (cR _).mono ?_; rintro e w1 ⟨rfl, hw⟩; subst w1)
    go_ret
    exact ⟨rfl, hB2⟩

end Go.Proofs.Ytmomlcibiklajaa.Calls35
