/-
  What primesOf, leastLast of package pratt and slices.BinarySearch answer.
-/
import Derived.Test.YtmomlcibiklajaaCalls41
import Derived.Test.YtmomlcibiklajaaCalls36
import Derived.Test.YtmomlcibiklajaaCalls12
import Derived.Test.YtmomlcibiklajaaCalls13
namespace Go.Proofs.Ytmomlcibiklajaa.Calls42
set_option linter.unusedVariables false
open Go.ChangeShapes Go.WideShapes Go.ChangeAt Go.RowKit Go.Deep Go.Proofs.Ytmomlcibiklajaa.Base Go.Proofs.Ytmomlcibiklajaa.Base2 Go.Proofs.Ytmomlcibiklajaa.Num Go.Proofs.Ytmomlcibiklajaa.Num13 Go.Proofs.Ytmomlcibiklajaa.Num31 Go.Proofs.Ytmomlcibiklajaa.Calls35 Go.Proofs.Ytmomlcibiklajaa.Calls36 Go.Proofs.Ytmomlcibiklajaa.Calls41
open Go.Proofs.Ytmomlcibiklajaa.Calls11 (flat ints ints_length fac_len)
open Go.Proofs.Ytmomlcibiklajaa.Calls12 (ints_getD)
open Go.Proofs.Ytmomlcibiklajaa.Calls13 (Factor_yes)

theorem owns_mono {w : World} {base base' : Nat} {e : TypeId} {size : Nat} {v : Value} {n : Nat} {xs : List Value} (h : w.ownsRow base e size v n xs) (hb : base' ≤ base) : w.ownsRow base' e size v n xs :=
  ⟨h.1, h.2.imp id fun ⟨g, cap, cur, h1, h2, h3⟩ => ⟨g, cap, cur, h1, Nat.le_trans hb h2, h3⟩⟩

theorem firsts_next {l : List (Nat × Nat)} {k : Nat} (h : k < l.length) : firsts (l.take (k + 1)) = firsts (l.take k) ++ [(l.getD k (0, 0)).1] := by
  unfold firsts
  rw [List.take_add_one, List.getElem?_eq_getElem h, List.map_append]
  simp [List.getD, h]

theorem firsts_len (l : List (Nat × Nat)) : (firsts l).length = l.length := by simp [firsts]

theorem zs_snoc (l : List Nat) (x : Nat) : zs (l ++ [x]) = zs l ++ [(x : Int)] := by simp [zs]

/-- A new row of the primes of m. -/
def HasPf (m base : Nat) (e : Ending) (w' : World) : Prop := ∃ v qs, e = .returned v ∧ Pf m qs ∧ qs.length ≤ 20 ∧ w'.ownsRow base 2 1 v qs.length (ivals (zs qs))

set_option maxRecDepth 100000 in
set_option maxHeartbeats 1000000 in
theorem primesOf_any (m : Nat) (hm1 : 1 ≤ m) (hm2 : m ≤ 1048576) (w : World) :
    Calls Try.prog 30 #[.int .i64 (m : Int)] w fun e w' => HasPf m w.heap.size e w' ∧ Below w.heap.size w w' := by
  obtain ⟨i0, hi, hz0, hz1, hz2⟩ := info_parts infoI
  have cF := Factor_yes m hm1 hm2 w
  go_enter Try.func30, Try.ntmps30
  go_wp2_with (go_at_call 41; refine cF.mono ?_; rintro e w1 ⟨l, v, rfl, hF, hown, hB⟩; obtain ⟨ao, cap, rfl, hrow⟩ := Go.Proofs.Ytmomlcibiklajaa.Calls11.prow_of_owns hown; have hblk := Go.Proofs.Ytmomlcibiklajaa.Calls11.owns_block' hown; have HF := hid hF; clear hF hown; rw [ints_length])
  have hlen : l.length ≤ 20 := fac_len HF.out hm2
  have HR := hid hrow
  clear hrow
  go_loopw [3, 15] (fun v i wr => ∃ k : Nat, i = .int .i64 (k : Int) ∧ k ≤ l.length ∧ Hid (wr.ownsRow w1.heap.size 2 1 v k (ivals (zs (firsts (l.take k))))) ∧ Below w1.heap.size w1 wr) (fun v i wr => ((l.length : Int) - intOf i).toNat)
  case atStart => exact ⟨0, rfl, by omega, World.ownsRow_nil _ _ _ _, Below.refl _ _⟩
  case round =>
    obtain ⟨k, rfl, hk, hown, hBr⟩ := hrel
    by_cases hgo : k < l.length
    · have hgo' : (k : Int) < (l.length : Int) := by omega
      rcases ao with _ | ad
      · have := HR.out.1 rfl
        have e := ints_length l
        rw [this] at e
        simp at e
        omega
      · obtain ⟨c1, c2⟩ := (Go.Proofs.Ytmomlcibiklajaa.Calls11.prow_below HR.out hBr (fun ad' e => .inr (hblk ad' e).2)).2 ad rfl k (by rw [ints_length]; exact hgo)
        rw [add_two] at c2
        rw [ints_getD] at c1 c2
        obtain ⟨x, hx⟩ : ∃ x, l.getD k (0, 0) = x := ⟨_, rfl⟩
        rw [hx] at c1 c2
        have hsn : Hid (ivals (zs (firsts (l.take (k + 1)))) = ivals (zs (firsts (l.take k))) ++ [.int .i64 (x.1 : Int)]) := by
          show _ = _
          rw [firsts_next hgo, hx, zs_snoc, ivals_snoc]
        clear hx
        have hown2 := hown.out
        clear hown
        have hss := hBr.size
        have hnew : ∀ j u, ([.int .i64 (x.1 : Int)] : List Value)[j]? = some u → ((wr.alloc (.cells #[.int .i64 (x.1 : Int), .int .i64 (x.2 : Int)] 52)).alloc (.cells #[.int .i64 (x.1 : Int)] 2)).cell? ((⟨wr.heap.size + 1, 0, none⟩ : Addr).add j) = some u := by
          have h := one_cell (W := wr.alloc (.cells #[.int .i64 (x.1 : Int), .int .i64 (x.2 : Int)] 52)) (t := 2) (a := .int .i64 (x.1 : Int))
          rw [World.size_alloc] at h
          exact h
        have HNEW := hid hnew
        clear hnew
        go_wp2_with (at_builtin; refine wpList_append_own _ rfl _ _ 42 rfl w1.heap.size 2 i0 (.int .i64 0) 1 8 Try.underlying42 hi hz0 hz1 hz2 rfl (by decide) _ _ _ rfl ((hown2.alloc _).alloc _) ⟨wr.heap.size + 1, 0, none⟩ 1 1 [.int .i64 (x.1 : Int)] rfl rfl HNEW.out (by simp [Value.oneCell']) (by unfold maxLen; omega) (by omega) (by simp; omega) ?_; intro v' w2 hown' hgrow _)
        go_roundw
        case rel => exact ⟨k + 1, by simp, by omega, by show World.ownsRow _ _ _ _ _ _ _; rw [hsn.out]; exact hown', ((hBr.alloc hBr.size _).alloc (by simp; omega) _).trans (below_grown ((hown2.alloc _).alloc _) hgrow (by omega) (by simp; omega))⟩
        case measure => exact measK hgo
    · have hgo' : ¬ (k : Int) < (l.length : Int) := by omega
      have hown2 := hown.out
      have e : k = l.length := by omega
      rw [e, List.take_length] at hown2
      have H2 := hid hown2
      clear hown hown2 e
      go_wp2
      go_ret
      exact ⟨⟨_, _, rfl, fac_pf HF.out, by rw [firsts_len]; omega, owns_mono (by rw [firsts_len]; exact H2.out) hB.size⟩, below_trans hB hBr⟩

set_option maxRecDepth 100000 in
theorem leastLast_any (ao : Option Addr) (cap : Nat) (qs : List Nat) (p G : Nat) (hp1 : 3 ≤ p) (hp2 : p ≤ 1048576) (hl : qs.length ≤ 1048576) (hq : ∀ q ∈ qs, 2 ≤ q ∧ q ≤ 1048576) (hG : LeastG p qs G) (w : World) (hrow : IRow w ao (zs qs)) :
    Calls Try.prog 34 #[.int .i64 (p : Int), .slice ao qs.length cap] w fun e w' => e = .returned (.int .i64 (G : Int)) ∧ Below w.heap.size w w' := by
  have hG1 := hG.1.1
  have hG2 := hG.1.2.1
  have cT := fun W (hB : Below w.heap.size w W) => crl_any ao cap qs (G : Int) p (by omega) (by omega) hp1 hp2 hl hq W (irow_below hrow hB (Nat.le_refl _)) true ⟨fun _ => hG.1.2.2, fun _ => rfl⟩
  have cF := fun (g : Nat) (h1 : 1 ≤ g) (h2 : g < G) W (hB : Below w.heap.size w W) => crl_any ao cap qs (g : Int) p (by omega) (by omega) hp1 hp2 hl hq W (irow_below hrow hB (Nat.le_refl _)) false ⟨fun e => (by cases e), fun h => absurd h (hG.2 g h1 h2)⟩
  have HT := hid cT
  have HF := hid cF
  clear cT cF hrow hG hq
  go_enter Try.func34, Try.ntmps34
  go_wp2
  go_loopw [5] (fun g wr => ∃ k : Nat, g = .int .i64 (k : Int) ∧ 1 ≤ k ∧ k ≤ G ∧ Below w.heap.size w wr) (fun g wr => ((G : Int) - intOf g).toNat)
  case atStart => exact ⟨1, rfl, by omega, hG1, Below.refl _ _⟩
  case round =>
    obtain ⟨k, rfl, hk1, hk2, hB⟩ := hrel
    have hkp : (k : Int) < (p : Int) := by omega
    by_cases hgo : k < G
    · have c := hid (HF.out k hk1 hgo wr hB)
      go_wp2_with (go_at_call 26; refine c.out.mono ?_; rintro e w1 ⟨rfl, hB1⟩)
      go_roundw
      case rel => exact ⟨k + 1, by simp, by omega, by omega, below_trans hB hB1⟩
      case measure => exact measK hgo
    · obtain rfl : k = G := by omega
      have c := hid (HT.out wr hB)
      go_wp2_with (go_at_call 26; refine c.out.mono ?_; rintro e w1 ⟨rfl, hB1⟩)
      go_ret
      exact ⟨rfl, below_trans hB hB1⟩

theorem cmpNaN_any (x : Int) (w : World) : Calls Try.prog 61 #[.int .i64 x] w fun e w' => e = .returned (.bool false) ∧ w' = w := by
  go_enter Try.func61, Try.ntmps61
  go_wp2
  go_ret
  exact ⟨rfl, rfl⟩

theorem cmpLess_any (x y : Int) (w : World) : Calls Try.prog 45 #[.int .i64 x, .int .i64 y] w fun e w' => e = .returned (.bool (decide (x < y))) ∧ w' = w := by
  have cN := fun x w => cmpNaN_any x w
  go_enter Try.func45, Try.ntmps45
  go_wp2_with (go_at_call 61; refine (cN _ _).mono ?_; rintro e w1 ⟨rfl, hw⟩; subst w1)
  go_ret
  exact ⟨rfl, rfl⟩

set_option maxRecDepth 100000 in
theorem binary_any (ao : Option Addr) (cap : Nat) (R : List Nat) (hR : Asc R) (hl : R.length ≤ 1048576) (q k : Nat) (hk : k < R.length) (hq : R.getD k 0 = q) (w : World) (hrow : IRow w ao (zs R)) :
    Calls Try.prog 35 #[.slice ao R.length cap, .int .i64 (q : Int)] w fun e w' => e = .returned (.tuple #[.int .i64 (k : Int), .bool true]) ∧ w' = w := by
  have cL := fun x w => cmpLess_any x (q : Int) w
  obtain ⟨n, hn⟩ : ∃ n, n = R.length := ⟨_, rfl⟩
  have HN : Hid (n = R.length) := hn
  have HR := hid hR
  have HQ := hid hq
  rw [← hn] at hl hk ⊢
  clear hn hR hq
  rcases ao with _ | ad
  · exact (irow_none hrow (j := k) (by rw [zs_length, ← HN.out]; exact hk)).elim
  go_enter Try.func35, Try.ntmps35
  go_wp2
  go_loop [7, 8] (fun a b => ∃ i j : Nat, a = .int .i64 (i : Int) ∧ b = .int .i64 (j : Int) ∧ i ≤ k ∧ k ≤ j ∧ j ≤ n) (fun a b => (intOf b - intOf a).toNat)
  case atStart => exact ⟨0, n, rfl, rfl, by omega, by omega, by omega⟩
  case round =>
    obtain ⟨i, j, rfl, rfl, h1, h2, h3⟩ := hrel
    by_cases hgo : i < j
    · have hgo' : (i : Int) < (j : Int) := by omega
      have hm : (i + j) / 2 < n := by omega
      have hmR : Hid ((i + j) / 2 < R.length) := by have := HN.out; show _ < _; omega
      have c := hrow.2 ad rfl ((i + j) / 2) (by rw [zs_length]; exact hmR.out)
      rw [zs_get] at c
      obtain ⟨y, hy⟩ : ∃ y, R.getD ((i + j) / 2) 0 = y := ⟨_, rfl⟩
      rw [hy] at c
      have HY := hid hy
      clear hy
      by_cases hlt : y < q
      · have hik : Hid ((i + j) / 2 < k) := (asc_lt_iff HR.out hmR.out (by have := HN.out; omega)).1 (by rw [HY.out, HQ.out]; exact hlt)
        have hlt' : decide ((y : Int) < (q : Int)) = true := decide_eq_true (by omega)
        go_wp2_with (go_at_call 45; refine (cL _ _).mono ?_; rintro e w1 ⟨rfl, hw⟩; subst w1)
        go_round
        case rel => exact ⟨(i + j) / 2 + 1, j, by simp, rfl, by have := hik.out; omega, h2, h3⟩
        case measure => simp only [intOf]; omega
      · have hik : Hid (k ≤ (i + j) / 2) := by
          show k ≤ _
          have := (asc_lt_iff HR.out hmR.out (j := k) (by have := HN.out; omega)).2
          rw [HY.out, HQ.out] at this
          omega
        have hlt' : decide ((y : Int) < (q : Int)) = false := decide_eq_false (by omega)
        go_wp2_with (go_at_call 45; refine (cL _ _).mono ?_; rintro e w1 ⟨rfl, hw⟩; subst w1)
        go_round
        case rel => exact ⟨i, (i + j) / 2, rfl, by simp, h1, hik.out, by omega⟩
        case measure => simp only [intOf]; omega
    · obtain rfl : k = i := by omega
      obtain rfl : k = j := by omega
      have hkn : (k : Int) < (n : Int) := by omega
      have c := hrow.2 ad rfl k (by rw [zs_length, ← HN.out]; exact hk)
      rw [zs_get, HQ.out] at c
      go_wp2
      go_ret2
      exact ⟨rfl, rfl⟩

end Go.Proofs.Ytmomlcibiklajaa.Calls42
