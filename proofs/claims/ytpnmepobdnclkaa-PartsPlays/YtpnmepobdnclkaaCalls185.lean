/-
  slices.Repeat of one number; copy into an own row, as a step of a region too.
-/
import Derived.Test.YtpnmepobdnclkaaCalls183
import Derived.Laws.CopyOwn
import Derived.Deep.RegionLaw
namespace Go.Proofs.Ytpnmepobdnclkaa.Calls185
set_option linter.unusedVariables false
open Go.ChangeShapes Go.WideShapes Go.ChangeAt Go.RowKit Go.Deep Go.Proofs.Ytpnmepobdnclkaa.Base Go.Proofs.Ytpnmepobdnclkaa.Base2 Go.Proofs.Ytpnmepobdnclkaa.Num Go.Proofs.Ytpnmepobdnclkaa.Num13 Go.Proofs.Ytpnmepobdnclkaa.Num16 Go.Proofs.Ytpnmepobdnclkaa.Num34 Go.Proofs.Ytpnmepobdnclkaa.Base4 Go.Proofs.Ytpnmepobdnclkaa.Calls183
open Go.Proofs.Ytpnmepobdnclkaa.Calls87 (ib)
open Go.Proofs.Ytpnmepobdnclkaa.Calls58 (below_set)
open Go.Proofs.Ytpnmepobdnclkaa.Calls59 (own1_made)

/-- What lies there when m numbers were laid from off on. -/
def ov (f h : Nat → Int) (off m j : Nat) : Int := if off ≤ j ∧ j < off + m then h (j - off) else f j

theorem ivals_mk (n : Nat) (f : Nat → Int) (i : Nat) : (ivals (mk n f))[i]? = if i < n then some (.int .i64 (f i)) else none := by
  by_cases h : i < n
  · rw [ivals_get (by rw [mk_length]; exact h), co_mk, if_pos h, if_pos h]
  · rw [if_neg h, List.getElem?_eq_none (by rw [ivals_length, mk_length]; omega)]

theorem splice_i {n off m : Nat} (hfit : off + m ≤ n) (f h : Nat → Int) : splice (ivals (mk n f)) off (ivals (mk m h)) = ivals (mk n (ov f h off m)) := by
  unfold splice
  apply List.ext_getElem?
  intro i
  have l1 : ((ivals (mk n f)).take off).length = off := by rw [List.length_take, ivals_length, mk_length]; omega
  have l2 : (ivals (mk m h)).length = m := by rw [ivals_length, mk_length]
  rw [ivals_mk]
  by_cases h1 : i < off
  · rw [List.getElem?_append_left (by omega), List.getElem?_take_of_lt h1, ivals_mk]
    by_cases hn : i < n
    · rw [if_pos hn, if_pos hn]; unfold ov; rw [if_neg (by omega)]
    · omega
  · rw [List.getElem?_append_right (show (List.take off (ivals (mk n f))).length ≤ i by rw [l1]; omega), l1]
    by_cases h2 : i < off + m
    · rw [List.getElem?_append_left (show i - off < (ivals (mk m h)).length by rw [l2]; omega), ivals_mk, if_pos (show i - off < m by omega), if_pos (show i < n by omega)]
      unfold ov
      rw [if_pos ⟨by omega, h2⟩]
    · rw [List.getElem?_append_right (show (ivals (mk m h)).length ≤ i - off by rw [l2]; omega), l2, List.getElem?_drop, ivals_mk, show off + m + (i - off - m) = i by omega]
      by_cases hn : i < n
      · rw [if_pos hn, if_pos hn]
        unfold ov
        rw [if_neg (fun e => h2 e.2)]
      · rw [if_neg hn, if_neg hn]

theorem infoIs : (Try.prog.info? 2).map (·.size) = some 1 := by kernel_rfl

theorem own_form {w : World} {base g n : Nat} {f : Nat → Int} (hO : Own1 w base g n n f) : w.heap[g]? = some (.cells (ivals (mk n f)).toArray 2 (0, 0)) := by
  rcases hO.2 with ⟨e, _⟩ | ⟨g', cap', cur, e, hb, hg, hnc, hcm, hcs, htake⟩
  · cases e
  · obtain ⟨rfl, rfl⟩ : g = g' ∧ n = cap' := by
      have e1 := Value.slice.inj e
      have e2 := Addr.mk.inj (Option.some.inj e1.1)
      exact ⟨e2.1, e1.2.2⟩
    have hcur : cur.toList = ivals (mk n f) := by
      rw [← htake, List.take_of_length_le (by rw [Array.length_toList, hcs]; omega)]
    rw [← hcur]
    exact hg

theorem own_of {w : World} {base g n : Nat} {f : Nat → Int} (h : w.heap[g]? = some (.cells (ivals (mk n f)).toArray 2 (0, 0))) (hb : base ≤ g) (hn : n ≤ maxLen) : Own1 w base g n n f :=
  ⟨by rw [ivals_length, mk_length]; omega, .inr ⟨g, n, _, rfl, hb, h, Nat.le_refl _, hn, by rw [List.size_toArray, ivals_length, mk_length]; omega, by rw [List.take_of_length_le (by show (ivals (mk n f)).length ≤ _; rw [ivals_length, mk_length]; omega)]⟩⟩

theorem own_max {w : World} {base g n : Nat} {f : Nat → Int} (hO : Own1 w base g n n f) : n ≤ maxLen := by
  rcases hO.2 with ⟨e, _⟩ | ⟨g', cap', cur, e, hb, hg, hnc, hcm, hcs, htake⟩
  · cases e
  · have e1 := Value.slice.inj e
    rw [e1.2.2]; exact hcm

/-- 'copy' into a row that was made, as a step of a region. -/
theorem step_copyL {w : World} {ops : Array Oper} {o : Oper} {a : Act} {K : Act → World → Prop} {Q : Exit → Act → World → Prop} {E : Prop} (hgd : o.guard = none) (d s : Operand)
    (ho : o.op = .call { callee := .builtin .copy, args := #[d, s], argTypes := #[22, 22] })
    (base g n off m : Nat) (f h : Nat → Int) (dp sp : Option Addr) (dLen dCap sLen sCap : Nat) (hd : a.eval d = .slice dp dLen dCap) (hs : a.eval s = .slice sp sLen sCap)
    (hO : Own1 w base g n n f) (hm : m = Nat.min sLen dLen) (hpos : 0 < m → dp = some ⟨g, off, none⟩ ∧ ∃ ad, sp = some ad ∧ ∀ j, j < m → w.cell? (ad.add j) = some (.int .i64 (h j))) (hfit : off + m ≤ n)
    (hK : ∀ w', Own1 w' base g n n (ov f h off m) → Below g w w' → K (a.put o.dst (goInt ((m : Nat) : Int))) w') :
    if Region.wanted o (yielded ops a.tmps) = true then Oper.wp Try.prog o a w K Q else E := by
  have hlen : (ivals (mk m h)).length = m := by rw [ivals_length, mk_length]
  refine step_copy_splice hgd d s 22 22 ho 2 Try.underlying22 infoIs dp sp dLen dCap sLen sCap hd hs g off (ivals (mk n f)) 2 (own_form hO) (ivals (mk m h)) (by rw [hlen, hm]) (fun hp => ?_) (by rw [hlen, ivals_length, mk_length]; exact hfit) (ivals_one _) g w (Below.refl _ _) (Nat.le_refl _) ?_
  · rw [hlen] at hp
    obtain ⟨h1, ad, h2, h3⟩ := hpos hp
    refine ⟨h1, ad, h2, fun j v hv => ?_⟩
    rw [ivals_mk] at hv
    by_cases hj : j < m
    · rw [if_pos hj] at hv
      rw [← hv]; exact h3 j hj
    · rw [if_neg hj] at hv; cases hv
  · intro w' hw hB
    rw [hlen]
    refine hK w' (own_of ?_ hO.lt.1 (own_max hO)) hB
    have := hw.out
    rwa [splice_i hfit] at this

/-- 'copy' into a row that was made. -/
theorem wpList_copyL {w : World} {ops : Array Oper} {rest : List Oper} {o : Oper} {a : Act} {Q : Exit → Act → World → Prop} (hgd : o.guard = none) (d s : Operand)
    (ho : o.op = .call { callee := .builtin .copy, args := #[d, s], argTypes := #[22, 22] })
    (base g n off m : Nat) (f h : Nat → Int) (dp sp : Option Addr) (dLen dCap sLen sCap : Nat) (hd : a.eval d = .slice dp dLen dCap) (hs : a.eval s = .slice sp sLen sCap)
    (hO : Own1 w base g n n f) (hm : m = Nat.min sLen dLen) (hpos : 0 < m → dp = some ⟨g, off, none⟩ ∧ ∃ ad, sp = some ad ∧ ∀ j, j < m → w.cell? (ad.add j) = some (.int .i64 (h j))) (hfit : off + m ≤ n)
    (hK : ∀ w', Own1 w' base g n n (ov f h off m) → Below g w w' → wpList Try.prog ops Q rest (a.put o.dst (goInt ((m : Nat) : Int))) w') : wpList Try.prog ops Q (o :: rest) a w := by
  have hlen : (ivals (mk m h)).length = m := by rw [ivals_length, mk_length]
  refine wpList_copy_splice hgd d s 22 22 ho 2 Try.underlying22 infoIs dp sp dLen dCap sLen sCap hd hs g off (ivals (mk n f)) 2 (own_form hO) (ivals (mk m h)) (by rw [hlen, hm]) (fun hp => ?_) (by rw [hlen, ivals_length, mk_length]; exact hfit) (ivals_one _) g w (Below.refl _ _) (Nat.le_refl _) ?_
  · rw [hlen] at hp
    obtain ⟨h1, ad, h2, h3⟩ := hpos hp
    refine ⟨h1, ad, h2, fun j v hv => ?_⟩
    rw [ivals_mk] at hv
    by_cases hj : j < m
    · rw [if_pos hj] at hv
      rw [← hv]; exact h3 j hj
    · rw [if_neg hj] at hv; cases hv
  · intro w' hw hB
    rw [hlen]
    refine hK w' (own_of ?_ hO.lt.1 (own_max hO)) hB
    have := hw.out
    rwa [splice_i hfit] at this

/-! ### Repeat -/

set_option maxRecDepth 100000 in
theorem mul64_any (t : Nat) (ht : t ≤ 4) (w : World) :
    Calls Try.prog 42 #[.int .u64 1, .int .u64 ((2 * t + 1 : Nat) : Int)] w fun e w' => e = .returned (.tuple #[.int .u64 0, .int .u64 ((2 * t + 1 : Nat) : Int)]) ∧ w' = w := by
  have h64 : ∀ t : Nat, t ≤ 4 → ∀ w, Calls Try.prog 53 #[.int .u64 1, .int .u64 ((2 * t + 1 : Nat) : Int)] w fun e w' => e = .returned (.tuple #[.int .u64 0, .int .u64 ((2 * t + 1 : Nat) : Int)]) ∧ w' = w := fun t ht w => by
    rcases (by omega : t = 0 ∨ t = 1 ∨ t = 2 ∨ t = 3 ∨ t = 4) with rfl | rfl | rfl | rfl | rfl
    all_goals
      go_enter Try.func53, Try.ntmps53
      go_wp2
      go_ret2
      exact ⟨rfl, rfl⟩
  have c64 := h64 t ht
  generalize ((2 * t + 1 : Nat) : Int) = q at *
  clear h64
  go_enter Try.func42, Try.ntmps42
  go_wp2_with (go_at_call 53; refine (c64 _).mono ?_; rintro e w1 ⟨rfl, hw⟩; subst w1)
  go_ret2
  exact ⟨rfl, rfl⟩

/-- c at k places, 0 behind. -/
def rp (c : Int) (k j : Nat) : Int := if j < k then c else 0

set_option maxRecDepth 100000 in
set_option maxHeartbeats 1000000 in
theorem Repeat_any (c : Int) (t : Nat) (ht : t ≤ 4) (so : Option Addr) (cs : Nat) (w : World) (hrow : IRow w so [c]) :
    Calls Try.prog 28 #[.slice so 1 cs, .int .i64 ((2 * t + 1 : Nat) : Int)] w fun e w' => (∃ g, e = .returned (.slice (some ⟨g, 0, none⟩) (2 * t + 1) (2 * t + 1)) ∧ Own1 w' w.heap.size g (2 * t + 1) (2 * t + 1) (fun _ => c)) ∧ Below w.heap.size w w' := by
  obtain ⟨i0, hi, hz0, hz1, hz2⟩ := info_ex
  have cM := fun w => mul64_any t ht w
  obtain ⟨n, hn⟩ : ∃ n, n = 2 * t + 1 := ⟨_, rfl⟩
  rw [← hn] at cM ⊢
  have hn1 : 1 ≤ n ∧ n ≤ 9 := by omega
  have hn2 : (n : Int) ≤ 9 := by omega
  have hn3 : (1 : Int) ≤ (n : Int) := by omega
  clear hn ht
  rcases so with _ | ad
  · exact (irow_none hrow (j := 0) (by simp)).elim
  have HC : Hid (∀ W, Below w.heap.size w W → ∀ j, j < 1 → W.cell? (ad.add j) = some (.int .i64 c)) := fun W hB j hj => by
    obtain rfl : j = 0 := by omega
    exact (ib hrow hB).2 ad rfl 0 (by simp)
  clear hrow
  go_enter Try.func28, Try.ntmps28
  go_wp2_with (first
    | (go_at_call 42; refine (cM _).mono ?_; rintro e w1 ⟨rfl, hw⟩; subst w1)
    | (at_make; refine wpList_make_full _ rfl _ _ 22 rfl w.heap.size 2 i0 (.int .i64 0) 1 Try.underlying22 hi hz0 hz1 .i64 .i64 (n : Int) (n : Int) n rfl rfl rfl rfl (by rw [hz2]; omega) (by unfold maxLen; omega) (Nat.le_refl _) ?_; intro w1 hown1 hgrow1; have hB1 : Hid (Below w.heap.size w w1) := (Below.refl _ w).grown hgrow1 (Nat.le_refl _) (fun j e => by cases e); have O1 := hid (own1_made hown1); clear hown1 hgrow1)
    | (refine wpList_copyL rfl _ _ rfl w.heap.size w.heap.size n 0 1 (fun _ => 0) (fun _ => c) _ _ n n 1 cs rfl rfl O1.out (by show 1 = min 1 n; omega) (fun _ => ⟨rfl, ad, rfl, HC.out w1 hB1.out⟩) (by omega) ?_; intro w2 hown2 hB2; have O2 := hid hown2; have HB2 : Hid (Below w.heap.size w w2) := (hB1.out.trans hB2); clear hown2 hB2))
  obtain ⟨g, hg⟩ : ∃ g, g = w.heap.size := ⟨_, rfl⟩
  have O3 : Hid (Own1 w2 w.heap.size g n n (rp c 1)) := by
    rw [hg]
    refine O2.out.congr ?_
    funext j
    unfold ov rp
    by_cases e : j < 1
    · rw [if_pos (by omega), if_pos e]
    · rw [if_neg (by omega), if_neg e]
  rw [← hg]
  clear hi hz0 hz1 hz2 O1 O2 hg hB1 HC
  go_loopw [8] (fun i wr => ∃ k : Nat, i = .int .i64 (k : Int) ∧ (1 ≤ k ∧ k ≤ n) ∧ Hid (Own1 wr w.heap.size g n n (rp c k)) ∧ Hid (Below w.heap.size w wr)) (fun i wr => ((n : Int) - intOf i).toNat)
  case atStart => exact ⟨1, rfl, hn1.1 |> fun h => ⟨Nat.le_refl _, h⟩, O3, HB2⟩
  case round =>
    obtain ⟨k, rfl, hk, hO, hB⟩ := hrel
    by_cases hgo : k < n
    · have hgo' : (k : Int) < (n : Int) := by omega
      obtain ⟨m, hm⟩ : ∃ m, m = min k (n - k) := ⟨_, rfl⟩
      have hm1 : 1 ≤ m ∧ k + m ≤ n := by omega
      obtain ⟨q, hq⟩ : ∃ q, q = k + m := ⟨_, rfl⟩
      have hmn : ((k : Int) + (m : Int)) = (q : Int) := by omega
      have HM := hid hm
      have hkn : ¬ n = k := by omega
      have hwq : IntKind.i64.wrap (q : Int) = (q : Int) := wrap_in _ (by omega) (by omega)
      have hqb : 1 ≤ q ∧ q ≤ n ∧ k < q := by omega
      have hqM : Hid (n - q < n - k) := by show _ < _; omega
      have hnx : Hid (ov (rp c k) (fun _ => c) k m = rp c q) := by
        show _ = _
        rw [hq]
        funext j
        unfold ov rp
        by_cases e : j < k
        · rw [if_neg (by omega), if_pos e, if_pos (by omega)]
        · by_cases e2 : j < k + m
          · rw [if_pos (by omega), if_pos e2]
          · rw [if_neg (by omega), if_neg e, if_neg e2]
      have hcell : Hid (∀ j, j < m → wr.cell? ((⟨g, 0, none⟩ : Addr).add j) = some (.int .i64 c)) := fun j hj => by
        have h := hO.out.cell (i := j) (by omega)
        rw [zero_add_addr]
        rwa [show rp c k j = c from if_pos (by omega)] at h
      clear hm hq
      go_wp2
      go_region_law (refine step_copyL rfl _ _ rfl w.heap.size g n k m (rp c k) (fun _ => c) (some ⟨g, k, none⟩) (some ⟨g, 0, none⟩) (n - k) (n - k) k n (by simp [Act.eval, Act.put]) (by simp [Act.eval, Act.put]) hO.out HM.out (fun _ => ⟨rfl, _, rfl, hcell.out⟩) (by omega) ?_; intro w3 hO3 hB3; have HO3 : Hid (Own1 w3 w.heap.size g n n (rp c q)) := hO3.congr hnx.out; have HB3 : Hid (Below w.heap.size w w3) := (by first | exact hB.out.trans (hB3.mono hO.out.lt.1) | exact hB.out.drew.trans (hB3.mono hO.out.lt.1) | exact (below_drewN hB.out _).trans (hB3.mono hO.out.lt.1)); clear hO3 hB3)
      all_goals
        simp only [Act.put, List.getElem_toArray, List.getElem_cons_succ, List.getElem_cons_zero, List.setIfInBounds_toArray, List.set_cons_succ, List.set_cons_zero]
        go_wp2
        go_roundw
        case rel => exact ⟨q, rfl, ⟨hqb.1, hqb.2.1⟩, HO3, HB3⟩
        case measure => show ((n : Int) - (q : Int)).toNat < ((n : Int) - (k : Int)).toNat; omega
    · have hgo' : ¬ (k : Int) < (n : Int) := by omega
      obtain rfl : k = n := by omega
      have hO4 : Hid (Own1 wr w.heap.size g k k (fun _ => c)) := by
        have h := hO.out
        unfold Own1 at h ⊢
        rwa [show mk k (rp c k) = mk k (fun _ => c) from mk_congr fun j hj => if_pos hj] at h
      go_wp2
      go_ret
      exact ⟨⟨g, rfl, hO4.out⟩, hB.out⟩

end Go.Proofs.Ytpnmepobdnclkaa.Calls185
