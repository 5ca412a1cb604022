/-
  The document's list of all that divides a number, and when two lists of numbers are the same.
-/
import Derived.Test.YtlbmhhkhemhfaaaCalls16
import Derived.Test.YtlbmhhkhemhfaaaCalls9
namespace Go.Proofs.Ytlbmhhkhemhfaaa.Calls18
set_option linter.unusedVariables false
open Go.ChangeShapes Go.WideShapes Go.ChangeAt Go.RowKit Go.Proofs.Ytlbmhhkhemhfaaa.Num Go.Proofs.Ytlbmhhkhemhfaaa.Num5 Go.Proofs.Ytlbmhhkhemhfaaa.Calls7 Go.Proofs.Ytlbmhhkhemhfaaa.Calls8 Go.Proofs.Ytlbmhhkhemhfaaa.Calls9 Go.Proofs.Ytlbmhhkhemhfaaa.Calls15 Go.Proofs.Ytlbmhhkhemhfaaa.Calls16

/-- Those of 1 to k that divide m. -/
def dl (m : Nat) : Nat → List Nat
  | 0 => []
  | k + 1 => dl m k ++ (if (k + 1) ∣ m then [k + 1] else [])

theorem mem_dl {m d : Nat} : ∀ {k : Nat}, d ∈ dl m k ↔ 1 ≤ d ∧ d ≤ k ∧ d ∣ m
  | 0 => by simp [dl]; omega
  | k + 1 => by
    simp only [dl, List.mem_append, mem_dl (k := k)]
    by_cases h : (k + 1) ∣ m
    · rw [if_pos h]
      constructor
      · rintro (⟨h1, h2, h3⟩ | h1)
        · exact ⟨h1, by omega, h3⟩
        · simp at h1; subst h1; exact ⟨by omega, Nat.le_refl _, h⟩
      · rintro ⟨h1, h2, h3⟩
        by_cases e : d = k + 1
        · right; simp [e]
        · left; exact ⟨h1, by omega, h3⟩
    · rw [if_neg h]
      constructor
      · rintro (⟨h1, h2, h3⟩ | h1)
        · exact ⟨h1, by omega, h3⟩
        · simp at h1
      · rintro ⟨h1, h2, h3⟩
        left
        refine ⟨h1, ?_, h3⟩
        by_cases e : d = k + 1
        · subst e; exact absurd h3 h
        · omega

theorem dl_rise (m : Nat) : ∀ k, (dl m k).Pairwise (fun x y => x < y)
  | 0 => by simp [dl]
  | k + 1 => by
    simp only [dl]
    refine List.pairwise_append.2 ⟨dl_rise m k, by split <;> simp, fun x hx y hy => ?_⟩
    have h1 := (mem_dl.1 hx).2.1
    split at hy
    · simp at hy; omega
    · simp at hy

theorem dl_len (m : Nat) : ∀ k, (dl m k).length ≤ k
  | 0 => by simp [dl]
  | k + 1 => by
    have := dl_len m k
    simp only [dl, List.length_append]
    split <;> simp <;> omega

theorem dl_eq {m : Nat} {l : List (Nat × Nat)} (hF : Fac m l) : dsort l = dl m m := by
  have hm : 1 ≤ m := by have := pd_pos hF.1; rw [hF.2.2] at this; exact this
  have hA := dv_all hF
  refine List.Perm.eq_of_pairwise (le := fun a b => a ≤ b) (fun a b _ _ h1 h2 => by omega) ?_ ?_ ?_
  · have h := List.pairwise_mergeSort (le := fun x y : Nat => decide (x ≤ y)) (fun a b c h1 h2 => by simp at *; omega) (fun a b => by simp; omega) (dv l)
    exact h.imp (fun h => by simpa using h)
  · exact (dl_rise m m).imp (fun h => by omega)
  · refine (dsort_perm l).trans ((List.perm_ext_iff_of_nodup hA.1 ?_).2 (fun d => ?_))
    · exact (dl_rise m m).imp (fun h => by omega)
    · rw [hA.2, mem_dl]
      constructor
      · intro h; exact ⟨Nat.pos_of_dvd_of_pos h hm, Nat.le_of_dvd hm h, h⟩
      · intro h; exact h.2.2

theorem owns_grown_below {W w1 : World} {base : Nat} {e : TypeId} {size : Nat} {v : Value} {k : Nat} {xs : List Value} {tmp : Obj} {w : World} (hB : Below w.heap.size w W) (hb : w.heap.size = base)
    (hown : W.ownsRow base e size v k xs) (hgrow : (W.alloc tmp).grownBy w1 v.ownBlock) : Below w.heap.size w w1 := by
  refine (hB.alloc hB.size tmp).grown hgrow (by have := hB.size; simp; omega) fun j ej => ?_
  rw [hb]
  exact (hown.lt j ej).1

theorem one_new {W : World} {t : TypeId} {a : Value} : ∀ j u, ([a] : List Value)[j]? = some u → (W.alloc (.cells #[a] t)).cell? ((⟨W.heap.size, 0, none⟩ : Addr).add j) = some u := by
  intro j u hj
  match j, hj with
  | 0, hj => simp at hj; subst hj; simp [Addr.add]

theorem measD {q M : Nat} (h : q ≤ M) : (((M : Int) + 1) - ((q : Int) + 1)).toNat < (((M : Int) + 1) - (q : Int)).toNat := by omega

set_option maxRecDepth 100000 in
set_option maxHeartbeats 1000000 in
theorem refDivisors_any (m : Nat) (hm1 : 1 ≤ m) (hm2 : m ≤ 1048576) (w : World) :
    Calls Try.prog 21 #[.int .i64 (m : Int)] w fun e w' => ∃ v, e = .returned v ∧ w'.ownsRow w.heap.size 2 1 v (dl m m).length (ivals (zs (dl m m))) ∧ Below w.heap.size w w' := by
  obtain ⟨i0, hi, hz0, hz1, hz2⟩ := info_parts infoI
  go_enter Try.func21, Try.ntmps21
  go_wp2
  go_loopw [3, 4] (fun v d wr => ∃ q : Nat, d = .int .i64 (q : Int) ∧ 1 ≤ q ∧ q ≤ m + 1 ∧ wr.ownsRow w.heap.size 2 1 v (dl m (q - 1)).length (ivals (zs (dl m (q - 1)))) ∧ Below w.heap.size w wr) (fun v d wr => ((m : Int) + 1 - intOf d).toNat)
  case atStart => exact ⟨1, rfl, by omega, by omega, World.ownsRow_nil _ _ _ _, Below.refl _ _⟩
  case round =>
    obtain ⟨q, rfl, hq1, hq2, hown, hB⟩ := hrel
    by_cases hgo : q ≤ m
    · have hgo' : (q : Int) ≤ (m : Int) := by omega
      have hq0 : ¬ (q : Int) = 0 := by omega
      have hmod := mod_zero_iff m q
      have hll := dl_len m (q - 1)
      by_cases hd : q ∣ m
      · rw [decide_eq_true hd] at hmod
        have hnx : Hid (dl m (q + 1 - 1) = dl m (q - 1) ++ [q]) := by
          obtain ⟨r, rfl⟩ : ∃ r, q = r + 1 := ⟨q - 1, by omega⟩
          show dl m (r + 1) = dl m r ++ [r + 1]
          rw [dl, if_pos hd]
        have hsn : Hid (ivals (zs (dl m (q - 1) ++ [q])) = ivals (zs (dl m (q - 1))) ++ [.int .i64 (q : Int)]) := by simp [ivals, zs, Hid]
        have hBs := hB.size
        clear hd
        go_wp2_with (at_builtin; refine wpList_append_own _ rfl _ _ 38 rfl w.heap.size 2 i0 (.int .i64 0) 1 8 Try.underlying38 hi hz0 hz1 hz2 rfl (by decide) _ _ _ rfl (hown.alloc _) ⟨wr.heap.size, 0, none⟩ 1 1 [.int .i64 (q : Int)] rfl rfl one_new (by simp [Value.oneCell']) (by unfold maxLen; omega) (by omega) (by simp; omega) ?_; intro v' w1 hown' hgrow _)
        go_roundw
        case rel => exact ⟨q + 1, by simp, by omega, by omega, by rw [hnx.out, hsn.out, List.length_append]; exact hown', owns_grown_below hB rfl hown hgrow⟩
        case measure => exact measD hgo
      · rw [decide_eq_false hd] at hmod
        have hnx : Hid (dl m (q + 1 - 1) = dl m (q - 1)) := by
          obtain ⟨r, rfl⟩ : ∃ r, q = r + 1 := ⟨q - 1, by omega⟩
          show dl m (r + 1) = dl m r
          rw [dl, if_neg hd, List.append_nil]
        clear hd
        go_wp2
        go_roundw
        case rel => exact ⟨q + 1, by simp, by omega, by omega, by rw [hnx.out]; exact hown, hB⟩
        case measure => exact measD hgo
    · have hgo' : ¬ (q : Int) ≤ (m : Int) := by omega
      have e : q - 1 = m := by omega
      rw [e] at hown
      clear e
      go_wp2
      go_ret
      exact ⟨_, rfl, hown, hB⟩

set_option maxRecDepth 100000 in
theorem Longs_any (g1 g2 c1 c2 : Nat) (l m : List Int) (hl : l.length ≤ 9223372036854775807) (hm : m.length ≤ 9223372036854775807) (w : World) (ha : ∀ j, j < l.length → w.cell? ⟨g1, j, none⟩ = some (.int .i64 (l.getD j 0))) (hb : ∀ j, j < m.length → w.cell? ⟨g2, j, none⟩ = some (.int .i64 (m.getD j 0))) :
    Calls Try.prog 20 #[.slice (some ⟨g1, 0, none⟩) l.length c1, .slice (some ⟨g2, 0, none⟩) m.length c2] w fun e w' => e = .returned (.bool (decide (l = m))) ∧ ∃ k, w' = w.drewN k := by
  by_cases hlen : l.length = m.length
  · obtain ⟨n, hn⟩ : ∃ n, n = l.length := ⟨_, rfl⟩
    have HN : Hid (n = l.length) := hn
    have HM : Hid (n = m.length) := hn.trans hlen
    rw [← hlen, ← hn]
    have hnb : n ≤ 9223372036854775807 := by omega
    clear hn hlen hl hm
    go_enter Try.func20, Try.ntmps20
    go_wp2
    go_loopw [5] (fun i wr => ∃ k : Nat, i = .int .i64 (k : Int) ∧ k ≤ n ∧ Hid (∀ j, j < k → l.getD j 0 = m.getD j 0) ∧ ∃ d, wr = w.drewN d) (fun i wr => ((n : Int) - intOf i).toNat)
    case atStart => exact ⟨0, rfl, by omega, fun j hj => by omega, 0, rfl⟩
    case round =>
      obtain ⟨k, rfl, hk, hsame, d, rfl⟩ := hrel
      by_cases hgo : k < n
      · have hgo' : (k : Int) < (n : Int) := by omega
        have d1 := ha k (by have := HN.out; omega)
        have d2 := hb k (by have := HM.out; omega)
        obtain ⟨x, hx⟩ : ∃ x, l.getD k 0 = x := ⟨_, rfl⟩
        obtain ⟨y, hy⟩ : ∃ y, m.getD k 0 = y := ⟨_, rfl⟩
        rw [hx] at d1
        rw [hy] at d2
        by_cases h1 : x = y
        · subst h1
          have hs2 : Hid (∀ j, j < k + 1 → l.getD j 0 = m.getD j 0) := fun j hj => by
            by_cases e : j = k
            · subst e; rw [hx, hy]
            · exact hsame.out j (by omega)
          clear hx hy
          go_wp2
          refine wp_region_quiet_lit (by kernel_rfl) (by kernel_rfl) ?_
          repeat (go_big_quiet_step (fail))
          refine wpQuiet_nil ?_
          intro _ hw1
          obtain ⟨nq, hw2⟩ := hw1
          subst hw2
          go_wp2
          go_roundw
          case rel => exact ⟨k + 1, by simp, by omega, hs2, _, rfl⟩
          case measure => simp [intOf]; omega
        · have e : Hid (decide (l = m) = false) := decide_eq_false (fun e => by rw [e, hy] at hx; exact h1 hx.symm)
          have h1' : (x != y) = true := by simp [h1]
          clear hx hy
          go_wp2
          refine wp_region_quiet_lit (by kernel_rfl) (by kernel_rfl) ?_
          repeat (go_big_quiet_step (fail))
          refine wpQuiet_nil ?_
          intro _ hw1
          obtain ⟨nq, hw2⟩ := hw1
          subst hw2
          go_wp2
          go_ret
          exact ⟨ret_bool e.out.symm, _, World.drewN_drewN _ _ _⟩
      · have hgo' : ¬ (k : Int) < (n : Int) := by omega
        have e : Hid (decide (l = m) = true) := decide_eq_true (by
          refine List.ext_getElem (HN.out.symm.trans HM.out) fun j h1 h2 => ?_
          have := hsame.out j (by have := HN.out; omega)
          simpa [List.getD, h1, h2] using this)
        go_wp2
        go_ret
        exact ⟨ret_bool e.out.symm, d, rfl⟩
  · have e : Hid (decide (l = m) = false) := decide_eq_false (fun e => hlen (by rw [e]))
    have hlen' : ¬ (l.length : Int) = (m.length : Int) := by omega
    clear hlen
    go_enter Try.func20, Try.ntmps20
    go_wp2
    go_ret
    exact ⟨ret_bool e.out.symm, 0, rfl⟩

end Go.Proofs.Ytlbmhhkhemhfaaa.Calls18
