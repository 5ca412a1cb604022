/-
  What primes.Divisors answers: all that divides a number, rising.
-/
import Derived.Test.YtlbmhhkhemhfaaaCalls15
import Derived.Test.YtlbmhhkhemhfaaaLay
import Derived.Sort.OwnSortedInts
import Derived.Maps.AppendAt
namespace Go.Proofs.Ytlbmhhkhemhfaaa.Calls16
set_option linter.unusedVariables false
open Go.RowKit Go.Shelf Go.Sort Go.Proofs.Ytlbmhhkhemhfaaa.Num Go.Proofs.Ytlbmhhkhemhfaaa.Num5 Go.Proofs.Ytlbmhhkhemhfaaa.Calls7 Go.Proofs.Ytlbmhhkhemhfaaa.Calls8 Go.Proofs.Ytlbmhhkhemhfaaa.Calls9 Go.Proofs.Ytlbmhhkhemhfaaa.Calls15 Go.Proofs.Ytlbmhhkhemhfaaa.Lay

attribute [local go_sem] Oper.semAt_some

theorem sort_any (g cap : Nat) (l : List Int) (w : World) (hH : Holds (Value.int .i64) w g 0 l.toArray) (hblk : g < w.heap.size) (hsz : l.length < 4611686018427387904) :
    Calls Try.prog 28 #[.slice (some ⟨g, 0, none⟩) l.length cap] w fun e w' =>
      e = .returned (.tuple #[]) ∧ ∃ n os, w' = grow (putRow (Value.int .i64) (Sort.ahead w n) g 0 (l.mergeSort fun x y => decide (x ≤ y)).toArray) os :=
  AnyM.slices_Sort_int sortLaid g 0 cap l w hH hblk hsz

theorem keeps_grown {W w1 : World} {g : Nat} {base : Nat} {e : TypeId} {size k cap : Nat} {n : Nat} {xs : List Value} (hrow : W.ownsRow base e size (.slice (some ⟨g, 0, none⟩) k cap) n xs) (hg : W.grownBy w1 (some g)) : KeepsOthers W w1 :=
  KeepsOthers.of_grownBy hg fun j o ej hj => by
    rcases hrow.2 with ⟨h, _⟩ | ⟨g', cap', cur, h, _, hgb, _⟩
    · cases h
    · cases h
      cases ej
      rw [hgb] at hj; cases hj; rfl

theorem vals_K (l : List PK) : ∀ x ∈ vals l, x.2 ≤ 20 := fun x hx => by
  obtain ⟨y, _, rfl⟩ := List.mem_map.1 hx
  exact y.2.2.2.2

theorem dvI_small (l : List PK) (h : l.length < 8) : 1 ≤ (dvI (vals l)).length ∧ (dvI (vals l)).length ≤ 1801088541 := by
  obtain ⟨h1, h2⟩ := dvI_len (vals l) (vals_K l)
  refine ⟨h1, Nat.le_trans h2 ?_⟩
  rw [vals_length]
  have h3 : 21 ^ l.length ≤ 21 ^ 7 := Nat.pow_le_pow_right (by omega) (by omega)
  have h4 : (21 : Nat) ^ 7 = 1801088541 := by decide
  omega

theorem made_one (w : World) : (w.alloc (.cells #[.int .i64 1] 2)).ownsRow w.heap.size 2 1 (.slice (some ⟨w.heap.size, 0, none⟩) 1 1) 1 (ivals (dvI (vals []))) :=
  ⟨rfl, .inr ⟨w.heap.size, 1, #[.int .i64 1], rfl, Nat.le_refl _, World.alloc_heap_new w _, Nat.le_refl _, by unfold maxLen; omega, rfl, rfl⟩⟩

set_option maxRecDepth 100000 in
set_option maxHeartbeats 2000000 in
theorem Divisors_in (n : Nat) (hn : 5 ≤ n) (m : Nat) (hm1 : 1 ≤ m) (hm2 : m ≤ 1048576) (w : World) :
    CallsIn Fence.wide n Try.prog 19 #[.int .i64 (m : Int)] w fun e w' => ∃ l g cap, Fac m l ∧ e = .returned (.tuple #[.slice (some ⟨g, 0, none⟩) ((zs (dv l)).mergeSort fun x y => decide (x ≤ y)).length cap, .int .i64 0]) ∧
      w'.ownsRow w.heap.size 2 1 (.slice (some ⟨g, 0, none⟩) ((zs (dv l)).mergeSort fun x y => decide (x ≤ y)).length cap) ((zs (dv l)).mergeSort fun x y => decide (x ≤ y)).length (ivals ((zs (dv l)).mergeSort fun x y => decide (x ≤ y))) ∧ Below w.heap.size w w' := by
  have h1 : 1 ≤ n := by omega
  have hin : decide (1 ≤ (m : Int) ∧ (m : Int) ≤ 1048576) = true := decide_eq_true ⟨by omega, by omega⟩
  have cR := fun w' => pRange_in Fence.wide (n - 1) trivial rfl (m : Int) w'
  rw [hin] at cR
  refine callsIn_of_wp_marks Try.func19 rfl trivial ?_ rfl
  simp only [Try.ntmps19, List.size_toArray, List.length_cons, List.length_nil, Nat.reduceAdd, Nat.reduceSub, Array.replicate_succ, Array.replicate_zero, List.push_toArray, List.append_toArray, List.nil_append, List.cons_append]
  gi_wp2_with (first | (refine ⟨trivial, ?_⟩; gi_at_call 23; refine (cR _).mono ?_; rintro e w' ⟨rfl, hw⟩; subst w') | (refine ⟨trivial, ?_⟩; gi_at_call 24; refine (powers_in Fence.wide (n - 1) trivial rfl _ _).mono ?_; rintro e w' ⟨rfl, rfl⟩))
  have hR0 : (w.alloc (.cells #[.int .i64 1] 2)).ownsRow w.heap.size 2 1 (.slice (some ⟨w.heap.size, 0, none⟩) 1 1) 1 (ivals (dvI (vals []))) := made_one w
  have hR1 := (hR0.alloc (.cells #[.slice (some ⟨w.heap.size, 0, none⟩) 1 1] 38)).alloc (.cells #[.int .i64 (m : Int)] 2)
  have b0 := (Boxed.new (w.alloc (.cells #[.int .i64 1] 2)) 38 (.slice (some ⟨w.heap.size, 0, none⟩) 1 1)).alloc (.cells #[.int .i64 (m : Int)] 2)
  have b3 := Boxed.new ((w.alloc (.cells #[.int .i64 1] 2)).alloc (.cells #[.slice (some ⟨w.heap.size, 0, none⟩) 1 1] 38)) 2 (.int .i64 (m : Int))
  simp only [World.size_alloc] at b0 b3
  have hB0 : Below w.heap.size w (((w.alloc (.cells #[.int .i64 1] 2)).alloc (.cells #[.slice (some ⟨w.heap.size, 0, none⟩) 1 1] 38)).alloc (.cells #[.int .i64 (m : Int)] 2)) := (((Below.refl _ w).alloc (Nat.le_refl _) _).alloc (by simp) _).alloc (by simp; omega) _
  have hsz : (((w.alloc (.cells #[.int .i64 1] 2)).alloc (.cells #[.slice (some ⟨w.heap.size, 0, none⟩) 1 1] 38)).alloc (.cells #[.int .i64 (m : Int)] 2)).heap.size = w.heap.size + 3 := by simp
  obtain ⟨W0, hW0⟩ : ∃ W0, ((w.alloc (.cells #[.int .i64 1] 2)).alloc (.cells #[.slice (some ⟨w.heap.size, 0, none⟩) 1 1] 38)).alloc (.cells #[.int .i64 (m : Int)] 2) = W0 := ⟨_, rfl⟩
  rw [hW0] at hR1 b0 b3 hB0 hsz ⊢
  clear hW0 hR0
  refine wpIn_rangeFunc_ownH rfl h1 (gf := 29) (lb := #[.pointer (some ⟨w.heap.size + 1 + 1, 0, none⟩)]) rfl trivial (enters_of Try.func29 (by kernel_rfl) rfl)
    (powers_stops Fence.wide (n - 1) trivial rfl (by omega) (w.heap.size + 1 + 1) m hm1 hm2 (Below w.heap.size) W0 (by omega) b3.cell) belowK_t (belowK_b (by omega)) (Below.refl _ _) (fun _ => rfl)
    (fun pre W => (∃ v, Boxed W (w.heap.size + 1) 38 v ∧ W.ownsRow w.heap.size 2 1 v (dvI (vals pre)).length (ivals (dvI (vals pre))) ∧ ∃ g cap, v = .slice (some ⟨g, 0, none⟩) (dvI (vals pre)).length cap) ∧ Below w.heap.size w W)
    (fun _ _ _ => False)
    (OwnFrom.and (Own.from (holdsRow_own w.heap.size (w.heap.size + 1) 38 2 1 (fun pre => (dvI (vals pre)).length) (fun pre => ivals (dvI (vals pre))) (fun pre v => ∃ g cap, v = .slice (some ⟨g, 0, none⟩) (dvI (vals pre)).length cap)) _) (ownFrom_below (Nat.le_refl _) (by omega)))
    (fun _ _ _ _ _ hs _ _ => hs)
    ⟨⟨_, b0, hR1, _, _, rfl⟩, hB0⟩
    (fun x a' W => ∃ Bx, w.heap.size + 1 < Bx ∧ BoxC W Bx 44 #[.int .i64 (x.1.1 : Int), .int .i64 (x.1.2 : Int)] ∧ a' = { tmps := #[.int .i64 (m : Int), undef, .slice none 0 0, .int .i64 0, .pointer (some ⟨w.heap.size + 1, 0, none⟩), .pointer (some ⟨Bx, 0, none⟩), .int .i64 (m : Int), .bool true, .bool false, .slice (some ⟨w.heap.size, 0, none⟩) 1 1, .int .i64 (m : Int), .func (.func 29) #[] #[.pointer (some ⟨w.heap.size + 1 + 1, 0, none⟩)], encP x, undef, undef, undef, undef, undef, undef], defers := [] })
    (fun x a' _ X Y row hs hg hr => by obtain ⟨Bx, h1, h2, h3⟩ := hs; exact ⟨Bx, h1, boxC_own Bx 44 (fun (_ : Unit) => #[.int .i64 (x.1.1 : Int), .int .i64 (x.1.2 : Int)]) () X Y row h2 hg (fun r e => (hr r e).2), h3⟩)
    ?assign ?body ?done ?stop
  case assign =>
    rintro l pre x W K ⟨⟨v, c0, hrow, hv⟩, hB1⟩ hK
    gi_wp2
    exact hK _ _ ((KeepsOthers.alloc _ _).from _) ((Below.refl _ W).alloc hB1.size _) ⟨⟨v, c0.alloc _, hrow.alloc _, hv⟩, hB1.alloc hB1.size _⟩ ⟨W.heap.size, c0.lt, BoxC.new W 44 _, rfl⟩
  case body =>
    rintro l pre x a' W hl _ ⟨⟨v, c0, hrow, g, cap, rfl⟩, hB1⟩ ⟨Bx, hBx, bX, rfl⟩ hlt
    have d0 := c0.cell
    have dx := bX.cell 0
    have dy := bX.cell 1
    simp at dx dy
    obtain ⟨hl1, hl2⟩ := dvI_small pre hlt
    have hbd : (dvI (vals pre)).length * (x.1.2 + 1) ≤ 1099511627776 := by
      have := Nat.mul_le_mul hl2 (show x.1.2 + 1 ≤ 21 by have := x.2.2.2.2; omega)
      omega
    have cS := spread_any w.heap.size g cap x.1.1 x.1.2 (dvI (vals pre)) W hl1 hbd x.2.2.2.2 hB1.size hrow
    have hnr := c0.not_row (by decide) hrow
    have hsn := dvI_snoc (vals pre) x.1
    rw [← hsn] at cS
    have HS : Hid (vals (pre ++ [x]) = vals pre ++ [x.1]) := vals_snoc pre x
    clear hsn
    gi_wp2_with (refine ⟨trivial, fun _ => (by omega), ?_⟩; gi_at_call 27; refine (CallsIn.inRound l (callsIn_wide.2 cS)).mono ?_; rintro e w2 ⟨g2, cap2, rfl, hown2, hgrow2⟩; have hv1 := c0.kept hgrow2 hnr; have e1 := hv1.cell; have e2 := hv1.frozen)
    have hv2 := hv1.set (.slice (some ⟨g2, 0, none⟩) (dvI (vals pre ++ [x.1])).length cap2)
    have hr2 := hown2.kept (grownBy_setCell' w2 (w.heap.size + 1) (.slice (some ⟨g2, 0, none⟩) (dvI (vals pre ++ [x.1])).length cap2)) (.inr (hv1.not_row (by decide) hown2).symm)
    have hk2 := (keeps_grown hrow hgrow2).trans (KeepsOthers.setCell w2 ⟨w.heap.size + 1, 0, none⟩ (.slice (some ⟨g2, 0, none⟩) (dvI (vals pre ++ [x.1])).length cap2))
    have hb2 := ((Below.refl w.heap.size W).grown hgrow2 hB1.size (fun j ej => by cases ej; exact (hrow.lt g rfl).1)).setCell (p := ⟨w.heap.size + 1, 0, none⟩) (by simp) (.slice (some ⟨g2, 0, none⟩) (dvI (vals pre ++ [x.1])).length cap2)
    exact ⟨hk2.from _, hb2, ⟨_, hv2, by rw [HS.out]; exact hr2, g2, cap2, by rw [HS.out]⟩, hB1.trans hb2⟩
  case done =>
    rintro D ys W hD hF ⟨⟨v, c0, hrow, g, cap, rfl⟩, hB1⟩ hK
    rw [dvI_eq hF hm2] at hrow c0
    have d0 := c0.cell
    have hlen : (zs (dv (vals ys))).length < 4611686018427387904 := by
      have h8 := len8 hF.1 hF.2.1 (by rw [hF.2.2]; exact hm2)
      have := (dvI_len (vals ys) (vals_K ys)).2
      rw [dvI_eq hF hm2] at this
      have h3 : 21 ^ (vals ys).length ≤ 21 ^ 8 := Nat.pow_le_pow_right (by omega) h8
      have h4 : (21 : Nat) ^ 8 = 37822859361 := by decide
      omega
    have hgb := hrow.lt g rfl
    obtain ⟨cur, hcur, hq1, hq2, hq3, hq4⟩ : ∃ cur, W.heap[g]? = some (.cells cur 2 (0, 0)) ∧ (zs (dv (vals ys))).length ≤ cap ∧ cap ≤ maxLen ∧ cur.size = cap * 1 ∧ cur.toList.take (zs (dv (vals ys))).length = (zs (dv (vals ys))).map (Value.int .i64) := by
      rcases hrow.2 with ⟨h, _⟩ | ⟨g', cap', cur, h, _, h1, h2, h3, h4, h5⟩
      · cases h
      · cases h
        exact ⟨cur, h1, h2, h3, h4, by rw [Nat.mul_one] at h5; exact h5⟩
    have cS := sort_any g cap (zs (dv (vals ys))) W (holds_of_blockI hcur hq4) hgb.2 hlen
    have hperm : ((zs (dv (vals ys))).mergeSort fun x y => decide (x ≤ y)).length = (zs (dv (vals ys))).length := List.length_mergeSort _
    have hnr := c0.not_row (by decide) hrow
    obtain ⟨S, hS⟩ : ∃ S, (zs (dv (vals ys))).mergeSort (fun x y => decide (x ≤ y)) = S := ⟨_, rfl⟩
    rw [hS] at cS hperm
    have HS : Hid ((zs (dv (vals ys))).mergeSort (fun x y => decide (x ≤ y)) = S) := hS
    clear hS
    have hown3 : ∀ (nn : Nat) (os : Array Obj), (grow (putRow (Value.int .i64) (Sort.ahead W nn) g 0 S.toArray) os).ownsRow w.heap.size 2 1 (.slice (some ⟨g, 0, none⟩) (zs (dv (vals ys))).length cap) (zs (dv (vals ys))).length (ivals S) := fun nn os => ownsRow_sortedI hperm hgb.1 hcur hq1 hq2 hq3
    have hgr3 : ∀ (nn : Nat) (os : Array Obj), W.grownBy (grow (putRow (Value.int .i64) (Sort.ahead W nn) g 0 S.toArray) os) (some g) := fun nn os => grownBy_sortedI _
    gi_wp2_with (refine ⟨trivial, ?_⟩; gi_at_call 28; refine (callsIn_wide.2 cS).mono ?_; rintro e w3 ⟨rfl, nn, os, hw3⟩; have hown4 := hown3 nn os; have hgr4 := hgr3 nn os; rw [← hw3] at hown4 hgr4; clear hw3; have hv3 := c0.kept hgr4 hnr; have d3 := hv3.cell)
    have hK' := (keeps_grown hrow hgr4).same D _ hK rfl
    have hB3 : Below w.heap.size w w3 := hB1.trans ((Below.refl w.heap.size W).grown hgr4 hB1.size (fun j ej => by cases ej; exact hgb.1))
    refine ⟨by simp, .inl ⟨_, _, rfl, run_takeDeferred hK', ?_⟩⟩
    refine ⟨_, results_tmp2 rfl _ _ _, vals ys, g, cap, hF, by rw [HS.out, hperm]; rfl, by rw [HS.out, hperm]; exact ownsRow_putObj hown4 _ hK' rfl, hB3.trans (belowK_b (w := w) (Nat.le_refl _) w3 D _ _ (by omega) hK' rfl rfl)⟩
  case stop =>
    rintro D c pre W _ _ h _
    exact h.elim

set_option maxRecDepth 100000 in
theorem Divisors_out (n : Nat) (hn : 3 ≤ n) (m : Int) (hm : ¬ (1 ≤ m ∧ m ≤ 1048576)) (w : World) :
    CallsIn Fence.wide n Try.prog 19 #[.int .i64 m] w fun e w' => e = .returned (.tuple #[.slice none 0 0, .int .i64 2]) ∧ Below w.heap.size w w' := by
  have h1 : 1 ≤ n := by omega
  have hin : decide (1 ≤ m ∧ m ≤ 1048576) = false := decide_eq_false hm
  have cR := fun w' => pRange_in Fence.wide (n - 1) trivial rfl m w'
  rw [hin] at cR
  refine callsIn_of_wp Try.func19 rfl trivial ?_ rfl
  simp only [Try.ntmps19, List.size_toArray, List.length_cons, List.length_nil, Nat.reduceAdd, Nat.reduceSub, Array.replicate_succ, Array.replicate_zero, List.push_toArray, List.append_toArray, List.nil_append, List.cons_append]
  gi_wp2_with (refine ⟨trivial, ?_⟩; gi_at_call 23; refine (cR _).mono ?_; rintro e w' ⟨rfl, hw⟩; subst w')
  go_ret2
  exact ⟨rfl, Below.refl _ _⟩

/-- The numbers that divide m, rising. -/
def dsort (l : List (Nat × Nat)) : List Nat := (dv l).mergeSort fun x y => decide (x ≤ y)

theorem zs_sort (l : List Nat) : (zs l).mergeSort (fun x y => decide (x ≤ y)) = zs (l.mergeSort fun x y => decide (x ≤ y)) := by
  refine List.Perm.eq_of_pairwise (le := fun a b => a ≤ b) (fun a b _ _ h1 h2 => by omega) ?_ ?_ ?_
  · have h := List.pairwise_mergeSort (le := fun x y : Int => decide (x ≤ y)) (fun a b c h1 h2 => by simp at *; omega) (fun a b => by simp; omega) (zs l)
    exact h.imp (fun h => by simpa using h)
  · have h := List.pairwise_mergeSort (le := fun x y : Nat => decide (x ≤ y)) (fun a b c h1 h2 => by simp at *; omega) (fun a b => by simp; omega) l
    exact List.Pairwise.map _ (fun a b h => by simp at h; omega) h
  · refine (List.mergeSort_perm _ _).trans ?_
    exact (List.Perm.map _ (List.mergeSort_perm _ _)).symm

theorem dsort_perm (l : List (Nat × Nat)) : (dsort l).Perm (dv l) := List.mergeSort_perm _ _

theorem Divisors_yes (m : Nat) (hm1 : 1 ≤ m) (hm2 : m ≤ 1048576) (w : World) :
    Calls Try.prog 19 #[.int .i64 (m : Int)] w fun e w' => ∃ l g cap, Fac m l ∧ e = .returned (.tuple #[.slice (some ⟨g, 0, none⟩) (dsort l).length cap, .int .i64 0]) ∧
      w'.ownsRow w.heap.size 2 1 (.slice (some ⟨g, 0, none⟩) (dsort l).length cap) (dsort l).length (ivals (zs (dsort l))) ∧ Below w.heap.size w w' := by
  refine ((callsIn_wide (n := 5)).1 (Divisors_in 5 (by omega) m hm1 hm2 w)).mono ?_
  rintro e w' ⟨l, g, cap, hF, he, hown, hB⟩
  rw [zs_sort, zs_length] at he hown
  exact ⟨l, g, cap, hF, he, hown, hB⟩

theorem Divisors_no (m : Int) (hm : ¬ (1 ≤ m ∧ m ≤ 1048576)) (w : World) :
    Calls Try.prog 19 #[.int .i64 m] w fun e w' => e = .returned (.tuple #[.slice none 0 0, .int .i64 2]) ∧ Below w.heap.size w w' :=
  (callsIn_wide (n := 3)).1 (Divisors_out 3 (by omega) m hm w)

end Go.Proofs.Ytlbmhhkhemhfaaa.Calls16
