/-
  The document's side of a text: a number as bytes, a text with its length; two texts held against each other, by the program's means and the document's.
-/
import Derived.Test.YthjmmibfgphlhaaCalls126
import Derived.OwnWalk
import Derived.Laws.CopyOwn
import Derived.Laws.Strings
namespace Go.Proofs.Ythjmmibfgphlhaa.Calls127
set_option linter.unusedVariables false
open Go.ChangeShapes Go.WideShapes Go.ChangeAt Go.RowKit Go.Deep Go.Proofs.Ythjmmibfgphlhaa.Base Go.Proofs.Ythjmmibfgphlhaa.Base2 Go.Proofs.Ythjmmibfgphlhaa.Base7 Go.Proofs.Ythjmmibfgphlhaa.Base8 Go.Proofs.Ythjmmibfgphlhaa.Num55 Go.Proofs.Ythjmmibfgphlhaa.Calls126

/-- A number as so many bytes, the lowest first. -/
def lit (n : Nat) : Nat → List Nat
  | 0 => []
  | k + 1 => lit n k ++ [n / 256 ^ k % 256]

theorem lit_length (n : Nat) : ∀ k, (lit n k).length = k
  | 0 => rfl
  | k + 1 => by show (lit n k ++ [_]).length = _; simp [lit_length n k]

theorem lit_four (n : Nat) : lit n 4 = len4 n := by simp [lit, len4]

theorem lit_byt (n : Nat) : ∀ k, Byt (lit n k)
  | 0 => fun b hb => by cases hb
  | k + 1 => fun b hb => by
    rcases List.mem_append.1 hb with h | h
    · exact lit_byt n k b h
    · simp at h; omega

theorem yv_lit (n k : Nat) : yv (lit n (k + 1)) = yv (lit n k) ++ [.int .u8 ((n / 256 ^ k % 256 : Nat) : Int)] := yv_snoc _ _

set_option maxRecDepth 100000 in
set_option maxHeartbeats 1000000 in
theorem little_any (n N : Nat) (hn : n < 4294967296) (hN : N ≤ 8) (w : World) :
    Calls Try.prog 45 #[.int .i64 (n : Int), .int .i64 (N : Int)] w fun e w' => RetY (lit n N) e w' ∧ Below w.heap.size w w' := by
  obtain ⟨i0, hi, hz0, hz1, hz2⟩ := infoY infoU8
  go_enter Try.func45, Try.ntmps45
  go_wp2
  go_loopw [0, 5, 6] (fun m v i wr => ∃ k q : Nat, m = .int .i64 (q : Int) ∧ i = .int .i64 (k : Int) ∧ k ≤ N ∧ q < 4294967296 ∧ Hid (q = n / 256 ^ k) ∧ Hid (wr.ownsRow w.heap.size 5 1 v k (yv (lit n k))) ∧ Hid (Below w.heap.size w wr)) (fun m v i wr => ((N : Int) - intOf i).toNat)
  case atStart => exact ⟨0, n, rfl, rfl, by omega, hn, by show n = _; simp, World.ownsRow_nil _ _ _ _, Below.refl _ _⟩
  case round =>
    obtain ⟨k, q, rfl, rfl, hk, hq, HQ, HO, HB⟩ := hrel
    by_cases hgo : k < N
    · have hgo' : (k : Int) < (N : Int) := by omega
      have hsn : Hid (yv (lit n (k + 1)) = yv (lit n k) ++ [.int .u8 ((q : Int) % 256)]) := by
        show _ = _
        rw [yv_lit, ← HQ.out]; simp
      have hq2 : Hid (q / 256 = n / 256 ^ (k + 1)) := by
        show _ = _
        rw [HQ.out, Nat.div_div_eq_div_mul, Nat.pow_succ]
      have hBs := HB.out.size
      have t1 : ((q : Int)).tmod 256 = (q : Int) % 256 := Int.tmod_eq_emod_of_nonneg (by omega)
      clear HQ
      go_wp2_with (at_builtin; refine wpList_append_own _ rfl _ _ 37 rfl w.heap.size 5 i0 (.int .u8 0) 1 1 Try.underlying37 hi hz0 hz1 hz2 rfl (by decide) _ _ _ rfl (HO.out.alloc _) ⟨wr.heap.size, 0, none⟩ 1 1 [.int .u8 ((q : Int) % 256)] rfl rfl v_one (by simp [Value.oneCell']) (by unfold maxLen; omega) (by omega) (by simp; omega) ?_; intro v' w3 hown' hgrow _; have HO3 := hid hown'; have HB3 := hid (v_snoc HB.out (Nat.le_refl _) HO.out hgrow); clear hown' hgrow)
      go_roundw
      case rel => exact ⟨k + 1, q / 256, by simp, by simp, by omega, by omega, hq2, by have := HO3.out; rw [← hsn.out] at this; exact this, HB3⟩
      case measure => exact measK hgo
    · obtain rfl : k = N := by omega
      have hfin := hid (y_owns HO.out)
      rw [lit_length] at hfin
      go_wp2
      go_ret
      obtain ⟨ao, cap, rfl, hc, hR⟩ := hfin.out
      exact ⟨⟨ao, cap, by rw [lit_length]; rfl, by rw [lit_length]; exact hc, hR⟩, HB.out⟩

/-- The document's text with its length. -/
theorem pad_of (l : List Nat) : l ++ lit l.length 4 = pad l := by rw [lit_four]; rfl

set_option maxRecDepth 100000 in
set_option maxHeartbeats 1000000 in
theorem refPadded_any (o : Option Addr) (c : Nat) (l : List Nat) (hl : l.length ≤ 4096) (w : World) (r : YRow w o l) :
    Calls Try.prog 37 #[.slice o l.length c] w fun e w' => RetY (pad l) e w' ∧ Below w.heap.size w w' := by
  obtain ⟨i0, hi, hz0, hz1, hz2⟩ := infoY infoU8
  have cL := hid (fun w' => little_any l.length 4 (by omega) (by omega) w')
  have hp := hid (pad_of l)
  obtain ⟨n, hn⟩ : ∃ n, n = l.length := ⟨_, rfl⟩
  have HN := hid hn
  have HR := hid r
  rw [← hn] at cL hl hp ⊢
  clear hn r
  have one := hid (yv_one l)
  have one4 := hid (yv_one (lit n 4))
  have hB1 := hid ((Below.refl _ w).alloc (Nat.le_refl _) (.cells #[] 5))
  have HR1 := hid (yb' HR.out hB1.out)
  go_enter Try.func37, Try.ntmps37
  go_wp2_with (first
    | (go_at_call 45; refine (cL.out _).mono ?_; rintro e w3 ⟨⟨bo, cb, rfl, hcb, hr⟩, hB⟩; have HR3 := hid hr; have HB3 := hid hB; have HC3 := hid hcb; have HO3 := hid (v_below HO2.out hB); clear hr hB hcb)
    | (at_builtin; refine wpList_copyV _ rfl _ _ 37 rfl w.heap.size 5 i0 (.int .u8 0) 1 Try.underlying37 hi hz0 hz1 hz2 rfl (by omega) (by omega) w.heap.size rfl (owns_empty w w.heap.size 5 1 (Nat.le_refl _)) o n c (yv l) rfl (by rw [yv_length]; exact HN.out) HR1.out one.out (by omega) (by simp) ?_; intro g cap w2 hO hG hlt; have HO2 := hid hO; have HB2 := hid (hB1.out.grown hG (by simp) (fun j ej => by simp at ej; omega)); clear hO hG hlt)
    | (at_builtin; refine wpList_append_y _ rfl _ _ 37 rfl w.heap.size 5 i0 Try.underlying37 hi hz0 hz1 hz2 g n cap (yv l) rfl HO3.out bo (lit n 4).length cb (lit n 4) rfl rfl HR3.out (by rw [lit_length]; omega) (Nat.le_trans HB2.out.size HB3.out.size) ?_; intro g' cap' w4 hO4 hB4; have HO4 := hid hO4; have HB4 := hid (Below.trans (below_trans HB2.out HB3.out) hB4); clear hO4 hB4))
  go_ret
  have hfin := HO4.out
  rw [← yv_append, hp.out] at hfin
  exact ⟨y_owns hfin |> fun ⟨ao, cc, e1, e2, e3⟩ => ⟨ao, cc, congrArg Ending.returned e1, e2, e3⟩, HB4.out⟩

/-! ### two texts held against each other -/

theorem strOf_len (w : World) (ad : Addr) (l : List Nat) (r : YRow w (some ad) l) : (loadCells ad l.length).run Try.prog w = .ok ((l.map (fun b : Nat => (b : Int))).map (Value.int .u8)).toArray w := by
  have e : (l.map (fun b : Nat => (b : Int))).map (Value.int .u8) = yv l := by simp [yv]
  have := run_loadCells_list (P := Try.prog) w ad ((l.map (fun b : Nat => (b : Int))).map (Value.int .u8)) (fun j v hj => r.2 ad rfl j v (by rw [← e]; exact hj))
  simpa using this

/-- 'string(b)'. -/
theorem run_str (w : World) (o : Option Addr) (c : Nat) (l : List Nat) (r : YRow w o l) : (convert 37 9 (.slice o l.length c)).run Try.prog w = .ok (.string (strOfNums (l.map (fun b : Nat => (b : Int))))) w := by
  rcases o with _ | ad
  · have e : l = [] := by
      have := congrArg List.length (r.1 rfl)
      rw [yv_length] at this
      exact List.length_eq_zero_iff.1 this
    subst e
    rw [run_convert_bytes_nil (P := Try.prog) w 37 5 Try.underlying37 Try.underlying5 _ c 9 Try.underlying9]
    rfl
  · rw [run_convert_bytes_string w 37 9 5 _ _ c Try.underlying37 Try.underlying5 Try.underlying9, run_bytesToString w ad _ c (l.map (fun b : Nat => (b : Int))) (strOf_len w ad l r), foldl_push_bytes]
    simp [strOfNums, ByteArray.empty, ByteArray.emptyWithCapacity]
    rfl

theorem str_inj {a b : List Nat} (ha : Byt a) (hb : Byt b) (h2 : (strOfNums (a.map (fun b : Nat => (b : Int)))).data.toList = (strOfNums (b.map (fun b : Nat => (b : Int)))).data.toList) : a = b := by
  simp only [strOfNums_data] at h2
  have hl : a.length = b.length := by have := congrArg List.length h2; simpa using this
  refine yb_ext hl fun i hi => ?_
  have h3 := congrArg (fun x : List UInt8 => (x[i]?).map UInt8.toNat) h2
  have hi2 : i < b.length := by omega
  have l1 := ha _ (yb_mem hi)
  have l2 := hb _ (yb_mem hi2)
  simp [hi, hi2] at h3
  simp [yb, List.getD, hi, hi2] at l1 l2 ⊢
  omega

set_option maxRecDepth 100000 in
theorem Equal_any (ao bo : Option Addr) (ca cb : Nat) (a b : List Nat) (ha : Byt a) (hb : Byt b) (w : World) (ra : YRow w ao a) (rb : YRow w bo b) :
    Calls Try.prog 35 #[.slice ao a.length ca, .slice bo b.length cb] w fun e w' => e = .returned (.bool (decide (a = b))) ∧ w' = w := by
  have h1 := run_str w ao ca a ra
  have h2 := run_str w bo cb b rb
  have he : ((strOfNums (a.map (fun b : Nat => (b : Int)))).toList == (strOfNums (b.map (fun b : Nat => (b : Int)))).toList) = decide (a = b) := by
    by_cases e : a = b
    · subst e; simp
    · have : (strOfNums (a.map (fun b : Nat => (b : Int)))).toList ≠ (strOfNums (b.map (fun b : Nat => (b : Int)))).toList := fun h => e (str_inj ha hb (by rwa [ByteArray.toList_eq, ByteArray.toList_eq] at h))
      rw [beq_eq_false_iff_ne.2 this, decide_eq_false e]
  rw [← he]
  clear he ra rb
  generalize strOfNums (a.map (fun b : Nat => (b : Int))) = s at *
  generalize strOfNums (b.map (fun b : Nat => (b : Int))) = t at *
  generalize a.length = n at *
  generalize b.length = m at *
  go_enter Try.func35, Try.ntmps35
  go_wp2
  go_ret
  exact ⟨rfl, rfl⟩

set_option maxRecDepth 100000 in
set_option maxHeartbeats 1000000 in
theorem refBytes_any (ao bo : Option Addr) (ca cb : Nat) (a b : List Nat) (r : Bool) (hr : r = true ↔ a = b) (hl : a.length ≤ 9223372036854775807) (w : World) (ra : YRow w ao a) (rb : YRow w bo b) :
    Calls Try.prog 21 #[.slice ao a.length ca, .slice bo b.length cb] w fun e w' => e = .returned (.bool r) ∧ Below w.heap.size w w' := by
  by_cases hlen : a.length = b.length
  · have HA := hid (fun (w' : World) (h : Below w.heap.size w w') => yrow_below ra h)
    have HB := hid (fun (w' : World) (h : Below w.heap.size w w') => yrow_below rb h)
    have HR := hid hr
    rw [← hlen]
    obtain ⟨N, hN⟩ : ∃ N, N = a.length := ⟨_, rfl⟩
    have HNA := hid hN
    have HNB : Hid (N = b.length) := by show _ = _; omega
    rw [← hN] at hl ⊢
    clear hN hlen ra rb hr
    go_enter Try.func21, Try.ntmps21
    go_wp2
    go_loopw [5] (fun i wr => ∃ k : Nat, i = .int .i64 (k : Int) ∧ k ≤ N ∧ Hid (∀ j, j < k → yb a j = yb b j) ∧ Hid (Below w.heap.size w wr)) (fun i wr => ((N : Int) - intOf i).toNat)
    case atStart => exact ⟨0, rfl, by omega, fun j hj => by omega, Below.refl _ _⟩
    case round =>
      obtain ⟨k, rfl, hk, hA, hW⟩ := hrel
      by_cases hgo : k < N
      · have hgo' : (k : Int) < (N : Int) := by omega
        rcases ao with _ | ad
        · exact (yrow_none (HA.out _ hW.out) (j := k) (by rw [← HNA.out]; exact hgo)).elim
        rcases bo with _ | bd
        · exact (yrow_none (HB.out _ hW.out) (j := k) (by rw [← HNB.out]; exact hgo)).elim
        have c1 := yrow_cell (HA.out _ hW.out) (j := k) (by rw [← HNA.out]; exact hgo)
        have c2 := yrow_cell (HB.out _ hW.out) (j := k) (by rw [← HNB.out]; exact hgo)
        by_cases hx : yb a k = yb b k
        · have hA2 : Hid (∀ j, j < k + 1 → yb a j = yb b j) := fun j hj => by
            by_cases e : j = k
            · subst e; exact hx
            · exact hA.out j (by omega)
          rw [← hx] at c2
          generalize yb a k = x at *
          have hx1 : (x != x) = false := by simp
          clear hx hA
          go_wp2_with go_region
          go_roundw
          case rel => exact ⟨k + 1, by simp, by omega, hA2, hW.out.drew⟩
          case measure => exact measK hgo
        · have e : Hid (false = r) := by
            show false = r
            cases r with
            | false => rfl
            | true => exact absurd (by rw [HR.out.1 rfl]) hx
          have hx1 : (yb a k != yb b k) = true := by simpa using hx
          have hx2 : (yb a k == yb b k) = false := by simpa using hx
          generalize yb a k = x at *
          generalize yb b k = y at *
          clear hA
          go_wp2_with go_region
          go_ret
          exact ⟨ret_bool e.out, hW.out.drew⟩
      · have hgo' : ¬ (k : Int) < (N : Int) := by omega
        obtain rfl : k = N := by omega
        have e : Hid (true = r) := (HR.out.2 (yb_ext (by rw [← HNA.out, ← HNB.out]) (fun i hi => hA.out i (by rw [HNA.out]; exact hi)))).symm
        clear hA
        go_wp2
        go_ret
        exact ⟨ret_bool e.out, hW.out⟩
  · have e : Hid (false = r) := by
      show false = r
      cases r with
      | false => rfl
      | true => exact absurd (by rw [hr.1 rfl]) hlen
    have h1 : ¬ (a.length : Int) = (b.length : Int) := by omega
    generalize a.length = n at *
    generalize b.length = m at *
    clear ra rb hr
    go_enter Try.func21, Try.ntmps21
    go_wp2
    go_ret
    exact ⟨ret_bool e.out, Below.refl _ _⟩

end Go.Proofs.Ythjmmibfgphlhaa.Calls127
