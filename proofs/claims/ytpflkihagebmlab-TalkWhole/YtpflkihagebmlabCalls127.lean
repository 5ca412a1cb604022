/-
  The document's side of a text: a number as bytes, a text with its length; two texts held against each other, by the program's means and the document's.
-/
import Derived.Test.YtpflkihagebmlabCalls126
import Derived.OwnWalk
import Derived.Laws.CopyOwn
import Derived.Laws.Strings
namespace Go.Proofs.Ytpflkihagebmlab.Calls127
set_option linter.unusedVariables false
open Go.ChangeShapes Go.WideShapes Go.ChangeAt Go.RowKit Go.Deep Go.Proofs.Ytpflkihagebmlab.Base Go.Proofs.Ytpflkihagebmlab.Base2 Go.Proofs.Ytpflkihagebmlab.Base7 Go.Proofs.Ytpflkihagebmlab.Base8 Go.Proofs.Ytpflkihagebmlab.Num55 Go.Proofs.Ytpflkihagebmlab.Calls126

/-- A number as so many bytes, the lowest first. -/
def lit (n : Nat) : Nat → List Nat
  | 0 => []
  | k + 1 => lit n k ++ [n / 256 ^ k % 256]

theorem lit_length (n : Nat) : ∀ k, (lit n k).length = k
  | 0 => rfl
  | k + 1 => by show (lit n k ++ [_]).length = _; simp [lit_length n k]

theorem lit_four (n : Nat) : lit n 4 = len4 n := by simp [lit, len4]

theorem lit_byt (n : Nat) : ∀ k, Byt (lit n k)
  | 0 => fun b hb => by cases hb
  | k + 1 => fun b hb => by
    rcases List.mem_append.1 hb with h | h
    · exact lit_byt n k b h
    · simp at h; omega

theorem yv_lit (n k : Nat) : yv (lit n (k + 1)) = yv (lit n k) ++ [.int .u8 ((n / 256 ^ k % 256 : Nat) : Int)] := yv_snoc _ _

set_option maxRecDepth 100000 in
set_option maxHeartbeats 1000000 in
theorem little_any (n N : Nat) (hn : n < 4294967296) (hN : N ≤ 8) (w : World) :
    Calls Try.prog 24 #[.int .i64 (n : Int), .int .i64 (N : Int)] w fun e w' => RetY (lit n N) e w' ∧ Below w.heap.size w w' := by
  obtain ⟨i0, hi, hz0, hz1, hz2⟩ := infoY infoU8
  go_enter Try.func24, Try.ntmps24
  go_wp2
  go_loopw [0, 5, 6] (fun m v i wr => ∃ k q : Nat, m = .int .i64 (q : Int) ∧ i = .int .i64 (k : Int) ∧ k ≤ N ∧ q < 4294967296 ∧ Hid (q = n / 256 ^ k) ∧ Hid (wr.ownsRow w.heap.size 5 1 v k (yv (lit n k))) ∧ Hid (Below w.heap.size w wr)) (fun m v i wr => ((N : Int) - intOf i).toNat)
  case atStart => exact ⟨0, n, rfl, rfl, by omega, hn, by show n = _; simp, World.ownsRow_nil _ _ _ _, Below.refl _ _⟩
  case round =>
    obtain ⟨k, q, rfl, rfl, hk, hq, HQ, HO, HB⟩ := hrel
    by_cases hgo : k < N
    · have hgo' : (k : Int) < (N : Int) := by omega
      have hsn : Hid (yv (lit n (k + 1)) = yv (lit n k) ++ [.int .u8 ((q : Int) % 256)]) := by
        show _ = _
        rw [yv_lit, ← HQ.out]; simp
      have hq2 : Hid (q / 256 = n / 256 ^ (k + 1)) := by
        show _ = _
        rw [HQ.out, Nat.div_div_eq_div_mul, Nat.pow_succ]
      have hBs := HB.out.size
      have t1 : ((q : Int)).tmod 256 = (q : Int) % 256 := Int.tmod_eq_emod_of_nonneg (by omega)
      clear HQ
      go_wp2_with (at_builtin; refine wpList_append_own _ rfl _ _ 37 rfl w.heap.size 5 i0 (.int .u8 0) 1 1 Try.underlying37 hi hz0 hz1 hz2 rfl (by decide) _ _ _ rfl (HO.out.alloc _) ⟨wr.heap.size, 0, none⟩ 1 1 [.int .u8 ((q : Int) % 256)] rfl rfl v_one (by simp [Value.oneCell']) (by unfold maxLen; omega) (by omega) (by simp; omega) ?_; intro v' w3 hown' hgrow _; have HO3 := hid hown'; have HB3 := hid (v_snoc HB.out (Nat.le_refl _) HO.out hgrow); clear hown' hgrow)
      go_roundw
      case rel => exact ⟨k + 1, q / 256, by simp, by simp, by omega, by omega, hq2, by have := HO3.out; rw [← hsn.out] at this; exact this, HB3⟩
      case measure => exact measK hgo
    · obtain rfl : k = N := by omega
      have hfin := hid (y_owns HO.out)
      rw [lit_length] at hfin
      go_wp2
      go_ret
      obtain ⟨ao, cap, rfl, hc, hR⟩ := hfin.out
      exact ⟨⟨ao, cap, by rw [lit_length]; rfl, by rw [lit_length]; exact hc, hR⟩, HB.out⟩

/-- The document's text with its length. -/
theorem pad_of (l : List Nat) : l ++ lit l.length 4 = pad l := by rw [lit_four]; rfl

set_option maxRecDepth 100000 in
set_option maxHeartbeats 1000000 in
theorem refPadded_any (o : Option Addr) (c : Nat) (l : List Nat) (hl : l.length ≤ 4096) (w : World) (r : YRow w o l) :
    Calls Try.prog 37 #[.slice o l.length c] w fun e w' => RetY (pad l) e w' ∧ Below w.heap.size w w' := by
  obtain ⟨i0, hi, hz0, hz1, hz2⟩ := infoY infoU8
  have cL := hid (fun w' => little_any l.length 4 (by omega) (by omega) w')
  have hp := hid (pad_of l)
  obtain ⟨n, hn⟩ : ∃ n, n = l.length := ⟨_, rfl⟩
  have HN := hid hn
  have HR := hid r
  rw [← hn] at cL hl hp ⊢
  clear hn r
  have one := hid (yv_one l)
  have one4 := hid (yv_one (lit n 4))
  have hB1 := hid ((Below.refl _ w).alloc (Nat.le_refl _) (.cells #[] 5))
  have HR1 := hid (yb' HR.out hB1.out)
  go_enter Try.func37, Try.ntmps37
  go_wp2_with (first
    | (go_at_call 24; refine (cL.out _).mono ?_; rintro e w3 ⟨⟨bo, cb, rfl, hcb, hr⟩, hB⟩; have HR3 := hid hr; have HB3 := hid hB; have HC3 := hid hcb; have HO3 := hid (v_below HO2.out hB); clear hr hB hcb)
    | (at_builtin; refine wpList_copyV _ rfl _ _ 37 rfl w.heap.size 5 i0 (.int .u8 0) 1 Try.underlying37 hi hz0 hz1 hz2 rfl (by omega) (by omega) w.heap.size rfl (owns_empty w w.heap.size 5 1 (Nat.le_refl _)) o n c (yv l) rfl (by rw [yv_length]; exact HN.out) HR1.out one.out (by omega) (by simp) ?_; intro g cap w2 hO hG hlt; have HO2 := hid hO; have HB2 := hid (hB1.out.grown hG (by simp) (fun j ej => by simp at ej; omega)); clear hO hG hlt)
    | (at_builtin; refine wpList_append_y _ rfl _ _ 37 rfl w.heap.size 5 i0 Try.underlying37 hi hz0 hz1 hz2 g n cap (yv l) rfl HO3.out bo (lit n 4).length cb (lit n 4) rfl rfl HR3.out (by rw [lit_length]; omega) (Nat.le_trans HB2.out.size HB3.out.size) ?_; intro g' cap' w4 hO4 hB4; have HO4 := hid hO4; have HB4 := hid (Below.trans (below_trans HB2.out HB3.out) hB4); clear hO4 hB4))
  go_ret
  have hfin := HO4.out
  rw [← yv_append, hp.out] at hfin
  exact ⟨y_owns hfin |> fun ⟨ao, cc, e1, e2, e3⟩ => ⟨ao, cc, congrArg Ending.returned e1, e2, e3⟩, HB4.out⟩

/-! ### two texts held against each other -/

theorem strOf_len (w : World) (ad : Addr) (l : List Nat) (r : YRow w (some ad) l) : (loadCells ad l.length).run Try.prog w = .ok ((l.map (fun b : Nat => (b : Int))).map (Value.int .u8)).toArray w := by
  have e : (l.map (fun b : Nat => (b : Int))).map (Value.int .u8) = yv l := by simp [yv]
  have := run_loadCells_list (P := Try.prog) w ad ((l.map (fun b : Nat => (b : Int))).map (Value.int .u8)) (fun j v hj => r.2 ad rfl j v (by rw [← e]; exact hj))
  simpa using this

/-- 'string(b)'. -/
theorem run_str (w : World) (o : Option Addr) (c : Nat) (l : List Nat) (r : YRow w o l) : (convert 37 9 (.slice o l.length c)).run Try.prog w = .ok (.string (strOfNums (l.map (fun b : Nat => (b : Int))))) w := by
  rcases o with _ | ad
  · have e : l = [] := by
      have := congrArg List.length (r.1 rfl)
      rw [yv_length] at this
      exact List.length_eq_zero_iff.1 this
    subst e
    rw [run_convert_bytes_nil (P := Try.prog) w 37 5 Try.underlying37 Try.underlying5 _ c 9 Try.underlying9]
    rfl
  · rw [run_convert_bytes_string w 37 9 5 _ _ c Try.underlying37 Try.underlying5 Try.underlying9, run_bytesToString w ad _ c (l.map (fun b : Nat => (b : Int))) (strOf_len w ad l r), foldl_push_bytes]
    simp [strOfNums, ByteArray.empty, ByteArray.emptyWithCapacity]
    rfl

theorem str_inj {a b : List Nat} (ha : Byt a) (hb : Byt b) (h2 : (strOfNums (a.map (fun b : Nat => (b : Int)))).data.toList = (strOfNums (b.map (fun b : Nat => (b : Int)))).data.toList) : a = b := by
  simp only [strOfNums_data] at h2
  have hl : a.length = b.length := by have := congrArg List.length h2; simpa using this
  refine yb_ext hl fun i hi => ?_
  have h3 := congrArg (fun x : List UInt8 => (x[i]?).map UInt8.toNat) h2
  have hi2 : i < b.length := by omega
  have l1 := ha _ (yb_mem hi)
  have l2 := hb _ (yb_mem hi2)
  simp [hi, hi2] at h3
  simp [yb, List.getD, hi, hi2] at l1 l2 ⊢
  omega

end Go.Proofs.Ytpflkihagebmlab.Calls127
