/-
  Package field: a field as it lies in memory; sizes; copies; an element's polynomial, and back.
-/
import Derived.Test.YtjpmkcijkcnfiaaCalls62
import Derived.Test.YtjpmkcijkcnfiaaCalls66
import Derived.Test.YtjpmkcijkcnfiaaCalls75
import Derived.Lib.SliceRun
namespace Go.Proofs.Ytjpmkcijkcnfiaa.Calls77
set_option linter.unusedVariables false
open Go.ChangeShapes Go.WideShapes Go.ChangeAt Go.RowKit Go.Deep Go.Shelf Go.Proofs.Ytjpmkcijkcnfiaa.Base Go.Proofs.Ytjpmkcijkcnfiaa.Base2 Go.Proofs.Ytjpmkcijkcnfiaa.Num Go.Proofs.Ytjpmkcijkcnfiaa.Num16 Go.Proofs.Ytjpmkcijkcnfiaa.Num17 Go.Proofs.Ytjpmkcijkcnfiaa.Num21 Go.Proofs.Ytjpmkcijkcnfiaa.Num23 Go.Proofs.Ytjpmkcijkcnfiaa.Num34 Go.Proofs.Ytjpmkcijkcnfiaa.Num35 Go.Proofs.Ytjpmkcijkcnfiaa.Num36 Go.Proofs.Ytjpmkcijkcnfiaa.Num37 Go.Proofs.Ytjpmkcijkcnfiaa.Num38 Go.Proofs.Ytjpmkcijkcnfiaa.Base4 Go.Proofs.Ytjpmkcijkcnfiaa.Calls56 Go.Proofs.Ytjpmkcijkcnfiaa.Calls57 Go.Proofs.Ytjpmkcijkcnfiaa.Calls58 Go.Proofs.Ytjpmkcijkcnfiaa.Calls61 Go.Proofs.Ytjpmkcijkcnfiaa.Calls66 Go.Proofs.Ytjpmkcijkcnfiaa.Calls75

attribute [local go_sem] Oper.semAt_some

/-- The block that a field lies in. -/
abbrev fx (p : Nat) (fo : Option Addr) (n cf S : Nat) : Obj := .cells #[.int .i64 (p : Int), .slice fo n cf, .int .i64 (S : Int)] 40

/-- A field's own block lies there. -/
def Bf (W : World) (B p : Nat) (fo : Option Addr) (n cf S : Nat) : Prop := BoxC W B 40 #[.int .i64 (p : Int), .slice fo n cf, .int .i64 (S : Int)]

theorem Bf.new (W : World) (p : Nat) (fo : Option Addr) (n cf S : Nat) : Bf (W.alloc (fx p fo n cf S)) W.heap.size p fo n cf S := BoxC.new _ _ _

theorem Bf.c0 {W : World} {B p : Nat} {fo : Option Addr} {n cf S : Nat} (h : Bf W B p fo n cf S) : W.cell? ⟨B, 0, none⟩ = some (.int .i64 (p : Int)) := by rw [BoxC.cell h 0]; rfl

theorem Bf.c1 {W : World} {B p : Nat} {fo : Option Addr} {n cf S : Nat} (h : Bf W B p fo n cf S) : W.cell? ⟨B, 1, none⟩ = some (.slice fo n cf) := by rw [BoxC.cell h 1]; rfl

theorem Bf.c2 {W : World} {B p : Nat} {fo : Option Addr} {n cf S : Nat} (h : Bf W B p fo n cf S) : W.cell? ⟨B, 2, none⟩ = some (.int .i64 (S : Int)) := by rw [BoxC.cell h 2]; rfl

theorem Bf.below {W W' : World} {B p : Nat} {fo : Option Addr} {n cf S m : Nat} (h : Bf W B p fo n cf S) (hb : Below m W W') (hB : B < m) : Bf W' B p fo n cf S := BoxC.below h hb hB

theorem Bf.up {W W' : World} {B p : Nat} {fo : Option Addr} {n cf S : Nat} (h : Bf W B p fo n cf S) (hb : Below W.heap.size W W') : Bf W' B p fo n cf S := BoxC.below h hb (BoxC.lt h)

set_option maxRecDepth 100000 in
theorem sizeOf_any (p : Nat) (hp1 : 2 ≤ p) (hp : p ≤ 251) (d : Nat) (hd : d ≤ 4096) (w : World) :
    Calls Try.prog 36 #[.int .i64 (p : Int), .int .i64 (d : Int)] w fun e w' => e = .returned (.int .i64 (szf p d : Int)) ∧ w' = w := by
  have hbd := hid (szf_bd (p := p) (by omega) hp)
  have hnx := hid (szf_next p)
  have h0 : Hid (szf p 0 = 1) := rfl
  obtain ⟨F, hF⟩ : ∃ F, F = szf p := ⟨_, rfl⟩
  rw [← hF] at hbd hnx h0 ⊢
  clear hF
  go_enter Try.func36, Try.ntmps36
  go_wp2
  go_loop [5, 7] (fun s i => ∃ k u : Nat, s = .int .i64 (u : Int) ∧ i = .int .i64 (k : Int) ∧ k ≤ d ∧ Hid (u = F k)) (fun s i => ((d : Int) - intOf i).toNat)
  case atStart => exact ⟨0, 1, rfl, rfl, by omega, h0.out.symm⟩
  case round =>
    obtain ⟨k, u, rfl, rfl, hk, hU⟩ := hrel
    by_cases hgo : k < d
    · have hgo' : (k : Int) < (d : Int) := by omega
      have hb := hbd.out k
      have s2 := hid (hnx.out k)
      rw [← hU.out] at hb s2
      by_cases hbig : u ≤ 4096
      · have hbig' : (u : Int) ≤ 4096 := by omega
        have hup : (u : Int) * (p : Int) = ((u * p : Nat) : Int) := by simp
        have h3 : u * p ≤ 4096 * 251 := Nat.mul_le_mul hbig hp
        have s3 : Hid (F (k + 1) = u * p) := by show _ = _; rw [s2.out, if_pos hbig]
        obtain ⟨u2, hu2⟩ : ∃ u2, u2 = u * p := ⟨_, rfl⟩
        rw [← hu2] at hup h3 s3
        clear hu2 hbig s2
        go_wp2
        go_round
        case rel => exact ⟨k + 1, u2, rfl, by simp, by omega, s3.out.symm⟩
        case measure => exact measK hgo
      · have hbig' : decide ((u : Int) ≤ 4096) = false := by simp; omega
        have s3 : Hid (F (k + 1) = u) := by show _ = _; rw [s2.out, if_neg hbig]
        clear hbig s2
        go_wp2
        go_round
        case rel => exact ⟨k + 1, u, rfl, by simp, by omega, s3.out.symm⟩
        case measure => exact measK hgo
    · have hgo' : ¬ (k : Int) < (d : Int) := by omega
      obtain rfl : k = d := by omega
      go_wp2
      go_ret
      exact ⟨by rw [hU.out]; rfl, rfl⟩

/-- A copy that is the call's own. -/
def CopyR (a : List Int) (base : Nat) (e : Ending) (w' : World) : Prop := ∃ g cg, e = .returned (.slice (some ⟨g, 0, none⟩) a.length cg) ∧ Own1 w' base g a.length cg (co a)

theorem Clone_some (ad : Addr) (ca : Nat) (a : List Int) (hla : a.length ≤ 4096) (w : World) (ra : IRow w (some ad) a) :
    Calls Try.prog 60 #[.slice (some ad) a.length ca] w fun e w' => CopyR a w.heap.size e w' ∧ Below w.heap.size w w' := by
  obtain ⟨i0, hi, hz0, hz1, hz2⟩ := info_ex
  obtain ⟨na, hna⟩ : ∃ na, na = a.length := ⟨_, rfl⟩
  have HNA : Hid (na = a.length) := hna
  rw [← hna] at hla
  have RA := hid (irow_below ra ((Below.refl _ w).alloc (Nat.le_refl _) (.cells #[] 2)) (Nat.le_refl _))
  have own0 := hid (owns_empty w w.heap.size 2 1 (Nat.le_refl _))
  have hB0 : Hid (Below w.heap.size w (w.alloc (.cells #[] 2))) := (Below.refl _ w).alloc (Nat.le_refl _) _
  unfold CopyR
  rw [← hna]
  clear hna ra
  have qT : ∀ (w : World) (a : Option Addr) (n c n' c' : Nat), (binOp .eql 22 (.slice a n c) (.slice none n' c')).run Try.prog w = .ok (.bool a.isNone) w := fun w a n c n' c' => Lib.run_eql_slice_nil w _ _ a n c n' c' Try.underlying22
  go_enter Try.func60, Try.ntmps60
  go_wp2_with (at_builtin; refine wpList_copy _ rfl _ _ 22 rfl w.heap.size 2 i0 Try.underlying22 hi hz0 hz1 hz2 w.heap.size rfl own0.out (some ad) na ca a rfl HNA.out RA.out (by omega) (by simp) ?_; intro g cg w1 hown1 hgrow1 hg1; have hB1 : Hid (Below w.heap.size w w1) := hB0.out.trans (below_grown own0.out hgrow1 (Nat.le_refl _) (by simp)); have O1 := hid (own1_of hown1); clear hown1 hgrow1)
  go_ret
  exact ⟨⟨g, cg, rfl, O1.out⟩, hB1.out⟩

theorem Clone_nil (ca : Nat) (w : World) :
    Calls Try.prog 60 #[.slice none 0 ca] w fun e w' => e = .returned (.slice none 0 0) ∧ w' = w := by
  have qT : ∀ (w : World) (a : Option Addr) (n c n' c' : Nat), (binOp .eql 22 (.slice a n c) (.slice none n' c')).run Try.prog w = .ok (.bool a.isNone) w := fun w a n c n' c' => Lib.run_eql_slice_nil w _ _ a n c n' c' Try.underlying22
  go_enter Try.func60, Try.ntmps60
  go_wp2
  go_ret
  exact ⟨rfl, rfl⟩

theorem Clone_any (ao : Option Addr) (ca : Nat) (a : List Int) (hla : a.length ≤ 4096) (w : World) (ra : IRow w ao a) :
    Calls Try.prog 60 #[.slice ao a.length ca] w fun e w' => RetL a e w' ∧ Below w.heap.size w w' := by
  rcases ao with _ | ad
  · obtain rfl : a = [] := ra.1 rfl
    exact (Clone_nil ca w).mono (fun e w' ⟨he, hw⟩ => ⟨⟨none, 0, he, by simp, irow_nil _ _⟩, by rw [hw]; exact Below.refl _ _⟩)
  · exact (Clone_some ad ca a hla w ra).mono (fun e w' ⟨⟨g, cg, he, hO⟩, hB⟩ => ⟨⟨_, cg, he, hO.cap_le, by have := hO.row; rwa [mk_of] at this⟩, hB⟩)

set_option maxRecDepth 100000 in
theorem polynomial_any (p : Nat) (hp1 : 2 ≤ p) (hp : p ≤ 251) (fo : Option Addr) (n cf S : Nat) (a : Nat) (ha : a < 1048576) (w : World) :
    Calls Try.prog 40 #[.agg #[.int .i64 (p : Int), .slice fo n cf, .int .i64 (S : Int)], .int .i64 (a : Int)] w fun e w' => RetL (dig p a) e w' ∧ Below w.heap.size w w' := by
  obtain ⟨i0, hi, hz0, hz1, hz2⟩ := info_ex
  have hp0 : ¬ (p : Int) = 0 := by omega
  have hp00 : ¬ p = 0 := by omega
  have hdone : Hid (∀ k, a / p ^ k = 0 → (k = 0 ∨ a / p ^ (k - 1) ≠ 0) → mk k (dgf p a) = dig p a) := fun k h0 hl => dig_done hp1 ha h0 hl
  have hfew : Hid (∀ k, (k = 0 ∨ a / p ^ (k - 1) ≠ 0) → k ≤ 20) := fun k h => dgf_few hp1 ha h
  have hq0 : Hid (a = a / p ^ 0) := by show _ = _; simp
  have hdiv : Hid (∀ k, a / p ^ k / p = a / p ^ (k + 1)) := fun k => div_next p a k
  generalize dig p a = D at *
  generalize hF : dgf p a = F at *
  have HF : Hid (∀ k q, q = a / p ^ k → (q : Int) % (p : Int) = F k) := fun k q h => by rw [← hF]; exact dgf_int p a k q h
  clear hF
  have hX0 := hid (Bf.new w p fo n cf S)
  have hBw : Hid (Below w.heap.size w (w.alloc (fx p fo n cf S))) := (Below.refl _ w).alloc (Nat.le_refl _) _
  go_enter Try.func40, Try.ntmps40
  go_wp2
  obtain ⟨W0, hW0⟩ : ∃ W0, w.alloc (fx p fo n cf S) = W0 := ⟨_, rfl⟩
  rw [hW0] at hX0 hBw ⊢
  clear hW0
  have hlt : w.heap.size < W0.heap.size := BoxC.lt hX0.out
  go_loopw [1, 5] (fun i v wr => ∃ k q : Nat, i = .int .i64 (q : Int) ∧ q < 1048576 ∧ Hid (q = a / p ^ k) ∧ Hid (k = 0 ∨ a / p ^ (k - 1) ≠ 0) ∧ Hid (wr.ownsRow W0.heap.size 2 1 v k (ivals (mk k F))) ∧ Hid (Below W0.heap.size W0 wr)) (fun i v wr => (intOf i).toNat)
  case atStart => exact ⟨0, a, rfl, ha, hq0, .inl rfl, World.ownsRow_nil _ _ _ _, Below.refl _ _⟩
  case round =>
    obtain ⟨k, q, rfl, hq, hQ, hK, hown, hB⟩ := hrel
    have hk := hfew.out k hK.out
    by_cases hgo : q = 0
    · subst hgo
      obtain ⟨vo, vc, rfl, hcap, hr⟩ := irow_owns hown.out
      have e : Hid (mk k F = D) := hdone.out k hQ.out.symm hK.out
      rw [e.out] at hr hcap ⊢
      have HR := hid hr
      clear hr
      go_wp2
      go_ret
      exact ⟨⟨vo, vc, rfl, hcap, HR.out⟩, below_trans hBw.out hB.out⟩
    · have hgo' : 0 < (q : Int) := by omega
      have hsn : Hid (ivals (mk (k + 1) F) = ivals (mk k F) ++ [.int .i64 ((q : Int) % (p : Int))]) := by show _ = _; rw [mk_succ, ivals_snoc, HF.out k q hQ.out]
      have hQ2 : Hid (q / p = a / p ^ (k + 1)) := by show _ = _; rw [hQ.out]; exact hdiv.out k
      have hK2 : Hid (k + 1 = 0 ∨ a / p ^ (k + 1 - 1) ≠ 0) := .inr (by rw [Nat.add_sub_cancel, ← hQ.out]; exact hgo)
      have hq2 : q / p < 1048576 := Nat.lt_of_le_of_lt (Nat.div_le_self q p) hq
      have hq1 : 1 ≤ q := by omega
      have hBs := hB.out.size
      have hd1 : (0 : Int) ≤ (q : Int) / (p : Int) ∧ (q : Int) / (p : Int) ≤ 1048576 := div_bds q p hq
      have hd2 : (0 : Int) ≤ (q : Int) % (p : Int) ∧ (q : Int) % (p : Int) ≤ 1048576 := mod_bds q p hp1 hp
      have hd3 := hd1.1
      have hd4 := hd1.2
      have hd5 := hd2.1
      have hd6 := hd2.2
      clear hd1 hd2
      have cc := (hX0.out.below hB.out hlt).c0
      go_wp2_with (at_builtin; refine wpList_append_own _ rfl _ _ 22 rfl W0.heap.size 2 i0 (.int .i64 0) 1 8 Try.underlying22 hi hz0 hz1 hz2 rfl (by decide) _ _ _ rfl (hown.out.alloc _) ⟨wr.heap.size, 0, none⟩ 1 1 [.int .i64 ((q : Int) % (p : Int))] rfl rfl one_cell (by simp [Value.oneCell']) (by unfold maxLen; omega) (by omega) (by simp; omega) ?_; intro v' w1 hown' hgrow _; have hB1 := hid (owns_grown_below hB.out rfl hown.out hgrow); have cc1 := (hX0.out.below hB1.out hlt).c0)
      go_roundw
      case rel => exact ⟨k + 1, q / p, by simp, hq2, hQ2, hK2, by rw [hsn.out]; exact hown', hB1⟩
      case measure => exact measD hq1 hp1

/-! ### back to the number -/

theorem nb_le {p : Nat} (hp : 2 ≤ p) : ∀ l : List Int, (∀ x ∈ l, 0 ≤ x ∧ x < 251) → nb p l + 250 ≤ 250 * p ^ l.length
  | [], _ => by simp [nb]
  | c :: l, h => by
    have ih := nb_le hp l (fun x hx => h x (List.mem_cons_of_mem _ hx))
    have hc := h c (List.mem_cons_self ..)
    show c.toNat + p * nb p l + 250 ≤ 250 * p ^ (l.length + 1)
    have h1 : p * (nb p l + 250) ≤ p * (250 * p ^ l.length) := Nat.mul_le_mul_left _ ih
    have e1 : p * (nb p l + 250) = p * nb p l + 250 * p := by rw [Nat.mul_add, Nat.mul_comm p 250]
    have e2 : p * (250 * p ^ l.length) = 250 * p ^ (l.length + 1) := by rw [Nat.pow_succ, Nat.mul_left_comm, Nat.mul_comm p]
    rw [e1, e2] at h1
    have : c.toNat ≤ 250 := by omega
    omega

def bn (p : Nat) (l : List NK) : Nat := nb p (nvals l).reverse

theorem bn_snoc (p : Nat) (l : List NK) (y : NK) : (bn p (l ++ [y]) : Int) = (bn p l : Int) * (p : Int) + y.1.2 := by
  unfold bn
  rw [nvals_snoc, List.reverse_append]
  show ((y.1.2.toNat + p * nb p (nvals l).reverse : Nat) : Int) = _
  have := y.2.1
  rw [Int.natCast_add, Int.natCast_mul, Int.toNat_of_nonneg this, Int.mul_comm]
  omega

theorem bn_bd {p : Nat} (hp : 2 ≤ p) (l : List NK) {N : Nat} (h : l.length ≤ N) (hN : p ^ N ≤ 1048576) : bn p l ≤ 262144000 := by
  have h1 := nb_le hp (nvals l).reverse (fun x hx => by
    have hx2 := List.mem_reverse.1 hx
    obtain ⟨y, _, rfl⟩ := List.mem_map.1 hx2
    exact y.2)
  have h2 : (nvals l).reverse.length = l.length := by simp [nvals]
  rw [h2] at h1
  have h3 : p ^ l.length ≤ p ^ N := Nat.pow_le_pow_right (by omega) h
  unfold bn
  omega

set_option maxRecDepth 100000 in
set_option maxHeartbeats 2000000 in
theorem element_any (p : Nat) (hp1 : 2 ≤ p) (hp : p ≤ 251) (fo : Option Addr) (n cf S : Nat) (ao : Option Addr) (ca : Nat) (a : List Int) (ha : Bd p a) (hs : p ^ a.length ≤ 1048576) (hla : a.length ≤ 4096) (w : World) (ra : IRow w ao a) :
    Calls Try.prog 41 #[.agg #[.int .i64 (p : Int), .slice fo n cf, .int .i64 (S : Int)], .slice ao a.length ca] w fun e w' => e = .returned (.int .i64 (nb p a : Int)) ∧ Below w.heap.size w w' := by
  have hb251 : Bd 251 a := fun y hy => by have := ha y hy; omega
  have hX0 := hid (Bf.new w p fo n cf S)
  have hBw : Hid (Below w.heap.size w (w.alloc (fx p fo n cf S))) := (Below.refl _ w).alloc (Nat.le_refl _) _
  have RA := hid (irow_below ra hBw.out (Nat.le_refl _))
  have hz1 : (w.alloc (fx p fo n cf S)).heap.size = w.heap.size + 1 := by simp
  have cS := fun (W0 : World) (hB : Below (w.alloc (fx p fo n cf S)).heap.size (w.alloc (fx p fo n cf S)) W0) (Bn : Nat) (hBn : Bn < W0.heap.size) hc => backward_stops Fence.wide 2 trivial rfl (by omega) Bn ca ao a hb251 hla (w.alloc (fx p fo n cf S)) RA.out W0 hB hBn hc
  have HD : Hid (∀ ys, nvals ys = a.reverse → (bn p ys : Int) = (nb p a : Int)) := fun ys h => by
    unfold bn
    rw [h, List.reverse_reverse]
  have HB : Hid (∀ l : List NK, l.length ≤ a.length → bn p l ≤ 262144000) := fun l h => bn_bd hp1 l h hs
  obtain ⟨N, hN⟩ : ∃ N, N = a.length := ⟨_, rfl⟩
  rw [← hN] at HB
  simp only [← hN] at cS ⊢
  generalize nb p a = rr at *
  clear hN ha hb251 hla ra hs RA
  refine (callsIn_wide (n := 3)).1 ?_
  refine callsIn_of_wp_marks Try.func41 rfl trivial ?_ rfl
  simp only [Try.ntmps41, List.size_toArray, List.length_cons, List.length_nil, Nat.reduceAdd, Nat.reduceSub, Array.replicate_succ, Array.replicate_zero, List.push_toArray, List.append_toArray, List.nil_append, List.cons_append]
  gi_wp2_with (refine ⟨trivial, ?_⟩; gi_at_call 58; refine (backward_in Fence.wide _ trivial rfl _ _ _ _).mono ?_; rintro e w' ⟨rfl, rfl⟩)
  obtain ⟨W1, hW1⟩ : ∃ W1, w.alloc (fx p fo n cf S) = W1 := ⟨_, rfl⟩
  obtain ⟨B, hBe⟩ : ∃ B, w.heap.size = B := ⟨_, rfl⟩
  rw [hW1] at hX0 hBw hz1 ⊢
  simp only [hW1] at cS
  rw [hBe] at hX0 hz1 ⊢
  have HW := hid hBw.out
  have b1 := (Boxed.new W1 2 (.int .i64 0)).alloc (.cells #[.slice ao N ca] 22)
  have b2 := Boxed.new (W1.alloc (.cells #[.int .i64 0] 2)) 22 (.slice ao N ca)
  simp only [World.size_alloc, hz1] at b1 b2
  have hB0 : Below W1.heap.size W1 ((W1.alloc (.cells #[.int .i64 0] 2)).alloc (.cells #[.slice ao N ca] 22)) := ((Below.refl _ W1).alloc (Nat.le_refl _) _).alloc (by simp) _
  have hsz : ((W1.alloc (.cells #[.int .i64 0] 2)).alloc (.cells #[.slice ao N ca] 22)).heap.size = B + 3 := by simp; omega
  obtain ⟨W0, hW0⟩ : ∃ W0, (W1.alloc (.cells #[.int .i64 0] 2)).alloc (.cells #[.slice ao N ca] 22) = W0 := ⟨_, rfl⟩
  rw [hW0] at b1 b2 hB0 hsz ⊢
  clear hW0
  refine wpIn_rangeFunc_ownF rfl (by omega) (gf := 70) (lb := #[.pointer (some ⟨B + 1 + 1, 0, none⟩)]) rfl trivial (enters_of Try.func70 (by kernel_rfl) rfl)
    (cS W0 hB0 (B + 1 + 1) (by omega) b2.cell) keepB_t (keepB_b (by omega)) (Below.refl _ _) (fun _ => rfl)
    (fun pre W => (Boxed W (B + 1) 2 (.int .i64 (bn p pre : Int))) ∧ Below W1.heap.size W1 W)
    (fun _ _ _ => False)
    (OwnFrom.and (Own.from (boxed_own _ _ _) _) (ownFrom_below (Nat.le_refl _) (by omega)))
    (fun _ _ _ _ _ hs _ _ => hs)
    ⟨b1, hB0⟩
    (fun y => { tmps := #[.agg #[.int .i64 (p : Int), .slice fo n cf, .int .i64 (S : Int)], .slice ao N ca, .pointer (some ⟨B, 0, none⟩), undef, .int .i64 0, .pointer (some ⟨B + 1, 0, none⟩), undef, .int .i64 y.1.2, .slice ao N ca, .func (.func 70) #[] #[.pointer (some ⟨B + 1 + 1, 0, none⟩)], .int .i64 (y.1.1 : Int), .int .i64 y.1.2, undef, undef, undef, undef, undef, undef, undef], defers := [] })
    ?assign ?body ?done ?stop
  case assign =>
    intro l y W K hK
    gi_wp2
    exact hK
  case body =>
    rintro l pre y W ⟨c1, hB1⟩ hpre
    have d0 := (hX0.out.below hB1 (by omega)).c0
    have d1 := c1.cell
    have f1 := c1.frozen
    have hs := bn_snoc p pre y
    have hv := HB.out pre (by omega)
    obtain ⟨v, hv0⟩ : ∃ v, v = bn p pre := ⟨_, rfl⟩
    rw [← hv0] at d1 c1 hs hv
    obtain ⟨yy, hyy⟩ : ∃ yy, yy = y.1.2 := ⟨_, rfl⟩
    have hyb : 0 ≤ yy ∧ yy < 251 := by rw [hyy]; exact y.2
    obtain ⟨yi, hyi⟩ : ∃ yi, yi = (y.1.1 : Int) := ⟨_, rfl⟩
    rw [← hyy] at hs
    rw [← hyy, ← hyi]
    have hm : (0 : Int) ≤ (v : Int) * (p : Int) ∧ (v : Int) * (p : Int) ≤ 65798144000 := by
      have h3 : v * p ≤ 262144000 * 251 := Nat.mul_le_mul hv hp
      have h4 : (v : Int) * (p : Int) = ((v * p : Nat) : Int) := by simp
      rw [h4]; omega
    obtain ⟨v2, hv2⟩ : ∃ v2, v2 = bn p (pre ++ [y]) := ⟨_, rfl⟩
    rw [← hv2] at hs
    have HV2 := hid hv2
    have HS := hid hs
    clear hv hv0 hs hyy hyi hv2
    gi_wp2
    have k2 := c1.set (.int .i64 (v2 : Int))
    rw [HS.out] at k2
    refine ⟨KeepsOthers.setCell _ _ _, ⟨(Below.refl W1.heap.size W).setCell (p := ⟨B + 1, 0, none⟩) (by simp; omega) _, fun u hu => ?_⟩, by rw [← HV2.out, HS.out]; exact k2, hB1.setCell (p := ⟨B + 1, 0, none⟩) (by simp; omega) _⟩
    rw [World.cell?_setCell_other]
    · exact hu
    · intro e
      have h2 : B + 1 = B + 1 + 1 := congrArg Addr.block e
      omega
  case done =>
    rintro D ys W hD hF ⟨c1, hB1⟩ hK
    have d1 := c1.cell
    rw [HD.out ys hF] at d1
    gi_wp2
    refine ⟨by simp, .inl ⟨_, _, rfl, run_takeDeferred hK, ?_⟩⟩
    refine ⟨_, results_tmp rfl _ _ _, rfl, below_trans HW.out (hB1.trans (belowK_b (w := W1) (Nat.le_refl _) W D _ _ (by omega) hK rfl rfl))⟩
  case stop =>
    rintro D c pre W _ _ h _
    exact h.elim

end Go.Proofs.Ytjpmkcijkcnfiaa.Calls77
