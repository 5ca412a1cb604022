/-
  The document's side of what a text asks.
-/
import Derived.Test.YtpflkihagebmlabCalls168
import Derived.Deep.RegionHeld3
import Derived.Deep.AppendLies
namespace Go.Proofs.Ytpflkihagebmlab.Calls173
set_option linter.unusedVariables false
open Go.ChangeShapes Go.WideShapes Go.ChangeAt Go.RowKit Go.Deep Go.Proofs.Ytpflkihagebmlab.Base Go.Proofs.Ytpflkihagebmlab.Base2 Go.Proofs.Ytpflkihagebmlab.Base7 Go.Proofs.Ytpflkihagebmlab.Base8 Go.Proofs.Ytpflkihagebmlab.Num Go.Proofs.Ytpflkihagebmlab.Num55 Go.Proofs.Ytpflkihagebmlab.Calls126 Go.Proofs.Ytpflkihagebmlab.Calls127 Go.Proofs.Ytpflkihagebmlab.Calls128 Go.Proofs.Ytpflkihagebmlab.Calls168
open Go.Proofs.Ytpflkihagebmlab.Calls157 (Gb Gb.new Gb.alloc Gb.drew Gb.below Gb.cells)

set_option maxRecDepth 100000 in
set_option maxHeartbeats 1000000 in
/-- A number as bytes, in a row of the call's own. -/
theorem little_own (n N : Nat) (hn : n < 4294967296) (hN : N ≤ 8) (w : World) :
    Calls Try.prog 24 #[.int .i64 (n : Int), .int .i64 (N : Int)] w fun e w' => (∃ v, e = .returned v ∧ w'.ownsRow w.heap.size 5 1 v N (yv (lit n N))) ∧ Below w.heap.size w w' := by
  obtain ⟨i0, hi, hz0, hz1, hz2⟩ := infoY infoU8
  go_enter Try.func24, Try.ntmps24
  go_wp2
  go_loopw [0, 5, 6] (fun m v i wr => ∃ k q : Nat, m = .int .i64 (q : Int) ∧ i = .int .i64 (k : Int) ∧ k ≤ N ∧ q < 4294967296 ∧ Hid (q = n / 256 ^ k) ∧ Hid (wr.ownsRow w.heap.size 5 1 v k (yv (lit n k))) ∧ Hid (Below w.heap.size w wr)) (fun m v i wr => ((N : Int) - intOf i).toNat)
  case atStart => exact ⟨0, n, rfl, rfl, by omega, hn, by show n = _; simp, World.ownsRow_nil _ _ _ _, Below.refl _ _⟩
  case round =>
    obtain ⟨k, q, rfl, rfl, hk, hq, HQ, HO, HB⟩ := hrel
    by_cases hgo : k < N
    · have hgo' : (k : Int) < (N : Int) := by omega
      have hsn : Hid (yv (lit n (k + 1)) = yv (lit n k) ++ [.int .u8 ((q : Int) % 256)]) := by
        show _ = _
        rw [yv_lit, ← HQ.out]; simp
      have hq2 : Hid (q / 256 = n / 256 ^ (k + 1)) := by
        show _ = _
        rw [HQ.out, Nat.div_div_eq_div_mul, Nat.pow_succ]
      have hBs := HB.out.size
      have t1 : ((q : Int)).tmod 256 = (q : Int) % 256 := Int.tmod_eq_emod_of_nonneg (by omega)
      clear HQ
      go_wp2_with (at_builtin; refine wpList_append_own _ rfl _ _ 37 rfl w.heap.size 5 i0 (.int .u8 0) 1 1 Try.underlying37 hi hz0 hz1 hz2 rfl (by decide) _ _ _ rfl (HO.out.alloc _) ⟨wr.heap.size, 0, none⟩ 1 1 [.int .u8 ((q : Int) % 256)] rfl rfl v_one (by simp [Value.oneCell']) (by unfold maxLen; omega) (by omega) (by simp; omega) ?_; intro v' w3 hown' hgrow _; have HO3 := hid hown'; have HB3 := hid (v_snoc HB.out (Nat.le_refl _) HO.out hgrow); clear hown' hgrow)
      go_roundw
      case rel => exact ⟨k + 1, q / 256, by simp, by simp, by omega, by omega, hq2, by have := HO3.out; rw [← hsn.out] at this; exact this, HB3⟩
      case measure => exact measK hgo
    · obtain rfl : k = N := by omega
      go_wp2
      go_ret
      exact ⟨⟨_, rfl, HO.out⟩, HB.out⟩

theorem step_append_y {P : Program} (w : World) {ops : Array Oper} {o : Oper} {a : Act} {K : Act → World → Prop} {Q : Exit → Act → World → Prop} {E : Prop} (hgd : o.guard = none) (s x : Operand) (t : TypeId)
    (ho : o.op = .call { callee := .builtin .append, args := #[s, x], argTypes := #[t, t] })
    (base : Nat) (e : TypeId) (i : TypeInfo) (ht : P.underlying t = some (.slice e)) (hi : P.info? e = some i) (hz : i.zero = some (.int .u8 0)) (hsize : i.size = 1) (hby : i.bytes = 1)
    (g n cap : Nat) (xs : List Value) (hs : a.eval s = .slice (some ⟨g, 0, none⟩) n cap) (hown : w.ownsRow base e 1 (.slice (some ⟨g, 0, none⟩) n cap) n xs)
    (ao : Option Addr) (m c : Nat) (l : List Nat) (hx : a.eval x = .slice ao m c) (hm : m = l.length) (hrow : YRow w ao l) (h63 : n + m ≤ 8192) (hbase : base ≤ w.heap.size)
    (h : ∀ g cap w', w'.ownsRow base e 1 (.slice (some ⟨g, 0, none⟩) (n + m) cap) (n + m) (xs ++ yv l) → Below base w w' → K (a.put o.dst (.slice (some ⟨g, 0, none⟩) (n + m) cap)) w') :
    if Region.wanted o (yielded ops a.tmps) = true then Oper.wp P o a w K Q else E := by
  subst hm
  have hw : Region.wanted o (yielded ops a.tmps) = true := by simp [Region.wanted, hgd]
  have hcap : n ≤ cap := by
    rcases hown.2 with ⟨h', _⟩ | ⟨g', cap', cur, h', _, hg, hnc, _⟩
    · simp at h'
    · simp only [Value.slice.injEq, Option.some.injEq, Addr.mk.injEq, and_true, true_and] at h'
      obtain ⟨rfl, rfl⟩ := h'
      exact hnc
  by_cases h0 : l.length = 0
  · have el : l = [] := List.length_eq_zero_iff.1 h0
    subst el
    rw [if_pos hw]
    rcases ao with _ | ad
    · have hr := run_append_nothing (P := P) w t o.type e i ht hi g n cap c hcap
      have hx' : a.eval x = .slice none 0 c := hx
      unfold Oper.wp execOp
      simp only [ho, resolve, invoke, builtin, Sem.run_bind, Sem.run_pure, Result.andThen_ok, List.map_toArray, List.map_cons, List.map_nil, hs, hx', hr]
      exact h g cap w (by simpa [yv] using hown) (Below.refl _ _)
    · obtain ⟨w', hr, r1, r2⟩ := run_append_fits (P := P) w base t o.type e i 1 ht hi hsize g n cap xs hown ad 0 c [] (by simp) (fun j u hj => by simp at hj) (by simp) (by omega)
      have hx' : a.eval x = .slice (some ad) 0 c := hx
      unfold Oper.wp execOp
      simp only [ho, resolve, invoke, builtin, Sem.run_bind, Sem.run_pure, Result.andThen_ok, List.map_toArray, List.map_cons, List.map_nil, hs, hx', hr]
      exact h g cap w' (by simpa [yv] using r1) (below_grown hown r2 (Nat.le_refl _) hbase)
  · rcases ao with _ | ad
    · exact absurd (by have := congrArg List.length (hrow.1 rfl); rw [yv_length] at this; exact this) h0
    · refine step_append_own0 w hgd s x t ho base e i (.int .u8 0) 1 1 ht hi hz hsize hby rfl (by decide) (.slice (some ⟨g, 0, none⟩) n cap) n xs hs hown ad l.length c (yv l) hx (by rw [yv_length]; omega) (hrow.2 ad rfl) (yv_one l) (by omega) (by unfold maxLen; omega) (by omega) hbase ?_
      intro g' cap' w' h1 h2 h3 h4
      exact h g' cap' w' h1 (below_grown hown h2 (Nat.le_refl _) hbase)

theorem gb_below {w wr w' : World} {P Q G H : Int} (h : Gb w wr P Q G H) (hb : Below (w.heap.size + 1) wr w') : Gb w w' P Q G H := ⟨(hb.block _ (by omega)).trans h.1, h.2.trans (hb.mono (by omega))⟩

theorem gb_lt {w wr : World} {P Q G H : Int} (h : Gb w wr P Q G H) : w.heap.size + 1 ≤ wr.heap.size := h.1.lt

theorem owns_base {W : World} {base base' : Nat} {e : TypeId} {size : Nat} {v : Value} {n : Nat} {xs : List Value} (h : W.ownsRow base e size v n xs) (hb : base' ≤ base) : W.ownsRow base' e size v n xs := by
  refine ⟨h.1, ?_⟩
  rcases h.2 with h' | ⟨g, cap, cur, e1, e2, rest⟩
  · exact .inl h'
  · exact .inr ⟨g, cap, cur, e1, Nat.le_trans hb e2, rest⟩

set_option maxRecDepth 100000 in
set_option maxHeartbeats 4000000 in
theorem textAsks_any (P Q G H : Nat) (f x : Nat) (hf : f ≤ 1048576) (hx : x ≤ 1048576) (hQ : 1 ≤ Q) (hQ2 : Q ≤ 1048576) (o : Option Addr) (c : Nat) (l : List Nat) (hl : l.length ≤ 4088) (hb : Byt l) (w : World) (r : YRow w o l) :
    Calls Try.prog 15 #[.agg #[.int .i64 (P : Int), .int .i64 (Q : Int), .int .i64 (G : Int), .int .i64 (H : Int)], .int .i64 (x : Int), .int .i64 (f : Int), .slice o l.length c] w fun e w' => e = .returned (.int .i64 (sum (said f x l) % Q : Nat)) ∧ Below w.heap.size w w' := by
  obtain ⟨i0, hi, hz0, hz1, hz2⟩ := infoY infoU8
  have cF := hid (fun w => little_own f 4 (by omega) (by omega) w)
  have cX := hid (fun w => little_own x 4 (by omega) (by omega) w)
  have K := hid (Gb.new w (P : Int) (Q : Int) (G : Int) (H : Int))
  have hlen := said_length f x l
  have hby := said_byt (f := f) (x := x) hb
  have cS := hid (fun (o' : Option Addr) (c' : Nat) (w' : World) (r' : YRow w' o' (said f x l)) => refSum_any o' c' (said f x l) (by omega) hby w' r')
  have hs1 := sum_lt (said f x l)
  obtain ⟨n, hn⟩ : ∃ n, n = l.length := ⟨_, rfl⟩
  have HN := hid hn
  have R := hid r
  have hSl : Hid (yv (said f x l) = (yv (lit f 4) ++ yv (lit x 4)) ++ yv l) := by show _ = _; unfold said; rw [yv_append, yv_append, lit_four, lit_four]
  generalize said f x l = L at *
  rw [hlen] at cS
  rw [← hn] at hl cS ⊢
  have n0 : ¬ (Q : Int) = 0 := by omega
  have n1 : ¬ Q = 0 := by omega
  generalize sum L = S at *
  have E2 := hid (show ((S : Int)).tmod (Q : Int) = ((S % Q : Nat) : Int) by rw [← Int.ofNat_tmod])
  have E3 := hid (show ((S : Int)) % (Q : Int) = ((S % Q : Nat) : Int) by rw [← Int.natCast_emod])
  clear hn r hlen hby hb
  go_enter Try.func15, Try.ntmps15
  go_wp2_with (first
    | (go_at_call 24; refine (cF.out _).mono ?_; clear cF; rintro e w1 ⟨⟨v, rfl, hO⟩, hB1⟩; have hO1 := owns_base (base' := w.heap.size + 1) hO (gb_lt K.out); obtain ⟨g1, p1, rfl, _, _⟩ := World.ownsRow.form hO1 (by omega); have HO1 := hid hO1; have K1 := hid (K.out.below hB1); clear hB1 hO hO1)
    | (go_at_call 24; refine (cX.out _).mono ?_; clear cX; rintro e w2 ⟨⟨v, rfl, hO⟩, hB2⟩; have HO2 := hid (v_below HO1.out hB2); obtain ⟨g2, p2, rfl, _, _⟩ := World.ownsRow.form hO (by omega); have HR2 := hid (own_row hO); have K2 := hid (K1.out.below hB2); clear hB2 hO)
    | (at_builtin; refine wpList_append_y _ rfl _ _ 37 rfl (w.heap.size + 1) 5 i0 Try.underlying37 hi hz0 hz1 hz2 g1 4 p1 _ rfl HO2.out (some ⟨g2, 0, none⟩) 4 p2 (lit x 4) rfl (lit_length x 4).symm HR2.out (by omega) (gb_lt K2.out) ?_; intro g3 p3 w3 hown hB3; have HO3 := hid hown; have K3 := hid (gb_below K2.out hB3); clear hown hB3; obtain ⟨c0, c1, c2, c3⟩ := K3.out.cells))
  go_region_held3 (fun w' => w'.cell? ⟨w.heap.size, 1, none⟩ = some (.int .i64 (Q : Int))) (first | exact c1 | exact f1 | exact h1)
    (first
      | (go_at_call 25; refine (cS.out _ _ _ R4.out).mono ?_; rintro e w5 ⟨rfl, hB5⟩; have K5 := hid (K4.out.below hB5); obtain ⟨h0, h1, h2, h3⟩ := K5.out.cells; clear hB5)
      | (refine step_append_y _ (by rfl) _ _ _ (by rfl) (w.heap.size + 1) 5 i0 Try.underlying37 hi hz0 hz1 hz2 g3 8 p3 _ (by rfl) HO3.out o n c l (by rfl) HN.out (yb' R.out K3.out.drew.2) (by omega) (by exact gb_lt K3.out.drew) ?_; intro g4 p4 w4 hown hB4; have K4 := hid (gb_below K3.out.drew hB4); obtain ⟨f0, f1, f2, f3⟩ := K4.out.cells; have R4 := hid (own_row (l := L) (by rw [hSl.out]; exact hown)); clear hown hB4))
  all_goals
    go_wp2
    go_ret
    exact ⟨by first | rfl | (rw [E3.out]; rfl) | (rw [E2.out]; rfl) | exact ret_int E2.out | exact ret_int E3.out, K5.out.2⟩

end Go.Proofs.Ytpflkihagebmlab.Calls173
