/-
  Rows of a tree: what stands above a row.
-/
import Derived.Test.YthjmmibfgphlhaaCalls134
import Derived.Deep.RegionHeld3
import Derived.Deep.AppendLies
import Derived.OwnWalk
namespace Go.Proofs.Ythjmmibfgphlhaa.Calls135
set_option linter.unusedVariables false
open Go.ChangeShapes Go.WideShapes Go.ChangeAt Go.RowKit Go.Deep Go.Proofs.Ythjmmibfgphlhaa.Base Go.Proofs.Ythjmmibfgphlhaa.Base2 Go.Proofs.Ythjmmibfgphlhaa.Base7 Go.Proofs.Ythjmmibfgphlhaa.Base8 Go.Proofs.Ythjmmibfgphlhaa.Base9 Go.Proofs.Ythjmmibfgphlhaa.Num55 Go.Proofs.Ythjmmibfgphlhaa.Num60 Go.Proofs.Ythjmmibfgphlhaa.Calls126 Go.Proofs.Ythjmmibfgphlhaa.Calls133 Go.Proofs.Ythjmmibfgphlhaa.Calls134

/-- The nodes of a row of m, by their place. -/
def mu (m : Nat) (f : Nat → Nat) : List Nat := (List.range m).map f

theorem mu_length (m : Nat) (f : Nat → Nat) : (mu m f).length = m := by simp [mu]

theorem yb_mu {m : Nat} {f : Nat → Nat} {j : Nat} (h : j < m) : yb (mu m f) j = f j := by simp [yb, mu, List.getD, h]

theorem mu_succ (m : Nat) (f : Nat → Nat) : mu (m + 1) f = mu m f ++ [f m] := by simp [mu, List.range_succ]

theorem mu_congr {m : Nat} {f g : Nat → Nat} (h : ∀ i, i < m → f i = g i) : mu m f = mu m g := by
  unfold mu; exact List.map_congr_left (fun i hi => h i (List.mem_range.1 hi))

theorem mu_mem {m : Nat} {f : Nat → Nat} {x : Nat} (h : x ∈ mu m f) : ∃ i, i < m ∧ f i = x := by
  obtain ⟨i, hi, e⟩ := List.mem_map.1 h
  exact ⟨i, List.mem_range.1 hi, e⟩

/-- What stands above a row, at a place. -/
def up (r : List Nat) (i : Nat) : Nat := if 2 * i + 1 < r.length then sum (prt (yb r (2 * i)) (yb r (2 * i + 1))) else yb r (2 * i)

/-- The rows of a tree. -/
def rw (n : Nat) (L : Nat → Nat) (k : Nat) : List Nat := mu (mn n k) (nd sum n L k)

theorem rw_up (n : Nat) (L : Nat → Nat) (k : Nat) : rw n L (k + 1) = mu ((mn n k + 1) / 2) (up (rw n L k)) := by
  show mu ((mn n k + 1) / 2) _ = _
  refine mu_congr fun i hi => ?_
  show (if 2 * i + 1 < mn n k then _ else _) = _
  unfold up rw
  rw [mu_length]
  by_cases h : 2 * i + 1 < mn n k
  · rw [if_pos h, if_pos h, yb_mu h, yb_mu (by omega)]
  · rw [if_neg h, if_neg h, yb_mu (by omega)]

theorem nd_lt {n : Nat} {L : Nat → Nat} (hL : ∀ i, L i < 65536) : ∀ k i, nd sum n L k i < 65536
  | 0, i => hL i
  | k + 1, i => by
    show (if 2 * i + 1 < mn n k then _ else _) < 65536
    split
    · exact Calls128.sum_lt _
    · exact nd_lt hL k _

theorem infoU32m : (Try.prog.info? 23).map (fun i => (i.zero, i.size, i.bytes)) = some (some (.int .u32 0), 1, 4) := by kernel_rfl

theorem infoU32 : ∃ i, Try.prog.info? 23 = some i ∧ i.zero = some (.int .u32 0) ∧ i.size = 1 ∧ i.bytes = 4 := by
  have h := infoU32m
  cases e : Try.prog.info? 23 with
  | none => rw [e] at h; simp at h
  | some i => rw [e] at h; simp at h; exact ⟨i, rfl, h.1, h.2.1, h.2.2⟩

/-- A slice's length. -/
def slenV : Value → Nat
  | .slice _ n _ => n
  | _ => 0

/-- On the way through a row: so many pairs are done. -/
def AbR (r : List Nat) (w : World) (v nx : Value) (wr : World) : Prop :=
  ∃ k m c : Nat, ∃ ao : Option Addr, ∃ vn : Value, v = .slice ao m c ∧ vn = nx ∧ 2 * k + m = r.length ∧ m ≤ c ∧ Hid (URow w ao (r.drop (2 * k))) ∧ Hid (wr.ownsRow w.heap.size 23 1 vn k (uv (mu k (up r)))) ∧ Hid (Below w.heap.size w wr)

/-- append onto an own row: of a row of none or more. -/
theorem wpList_append_u {P : Program} (w : World) {ops : Array Oper} {rest : List Oper} {o : Oper} {a : Act} {Q : Exit → Act → World → Prop} (hgd : o.guard = none) (s x : Operand) (t : TypeId)
    (ho : o.op = .call { callee := .builtin .append, args := #[s, x], argTypes := #[t, t] })
    (base : Nat) (e : TypeId) (i : TypeInfo) (ht : P.underlying t = some (.slice e)) (hi : P.info? e = some i) (hz : i.zero = some (.int .u32 0)) (hsize : i.size = 1) (hby : i.bytes = 4)
    (g n cap : Nat) (xs : List Value) (hs : a.eval s = .slice (some ⟨g, 0, none⟩) n cap) (hown : w.ownsRow base e 1 (.slice (some ⟨g, 0, none⟩) n cap) n xs)
    (ao : Option Addr) (m c : Nat) (l : List Nat) (hx : a.eval x = .slice ao m c) (hm : m = l.length) (hrow : URow w ao l) (h63 : n + m ≤ 8192) (hbase : base ≤ w.heap.size)
    (h : ∀ g cap w', w'.ownsRow base e 1 (.slice (some ⟨g, 0, none⟩) (n + m) cap) (n + m) (xs ++ uv l) → Below base w w' → wpList P ops Q rest (a.put o.dst (.slice (some ⟨g, 0, none⟩) (n + m) cap)) w') : wpList P ops Q (o :: rest) a w := by
  subst hm
  have hcap : n ≤ cap := by
    rcases hown.2 with ⟨h', _⟩ | ⟨g', cap', cur, h', _, hg, hnc, _⟩
    · simp at h'
    · simp only [Value.slice.injEq, Option.some.injEq, Addr.mk.injEq, and_true, true_and] at h'
      obtain ⟨rfl, rfl⟩ := h'
      exact hnc
  by_cases h0 : l.length = 0
  · have el : l = [] := List.length_eq_zero_iff.1 h0
    subst el
    rcases ao with _ | ad
    · refine wpList_plain hgd fun K hK => ?_
      have hr := run_append_nothing (P := P) w t o.type e i ht hi g n cap c hcap
      have hx' : a.eval x = .slice none 0 c := hx
      unfold Oper.wp execOp
      simp only [ho, resolve, invoke, builtin, Sem.run_bind, Sem.run_pure, Result.andThen_ok, List.map_toArray, List.map_cons, List.map_nil, hs, hx', hr]
      exact hK _ _ (h g cap w (by simpa [uv] using hown) (Below.refl _ _))
    · refine wpList_append_fits w hgd s x t ho base e i 1 ht hi hsize g n cap xs hs hown ad 0 c [] hx (by simp) (fun j u hj => by simp at hj) (by simp) (by omega) ?_
      intro w' h1 h2
      exact h g cap w' (by simpa [uv] using h1) (below_grown hown h2 (Nat.le_refl _) hbase)
  · rcases ao with _ | ad
    · exact absurd (by have := congrArg List.length (hrow.1 rfl); rw [uv_length] at this; exact this) h0
    · refine wpList_append_own0 w hgd s x t ho base e i (.int .u32 0) 1 4 ht hi hz hsize hby rfl (by decide) (.slice (some ⟨g, 0, none⟩) n cap) n xs hs hown ad l.length c (uv l) hx (by rw [uv_length]; omega) (hrow.2 ad rfl) (uv_one l) (by omega) (by unfold maxLen; omega) (by omega) hbase ?_
      intro g' cap' w' h1 h2 h3 h4
      exact h g' cap' w' h1 (below_grown hown h2 (Nat.le_refl _) hbase)

theorem zero_addr (ad : Addr) : ad.add 0 = ad := by simp [Addr.add]

theorem two_addr (ad : Addr) : ad.add 2 = { block := ad.block, off := ad.off + 2 } := by simp [Addr.add]

theorem one_addr (ad : Addr) : ad.add 1 = { block := ad.block, off := ad.off + 1 } := by simp [Addr.add]

/-- What above answers: an own row, so that it is nobody else's. -/
def RetO (B : Nat) (r : List Nat) (e : Ending) (w' : World) : Prop := ∃ g cap, e = .returned (.slice (some ⟨g, 0, none⟩) r.length cap) ∧ w'.ownsRow B 23 1 (.slice (some ⟨g, 0, none⟩) r.length cap) r.length (uv r)

theorem rest_up {r : List Nat} {k m : Nat} (h : 2 * k + m = r.length) (hm : m ≤ 1) : uv (mu k (up r)) ++ uv (r.drop (2 * k)) = uv (mu ((r.length + 1) / 2) (up r)) := by
  by_cases h0 : m = 0
  · subst h0
    rw [List.drop_of_length_le (by omega), show (r.length + 1) / 2 = k by omega]
    simp [uv]
  · obtain rfl : m = 1 := by omega
    rw [show (r.length + 1) / 2 = k + 1 by omega, mu_succ]
    have e : r.drop (2 * k) = [up r k] := by
      have hk : 2 * k < r.length := by omega
      rw [List.drop_eq_getElem_cons hk, List.drop_of_length_le (by omega)]
      unfold up
      rw [if_neg (by omega)]
      simp [yb, List.getD, hk]
    rw [e]
    simp [uv]

set_option maxRecDepth 100000 in
set_option maxHeartbeats 1000000 in
theorem above_any (ao : Option Addr) (cap : Nat) (r : List Nat) (h2 : 2 ≤ r.length) (hl : r.length ≤ 64) (hc : r.length ≤ cap) (hb : ∀ x ∈ r, x < 65536) (w : World) (hrow : URow w ao r) :
    Calls Try.prog 44 #[.slice ao r.length cap] w fun e w' => RetO w.heap.size (mu ((r.length + 1) / 2) (up r)) e w' ∧ Below w.heap.size w w' := by
  obtain ⟨i0, hi, hz0, hz1, hz2⟩ := infoU32
  have HR := hid hrow
  have HB := hid hb
  obtain ⟨N, hN⟩ : ∃ N, N = r.length := ⟨_, rfl⟩
  have HN := hid hN
  rw [← hN] at h2 hl hc ⊢
  have h0 : AbR r w (.slice ao N cap) (.slice none 0 0) w := ⟨0, N, cap, ao, _, rfl, rfl, by omega, hc, hid (by simpa using hrow), World.ownsRow_nil _ _ _ _, Below.refl _ _⟩
  clear hN hrow hb
  go_enter Try.func44, Try.ntmps44
  go_wp2
  go_loopw [0, 3] (fun v nx wr => AbR r w v nx wr) (fun v nx wr => slenV v)
  case atStart => exact h0
  case round =>
    obtain ⟨k, m, c, ad0, nx, rfl, hnx, hkm, hmc, hU, hO, hB⟩ := hrel
    subst hnx
    rw [← HN.out] at hkm
    by_cases hgo : 1 < m
    · have hgo' : (1 : Int) < (m : Int) := by omega
      have hU2 := hid (ub hU.out hB.out)
      rcases ad0 with _ | ad
      · exact (urow_none hU.out (j := 0) (by rw [List.length_drop, ← HN.out]; omega)).elim
      have c0 := urow_cell hU2.out (j := 0) (by rw [List.length_drop, ← HN.out]; omega)
      have c1 := urow_cell hU2.out (j := 1) (by rw [List.length_drop, ← HN.out]; omega)
      have W0 := hid (urow_cell hU.out (j := 0) (by rw [List.length_drop, ← HN.out]; omega))
      have W1 := hid (urow_cell hU.out (j := 1) (by rw [List.length_drop, ← HN.out]; omega))
      have e0 : yb (r.drop (2 * k)) 0 = yb r (2 * k) := by simp [yb, List.getD]
      have e1 : yb (r.drop (2 * k)) 1 = yb r (2 * k + 1) := by simp [yb, List.getD, List.getElem?_drop]
      rw [e0, zero_addr] at c0 W0
      rw [e1, one_addr] at c1 W1
      have b0 := HB.out _ (yb_mem (l := r) (j := 2 * k) (by rw [← HN.out]; omega))
      have b1 := HB.out _ (yb_mem (l := r) (j := 2 * k + 1) (by rw [← HN.out]; omega))
      have hup : up r k = sum (prt (yb r (2 * k)) (yb r (2 * k + 1))) := if_pos (by rw [← HN.out]; omega)
      have hsn := hid (show uv (mu (k + 1) (up r)) = uv (mu k (up r)) ++ [.int .u32 ((up r k : Nat) : Int)] by rw [mu_succ, uv_snoc])
      rw [hup] at hsn
      generalize yb r (2 * k) = x at *
      generalize yb r (2 * k + 1) = y at *
      have cP := hid (fun w' => pairText_any x y b0 b1 w')
      have hpl := prt_length x y
      have hpb := prt_byt x y
      clear hup e0 e1
      generalize prt x y = t at *
      have cN := hid (fun bo c w' (h : YRow w' bo t) => node_any bo c t (by omega) hpb w' h)
      generalize sum t = s at *
      have d0 : wr.drew.cell? ad = some (.int .u32 (x : Int)) := c0
      have hm0 : (0 : Int) < (m : Int) := by omega
      have d1 : wr.drew.cell? { block := ad.block, off := ad.off + 1 } = some (.int .u32 (y : Int)) := c1
      have hBd := hid hB.out.drew
      have hOd : Hid (wr.drew.ownsRow w.heap.size 23 1 nx k (uv (mu k (up r)))) := hO
      clear hpb hpl
      have hm1 : 0 < m := by omega
      go_wp2
      go_region_held3 (fun w' => w'.cell? ad = some (.int .u32 (x : Int)) ∧ w'.cell? { block := ad.block, off := ad.off + 1 } = some (.int .u32 (y : Int))) (first | exact ⟨d0, d1⟩ | exact ⟨f0, f1⟩ | exact ⟨g0, g1⟩ | exact ⟨k0, k1⟩ | exact ⟨m0, m1⟩)
        (first
          | (go_at_call 48; refine (cP.out _).mono ?_; rintro e w3 ⟨⟨bo, cb, rfl, hcb, hr⟩, hB3⟩; have HR3 := hid hr; have HB3 := hid (below_trans hBd.out hB3); have HO3 := hid (v_below hOd.out hB3); have f0 := (hB3.cell (p := ad) (cell_lt d0)).trans d0; have f1 := (hB3.cell (p := { block := ad.block, off := ad.off + 1 }) (cell_lt d1)).trans d1; clear hr hB3)
          | (go_at_call 36; refine (cN.out bo cb _ HR3.out).mono ?_; rintro e w4 ⟨rfl, hB4⟩; have HB4 := hid (below_trans HB3.out hB4); have HO4 := hid (v_below HO3.out hB4); have g0 := (hB4.cell (p := ad) (cell_lt f0)).trans f0; have g1 := (hB4.cell (p := { block := ad.block, off := ad.off + 1 }) (cell_lt f1)).trans f1; have hB5 := (Below.refl _ w4).alloc (Nat.le_refl _) (.cells #[.int .u32 (s : Int)] 23); have k0 := (hB5.cell (p := ad) (cell_lt g0)).trans g0; have k1 := (hB5.cell (p := { block := ad.block, off := ad.off + 1 }) (cell_lt g1)).trans g1; have hsz4 := HB4.out.size; clear hB4 hB5)
          | (refine step_append_lies _ (by rfl) _ _ _ (by rfl) w.heap.size 23 i0 (.int .u32 0) 1 4 Try.underlying31 hi hz0 hz1 hz2 rfl (by decide) nx k _ (by rfl) (HO4.out.alloc _) ⟨w4.heap.size, 0, none⟩ 1 1 [.int .u32 (s : Int)] (by rfl) (by rfl) (fun j u hj => v_one j u hj) (by simp [Value.oneCell']) (by omega) (by unfold maxLen; omega) (by omega) (by simp; omega) (w4.heap.size + 1) (by simp) ?_; intro g5 c5 w5 hown5 hgrow5 hat5 hlt5; have HO5 := hid hown5; have HB5 := hid (v_snoc HB4.out (Nat.le_refl _) HO4.out hgrow5); have m0 := (HB5.out.cell (p := ad) (cell_lt W0.out)).trans W0.out; have m1 := (HB5.out.cell (p := { block := ad.block, off := ad.off + 1 }) (cell_lt W1.out)).trans W1.out; clear hown5 hgrow5))
      have hfin : Hid (AbR r w (.slice (if c = 2 then some ad else some { block := ad.block, off := ad.off + 2 }) (m - 2) (c - 2)) (.slice (some ⟨g5, 0, none⟩) (k + 1) c5) w5) := by
        refine ⟨k + 1, m - 2, c - 2, _, _, rfl, rfl, by rw [← HN.out]; omega, by omega, ?_, ?_, HB5⟩
        · show URow w _ _
          by_cases hc2 : c = 2
          · rw [if_pos hc2, List.drop_of_length_le (by rw [← HN.out]; omega)]
            exact vrow_nil _ _
          · rw [if_neg hc2]
            have := urow_drop hU.out 2
            rw [List.drop_drop, two_addr] at this
            exact this
        · show World.ownsRow _ _ _ _ _ _ _
          rw [hsn.out]
          exact HO5.out
      have hlt : m - 2 < m := by omega
      go_wp2
      go_roundw
      case rel => exact hfin.out
      case measure => exact hlt
    · have hgo' : ¬ (1 : Int) < (m : Int) := by omega
      obtain ⟨g, cp, rfl, _⟩ := World.ownsRow.form hO.out (by omega)
      have HU := hid (ub hU.out hB.out)
      have hml := hid (show m = (r.drop (2 * k)).length by rw [List.length_drop, ← HN.out]; omega)
      have hfin := hid (rest_up (r := r) (k := k) (m := m) (by rw [← HN.out]; exact hkm) (by omega))
      have hkk := hid (show k + m = (N + 1) / 2 by omega)
      have hsz := hB.out.size
      rw [← HN.out] at hfin
      have hkN : k ≤ 64 := by omega
      clear hkm
      go_wp2_with (at_builtin; refine wpList_append_u _ rfl _ _ 31 rfl w.heap.size 23 i0 Try.underlying31 hi hz0 hz1 hz2 g k cp _ rfl hO.out ad0 m c (r.drop (2 * k)) rfl hml.out HU.out (by omega) hsz ?_; intro g' cp' w' hO' hB'; have HO2 := hid hO'; have HB2 := hid (hB.out.trans hB'); clear hO' hB')
      go_ret
      have hO3 := HO2.out
      rw [hfin.out, hkk.out] at hO3
      refine ⟨⟨g', cp', ?_, ?_⟩, HB2.out⟩
      · rw [mu_length, ← hkk.out]; rfl
      · rw [mu_length]; exact hO3

end Go.Proofs.Ythjmmibfgphlhaa.Calls135
