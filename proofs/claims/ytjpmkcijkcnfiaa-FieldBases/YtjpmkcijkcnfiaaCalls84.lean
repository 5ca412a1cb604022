/-
  Package field: the least element whose powers are all.
-/
import Derived.Test.YtjpmkcijkcnfiaaCalls83
import Derived.Test.YtjpmkcijkcnfiaaCalls13
import Derived.Test.YtjpmkcijkcnfiaaCalls60
import Derived.Deep.RegionHeld3
import Derived.Deep.RegionWith
namespace Go.Proofs.Ytjpmkcijkcnfiaa.Calls84
set_option linter.unusedVariables false
open Go.ChangeShapes Go.WideShapes Go.ChangeAt Go.RowKit Go.Deep Go.Proofs.Ytjpmkcijkcnfiaa.Base Go.Proofs.Ytjpmkcijkcnfiaa.Base2 Go.Proofs.Ytjpmkcijkcnfiaa.Num Go.Proofs.Ytjpmkcijkcnfiaa.Num16 Go.Proofs.Ytjpmkcijkcnfiaa.Num17 Go.Proofs.Ytjpmkcijkcnfiaa.Num21 Go.Proofs.Ytjpmkcijkcnfiaa.Num23 Go.Proofs.Ytjpmkcijkcnfiaa.Num34 Go.Proofs.Ytjpmkcijkcnfiaa.Num35 Go.Proofs.Ytjpmkcijkcnfiaa.Num36 Go.Proofs.Ytjpmkcijkcnfiaa.Num37 Go.Proofs.Ytjpmkcijkcnfiaa.Num38 Go.Proofs.Ytjpmkcijkcnfiaa.Base4 Go.Proofs.Ytjpmkcijkcnfiaa.Calls56 Go.Proofs.Ytjpmkcijkcnfiaa.Calls57 Go.Proofs.Ytjpmkcijkcnfiaa.Calls58 Go.Proofs.Ytjpmkcijkcnfiaa.Calls61 Go.Proofs.Ytjpmkcijkcnfiaa.Calls75 Go.Proofs.Ytjpmkcijkcnfiaa.Calls77 Go.Proofs.Ytjpmkcijkcnfiaa.Calls78 Go.Proofs.Ytjpmkcijkcnfiaa.Calls76 Go.Proofs.Ytjpmkcijkcnfiaa.Calls79 Go.Proofs.Ytjpmkcijkcnfiaa.Calls62 Go.Proofs.Ytjpmkcijkcnfiaa.Calls80 Go.Proofs.Ytjpmkcijkcnfiaa.Calls81 Go.Proofs.Ytjpmkcijkcnfiaa.Calls82 Go.Proofs.Ytjpmkcijkcnfiaa.Calls83
open Go.Proofs.Ytjpmkcijkcnfiaa.Num13 (rs rs_cast)
open Go.Proofs.Ytjpmkcijkcnfiaa.Calls60 (wrap_in)
open Go.Proofs.Ytjpmkcijkcnfiaa.Num20 (pw Ord)
open Go.Proofs.Ytjpmkcijkcnfiaa.Calls13 (Factor_yes)
open Go.Proofs.Ytjpmkcijkcnfiaa.Calls11 (ints ints_length flat fac_len)
open Go.Proofs.Ytjpmkcijkcnfiaa.Num22 (El MulR)

/-- The numbers of steps: what is left of m without one of its primes. -/
def StepsOf (m : Nat) (L : List Int) : Prop := (∀ x ∈ L, ∃ q, Pr q ∧ q ∣ m ∧ x = ((m / q : Nat) : Int)) ∧ (∀ q, Pr q → q ∣ m → ((m / q : Nat) : Int) ∈ L) ∧ L.length ≤ 20

def stf (m : Nat) (l : List (Nat × Nat)) (j : Nat) : Int := ((m / (l.getD j (0, 0)).1 : Nat) : Int)

theorem getD_mem {l : List (Nat × Nat)} {j : Nat} (h : j < l.length) : l.getD j (0, 0) ∈ l := by
  simp [List.getD, h]

theorem steps_of {m : Nat} {l : List (Nat × Nat)} (h : Fac m l) (hm : m ≤ 1048576) : StepsOf m (mk l.length (stf m l)) := by
  have hm0 : pd l = m := h.2.2
  refine ⟨fun x hx => ?_, fun q hq hd => ?_, by rw [mk_length]; exact fac_len h hm⟩
  · obtain ⟨i, hi, e⟩ := mk_mem hx
    have hmem := getD_mem hi
    refine ⟨_, (h.1 _ hmem).1, ?_, e.symm⟩
    rw [← hm0]
    exact mem_dvd_pd h.1 hmem
  · rw [← hm0] at hd
    obtain ⟨x, hx, rfl⟩ := pr_dvd_pd hq h.1 hd
    obtain ⟨j, hj, e⟩ := List.getElem_of_mem hx
    refine List.mem_map.2 ⟨j, List.mem_range.2 hj, ?_⟩
    unfold stf
    simp [List.getD, hj, e]

theorem ints_get3 (l : List (Nat × Nat)) (j : Nat) : (ints l).getD j (0, 0) = (((l.getD j (0, 0)).1 : Int), ((l.getD j (0, 0)).2 : Int)) := by
  simp only [ints, List.getD, List.getElem?_map]
  cases l[j]? <;> simp

theorem add_two2 (ad : Addr) (k : Nat) : ad.add (k * 2 + 1) = { block := (ad.add (k * 2)).block, off := (ad.add (k * 2)).off + 1 } := by
  unfold Addr.add
  by_cases h : k * 2 = 0
  · simp [h]
  · simp [h]; omega

/-- A new row of the steps. -/
def StepsR (m : Nat) (e : Ending) (w' : World) : Prop := ∃ L, StepsOf m L ∧ RetL L e w'

set_option maxRecDepth 100000 in
set_option maxHeartbeats 2000000 in
theorem early_any (p : Nat) (fo : Option Addr) (n cf S m : Nat) (hS : (S : Int) - 1 = (m : Int)) (hm1 : 1 ≤ m) (hm2 : m ≤ 1048575) (w : World) :
    Calls Try.prog 33 #[.agg #[.int .i64 (p : Int), .slice fo n cf, .int .i64 (S : Int)]] w fun e w' => StepsR m e w' ∧ Below w.heap.size w w' := by
  obtain ⟨i0, hi, hz0, hz1, hz2⟩ := info_ex
  have hBw : Hid (Below w.heap.size w (w.alloc (fx p fo n cf S))) := (Below.refl _ w).alloc (Nat.le_refl _) _
  have hX0 := hid (Bf.new w p fo n cf S)
  have cF := fun w => Factor_yes m hm1 (by omega) w
  have e2 := hX0.out.c2
  go_enter Try.func33, Try.ntmps33
  go_wp2_with (go_at_call 48; refine (cF _).mono ?_; rintro e w1 ⟨l, v, rfl, hF, hown, hB⟩; obtain ⟨ao, cap, rfl, hrow⟩ := Go.Proofs.Ytjpmkcijkcnfiaa.Calls11.prow_of_owns hown; have hblk := Go.Proofs.Ytjpmkcijkcnfiaa.Calls11.owns_block' hown; have HF := hid hF; have HR := hid hrow; have HB := hid hB; clear hF hown hrow hB; rw [ints_length])
  have hlen : l.length ≤ 20 := fac_len HF.out (by omega)
  have hX1 := hid (hX0.out.up HB.out)
  have hlt : w.heap.size < w1.heap.size := BoxC.lt hX1.out
  clear e2 cF
  obtain ⟨N, hN⟩ : ∃ N, N = l.length := ⟨_, rfl⟩
  have HN : Hid (N = l.length) := hN
  rw [← hN] at hlen ⊢
  clear hN
  go_loopw [3, 17] (fun v i wr => ∃ k : Nat, i = .int .i64 (k : Int) ∧ k ≤ N ∧ Hid (wr.ownsRow w1.heap.size 2 1 v k (ivals (mk k (stf m l)))) ∧ Hid (Below w1.heap.size w1 wr)) (fun v i wr => ((N : Int) - intOf i).toNat)
  case atStart => exact ⟨0, rfl, by omega, World.ownsRow_nil _ _ _ _, Below.refl _ _⟩
  case round =>
    obtain ⟨k, rfl, hk, hown, hBr⟩ := hrel
    by_cases hgo : k < N
    · have hgo' : (k : Int) < (N : Int) := by omega
      have hkl : Hid (k < l.length) := by have := HN.out; show k < l.length; omega
      rcases ao with _ | ad
      · have := HR.out.1 rfl
        have e := ints_length l
        rw [this] at e
        have := HN.out
        simp at e
        omega
      · obtain ⟨c1, c2⟩ := (Go.Proofs.Ytjpmkcijkcnfiaa.Calls11.prow_below HR.out hBr.out (fun ad' e => .inr (hblk ad' e).2)).2 ad rfl k (by rw [ints_length]; exact hkl.out)
        rw [add_two2] at c2
        rw [ints_get3] at c1 c2
        have hp := (HF.out.1 _ (getD_mem hkl.out)).1.1
        obtain ⟨x, hx⟩ : ∃ x, l.getD k (0, 0) = x := ⟨_, rfl⟩
        rw [hx] at c1 c2 hp
        have hsn : Hid (ivals (mk (k + 1) (stf m l)) = ivals (mk k (stf m l)) ++ [.int .i64 ((m : Int) / (x.1 : Int))]) := by
          show _ = _
          rw [mk_succ, ivals_snoc]
          unfold stf
          rw [hx]; simp
        clear hx
        have hBs := hBr.out.size
        have cc := (hX1.out.below hBr.out hlt).c2
        have cc1 := ((hX1.out.below hBr.out hlt).up ((Below.refl _ wr).alloc (Nat.le_refl _) (.cells #[.int .i64 (x.1 : Int), .int .i64 (x.2 : Int)] 61))).c2
        have hd1 := div_bds m x.1 (by omega)
        have hd3 := hd1.1
        have hd4 := hd1.2
        have hx0 : ¬ (x.1 : Int) = 0 := by omega
        have hx00 : ¬ x.1 = 0 := by omega
        have hnew : Hid (∀ j u, ([.int .i64 ((m : Int) / (x.1 : Int))] : List Value)[j]? = some u → ((wr.alloc (.cells #[.int .i64 (x.1 : Int), .int .i64 (x.2 : Int)] 61)).alloc (.cells #[.int .i64 ((m : Int) / (x.1 : Int))] 2)).cell? ((⟨wr.heap.size + 1, 0, none⟩ : Addr).add j) = some u) := by
          have h := one_cell (W := wr.alloc (.cells #[.int .i64 (x.1 : Int), .int .i64 (x.2 : Int)] 61)) (t := 2) (a := .int .i64 ((m : Int) / (x.1 : Int)))
          rw [World.size_alloc] at h
          exact h
        clear hd1
        go_wp2_with (at_builtin; refine wpList_append_own _ rfl _ _ 22 rfl w1.heap.size 2 i0 (.int .i64 0) 1 8 Try.underlying22 hi hz0 hz1 hz2 rfl (by decide) _ _ _ rfl ((hown.out.alloc _).alloc _) ⟨wr.heap.size + 1, 0, none⟩ 1 1 [.int .i64 ((m : Int) / (x.1 : Int))] rfl rfl hnew.out (by simp [Value.oneCell']) (by unfold maxLen; omega) (by omega) (by simp; omega) ?_; intro v' w2 hown' hgrow _)
        go_roundw
        case rel => exact ⟨k + 1, by simp, by omega, by show World.ownsRow _ _ _ _ _ _ _; rw [hsn.out]; exact hown', ((hBr.out.alloc hBr.out.size _).alloc (by simp; omega) _).trans (below_grown ((hown.out.alloc _).alloc _) hgrow (by omega) (by simp; omega))⟩
        case measure => exact measK hgo
    · have hgo' : ¬ (k : Int) < (N : Int) := by omega
      obtain rfl : k = N := by omega
      obtain ⟨vo, vc, rfl, hcap, hr⟩ := irow_owns hown.out
      have H2 := hid hr
      clear hr
      have hSt := hid (steps_of HF.out (by omega))
      rw [← HN.out] at hSt
      go_wp2
      go_ret
      exact ⟨⟨_, hSt.out, vo, vc, rfl, hcap, H2.out⟩, below_trans hBw.out (below_trans HB.out hBr.out)⟩

theorem comes1_any (p : Nat) (f : List Int) (hf : Fld p f) (F : Fe p f) (hF : Fits p f F) (fo : Option Addr) (cf S A1 A2 : Nat) (y : El p f) (N : Nat) (hN : N ≤ 1048576) (w : World) (rf : IRow w fo f) (hA : Bf w A1 p fo f.length cf S) (hA2 : w.cell? ⟨A2, 0, none⟩ = some (.int .i64 (num y : Int))) :
    Calls Try.prog 50 #[.int .i64 (N : Int), .pointer (some ⟨A1, 0, none⟩), .pointer (some ⟨A2, 0, none⟩)] w fun e w' => e = .returned (.bool ((num (pw F y N) : Int) == 1)) ∧ Below w.heap.size w w' := by
  have cP := power_el p f hf F hF fo cf S y N hN w rf
  have k0 := hA.c0
  have k1 := hA.c1
  have k2 := hA.c2
  generalize num (pw F y N) = z at *
  generalize f.length = n at *
  clear hA rf
  go_enter Try.func50, Try.ntmps50
  go_wp2_with (go_at_call 32; refine cP.mono ?_; rintro e w1 ⟨rfl, hB1⟩)
  go_ret
  exact ⟨rfl, hB1⟩

theorem comes_iff {p : Nat} {f : List Int} (hf : Fld p f) {F : Fe p f} (hF : Fits p f F) {m : Nat} (hm : p ^ (f.length - 1) - 1 = m) {L : List Int} (hL : StepsOf m L) {y : El p f} (hy : num y ≠ 0) : (∀ x ∈ L, ((num (pw F y x.toNat) : Int) == 1) = false) ↔ Ord F y m := by
  have hs := hf.size
  have h1 : pw F y m = F.one := by rw [← hm]; exact (field_cyclic hf.1 hf.fl.1 F hF.1).2 y (hf.ne_zero hF hy)
  rw [ord_iff F (by omega) h1]
  have e : ∀ k, ((num (pw F y k) : Int) == 1) = false ↔ pw F y k ≠ F.one := fun k => by
    rw [Ne, ← hf.one_of hF]
    constructor
    · intro h h2
      rw [h2] at h
      cases h
    · intro h
      have : ¬ (num (pw F y k) : Int) = 1 := by omega
      simpa using this
  constructor
  · intro h q hq hd
    have := h _ (hL.2.1 q hq hd)
    rw [Int.toNat_natCast] at this
    exact (e _).1 this
  · intro h x hx
    obtain ⟨q, hq, hd, rfl⟩ := hL.1 x hx
    rw [Int.toNat_natCast]
    exact (e _).2 (h q hq hd)

theorem ordB_ex {p : Nat} {f : List Int} (F : Fe p f) (y : El p f) (m : Nat) : ∃ b : Bool, (b = false ↔ Ord F y m) := by
  rcases Classical.em (Ord F y m) with h | h
  · exact ⟨false, ⟨fun _ => h, fun _ => rfl⟩⟩
  · refine ⟨true, ⟨fun e => ?_, fun e => absurd e h⟩⟩
    cases e

set_option maxRecDepth 100000 in
theorem comes_any (p : Nat) (f : List Int) (hf : Fld p f) (F : Fe p f) (hF : Fits p f F) (fo : Option Addr) (cf S m : Nat) (hm : p ^ (f.length - 1) - 1 = m) (y : El p f) (hy : num y ≠ 0) (so : Option Addr) (cs : Nat) (L : List Int) (hL : StepsOf m L) (b : Bool) (hb : b = false ↔ Ord F y m) (w : World) (rf : IRow w fo f) (rl : IRow w so L) :
    Calls Try.prog 34 #[.agg #[.int .i64 (p : Int), .slice fo f.length cf, .int .i64 (S : Int)], .int .i64 (num y : Int), .slice so L.length cs] w fun e w' => e = .returned (.bool b) ∧ Below w.heap.size w w' := by
  have hs := hf.size
  have hX0 := hid (Bf.new w p fo f.length cf S)
  have hBw : Hid (Below w.heap.size w ((w.alloc (fx p fo f.length cf S)).alloc (.cells #[.int .i64 (num y : Int)] 2))) := ((Below.refl _ w).alloc (Nat.le_refl _) _).alloc (by simp) _
  have hX1 : Hid (Bf ((w.alloc (fx p fo f.length cf S)).alloc (.cells #[.int .i64 (num y : Int)] 2)) w.heap.size p fo f.length cf S) := hX0.out.up ((Below.refl _ _).alloc (Nat.le_refl _) _)
  have hY1 : Hid (BoxC ((w.alloc (fx p fo f.length cf S)).alloc (.cells #[.int .i64 (num y : Int)] 2)) (w.heap.size + 1) 2 #[.int .i64 (num y : Int)]) := by
    have := BoxC.new (w.alloc (fx p fo f.length cf S)) 2 #[.int .i64 (num y : Int)]
    rw [World.size_alloc] at this
    exact this
  have RF := irow_below rf hBw.out (Nat.le_refl _)
  have RL := irow_below rl hBw.out (Nat.le_refl _)
  have cC := conCom_any so cs L w.heap.size (w.heap.size + 1) (fun x => ((num (pw F y x.toNat) : Int) == 1)) (by have := hL.2.2; omega) b (hb.trans (comes_iff hf hF hm hL hy).symm) _ RL (fun x hx w' hB => by
    obtain ⟨q, hq, hd, rfl⟩ := hL.1 x hx
    have hle : m / q ≤ m := Nat.div_le_self m q
    have := comes1_any p f hf F hF fo cf S w.heap.size (w.heap.size + 1) y (m / q) (by omega) w' (irow_below RF hB (Nat.le_refl _)) (hX1.out.up hB) (by rw [BoxC.cell (BoxC.below hY1.out hB (BoxC.lt hY1.out)) 0]; rfl)
    rw [Int.toNat_natCast]
    exact this)
  generalize num y = v at *
  generalize f.length = n at *
  obtain ⟨nl, hnl⟩ : ∃ nl, nl = L.length := ⟨_, rfl⟩
  rw [← hnl] at cC ⊢
  clear hnl rf rl RF RL hL hf hF hb hX0 hX1 hY1
  go_enter Try.func34, Try.ntmps34
  go_wp2_with (go_at_call 49; refine cC.mono ?_; rintro e w1 ⟨rfl, hB1⟩)
  go_ret
  exact ⟨rfl, below_trans hBw.out hB1⟩

theorem fBase_bad (p : Int) (fo : Option Addr) (cf : Nat) (f : List Int) (hm : f.length ≤ 9223372036854775807) (c : Int) (hc : FC p f c) (h0 : c ≠ 0) (w : World) (rf : IRow w fo f) :
    Calls Try.prog 18 #[.int .i64 p, .slice fo f.length cf] w fun e w' => e = .returned (.tuple #[.int .i64 0, .int .i64 c]) ∧ Below w.heap.size w w' := by
  have cO := open_bad p fo none cf 0 f [] hm (by simp) c (EC.nil hc) h0 w rf (irow_nil _ _)
  simp only [List.length_nil] at cO
  have h1 : (c != 0) = true := by simpa using h0
  have h2 : (c == 0) = false := by simpa using h0
  generalize f.length = n at *
  clear rf hc
  go_enter Try.func18, Try.ntmps18
  go_wp2_with (go_at_call 21; refine cO.mono ?_; rintro e w1 ⟨rfl, hB1⟩)
  go_ret2
  exact ⟨rfl, hB1.alloc hB1.size _⟩

theorem base_facts {p : Nat} {f : List Int} (hf : Fld p f) {F : Fe p f} (hF : Fits p f F) {m G : Nat} (hm : p ^ (f.length - 1) - 1 = m) (hG : BaseIs F m G) :
    1 ≤ G ∧ G < p ^ (f.length - 1) ∧ ∀ y : El p f, (num y < G → ¬ Ord F y m) ∧ (num y = G → Ord F y m) := by
  have hp1 := hf.1.1
  obtain ⟨⟨x, hx, hO⟩, hmin⟩ := hG
  refine ⟨?_, by rw [← hx]; exact num_lt (by omega) x, fun y => ⟨fun h h2 => by have := hmin y h2; omega, fun h => ?_⟩⟩
  · rcases Nat.eq_zero_or_pos G with e | e
    · exfalso
      have hz : x = F.zero := num_inj (by omega) hf.fl (by rw [hx, e, hF.zero])
      have h1 := (hO.2 m).2 (Nat.dvd_refl _)
      have h2 := hO.1
      rw [hz] at h1
      obtain ⟨k, rfl⟩ : ∃ k, m = k + 1 := ⟨m - 1, by omega⟩
      have h3 : F.mul (pw F F.zero k) F.zero = F.one := h1
      rw [Go.Proofs.Ytjpmkcijkcnfiaa.Num20.mul_zero] at h3
      exact F.one_ne h3.symm
    · exact e
  · have e : y = x := num_inj (by omega) hf.fl (by rw [h, hx])
    rw [e]; exact hO

set_option maxRecDepth 100000 in
set_option maxHeartbeats 2000000 in
theorem fBase_el (P : Nat) (f : List Int) (hf : Fld P f) (F : Fe P f) (hF : Fits P f F) (m G : Nat) (hm : P ^ (f.length - 1) - 1 = m) (hG : BaseIs F m G) (fo : Option Addr) (cf : Nat) (w : World) (rf : IRow w fo f) :
    Calls Try.prog 18 #[.int .i64 (P : Int), .slice fo f.length cf] w fun e w' => e = .returned (.tuple #[.int .i64 (G : Int), .int .i64 0]) ∧ Below w.heap.size w w' := by
  have hs := hf.size
  obtain ⟨hG1, hG2, hG3⟩ := base_facts hf hF hm hG
  have cO := open_ok P f [] hf (by simp) (fun a ha => by simp at ha) fo none cf 0 w rf (irow_nil _ _)
  simp only [List.length_nil] at cO
  obtain ⟨S, hS⟩ : ∃ S, S = P ^ (f.length - 1) := ⟨_, rfl⟩
  have cE := fun w => early_any P fo f.length cf S m (by omega) (by omega) (by omega) w
  have cC := fun (v : Nat) (hv1 : 1 ≤ v) (hv2 : v ≤ G) (so : Option Addr) (cs : Nat) (L : List Int) (hL : StepsOf m L) w' (hB : Below w.heap.size w w') (rl : IRow w' so L) => (show Calls Try.prog 34 #[.agg #[.int .i64 (P : Int), .slice fo f.length cf, .int .i64 (S : Int)], .int .i64 (v : Int), .slice so L.length cs] w' fun e w'' => e = .returned (.bool (decide (v < G))) ∧ Below w'.heap.size w' w'' from by
    obtain ⟨y, hy⟩ := hf.el (a := v) (by omega)
    rw [← hy]
    refine comes_any P f hf F hF fo cf S m hm y (by omega) so cs L hL _ ?_ w' (irow_below rf hB (Nat.le_refl _)) rl
    rw [decide_eq_false_iff_not]
    constructor
    · intro h
      exact (hG3 y).2 (by omega)
    · intro h h2
      exact (hG3 y).1 h2 h)
  rw [← hS] at hG2 hs
  simp only [← hS] at cO
  have HCC := hid cC
  generalize f.length = n at *
  clear rf hf hF hG hG3 hm cC hS
  go_enter Try.func18, Try.ntmps18
  go_wp2_with (first
    | (go_at_call 21; refine cO.mono ?_; rintro e w1 ⟨rfl, hB1⟩; have HB1 := hid hB1; have HB2 := hid (hB1.alloc hB1.size (fx P fo n cf S)); have hK := hid (Bf.new w1 P fo n cf S); have k0 := hK.out.c0; have k1 := hK.out.c1; have k2 := hK.out.c2; clear hB1)
    | (go_at_call 33; refine (cE _).mono ?_; rintro e w2 ⟨⟨L, hL, so, cs, rfl, hcs, hr⟩, hB2⟩; have HL := hid hL; have HR := hid hr; have HB3 := hid (below_trans HB2.out hB2); have hK3 := hid (hK.out.up hB2); clear hB2 hr hL))
  obtain ⟨B, hBe⟩ : ∃ B, w1.heap.size = B := ⟨_, rfl⟩
  rw [hBe] at hK3 ⊢
  clear k0 k1 k2 hK HB2 HB1 hBe
  have hlt : B < w2.heap.size := BoxC.lt hK3.out
  obtain ⟨nl, hnl⟩ : ∃ nl, nl = L.length := ⟨_, rfl⟩
  have HNL := hid hnl
  rw [← hnl] at hcs ⊢
  clear hnl
  go_loopw [8] (fun v wr => ∃ k : Nat, v = .int .i64 (k : Int) ∧ 1 ≤ k ∧ k ≤ G ∧ Hid (Below w2.heap.size w2 wr)) (fun v wr => ((G : Int) - intOf v).toNat)
  case atStart => exact ⟨1, rfl, by omega, hG1, Below.refl _ _⟩
  case round =>
    obtain ⟨k, rfl, hk1, hk2, hB⟩ := hrel
    have hX := hid (hK3.out.below hB.out hlt)
    have k0 := hX.out.c0
    have k1 := hX.out.c1
    have k2 := hX.out.c2
    have hkS : (k : Int) < (S : Int) := by omega
    have cX := HCC.out k hk1 hk2 so cs L HL.out wr (below_trans HB3.out hB.out) (irow_below HR.out hB.out (Nat.le_refl _))
    rw [← HNL.out] at cX
    by_cases hgo : k < G
    · rw [decide_eq_true hgo] at cX
      go_wp2_with (go_at_call 34; refine cX.mono ?_; rintro e w3 ⟨rfl, hB3⟩; have HBn := hid (below_trans hB.out hB3); clear hB3)
      go_roundw
      case rel => exact ⟨k + 1, by simp, by omega, by omega, HBn⟩
      case measure => exact measK hgo
    · rw [decide_eq_false hgo] at cX
      obtain rfl : k = G := by omega
      go_wp2_with (go_at_call 34; refine cX.mono ?_; rintro e w3 ⟨rfl, hB3⟩; have HBn := hid (below_trans hB.out hB3); clear hB3)
      go_ret2
      exact ⟨rfl, below_trans HB3.out HBn.out⟩

end Go.Proofs.Ytjpmkcijkcnfiaa.Calls84
