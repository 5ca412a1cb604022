/-
  What package log answers at every input: small steps in a map, great steps back; Base and Log.
-/
import Derived.Test.YtlpbohkjiddelaaCalls51
namespace Go.Proofs.Ytlpbohkjiddelaa.Calls52
set_option linter.unusedVariables false
open Go.ChangeShapes Go.WideShapes Go.ChangeAt Go.RowKit Go.Deep Go.Maps Go.Proofs.Ytlpbohkjiddelaa.Num Go.Proofs.Ytlpbohkjiddelaa.Num6 Go.Proofs.Ytlpbohkjiddelaa.Num8 Go.Proofs.Ytlpbohkjiddelaa.Num13 Go.Proofs.Ytlpbohkjiddelaa.Num32 Go.Proofs.Ytlpbohkjiddelaa.Calls8 Go.Proofs.Ytlpbohkjiddelaa.Calls9 Go.Proofs.Ytlpbohkjiddelaa.Calls11 Go.Proofs.Ytlpbohkjiddelaa.Calls19 Go.Proofs.Ytlpbohkjiddelaa.Calls20 Go.Proofs.Ytlpbohkjiddelaa.Calls22 Go.Proofs.Ytlpbohkjiddelaa.Calls51
open Go.Proofs.Ytlpbohkjiddelaa.Base3 (RV wpList_lookup_has)

theorem wf_small {p : Nat} (h : p ≤ 1048576) : (Lit.int .i64 (p : Int)).wf = true := by
  have m0 : IntKind.i64.min = -9223372036854775808 := by decide
  have m1 : IntKind.i64.max = 9223372036854775807 := by decide
  simp [Lit.wf]; omega

theorem key_small {p : Nat} (h : p ≤ 1048576) : keyOf Try.prog 2 (.int .i64 (p : Int)) = some (.int .i64 (p : Int)) := keyOf_int_mk Try.underlying2 (wf_small h)

theorem keylit (x : Int) : WideAt.IsKeyLit (.int .i64 x) := trivial

theorem map_below {W W' : World} {n b m : Nat} {D : DataW Value} (h : W.ownsMap Try.prog 2 RV b m D) (hb : Below n W W') (hn : b < n) : W'.ownsMap Try.prog 2 RV b m D := by
  obtain ⟨es, clock, h1, h2⟩ := h
  exact ⟨es, clock, (hb.block b hn).trans h1, h2⟩

/-- A look that tells what lies there, and that it does. -/
theorem wpList_lookup_there {P : Program} (w : World) {ops : Array Oper} {rest : List Oper} {o : Oper} {a : Act} {Q : Exit → Act → World → Prop}
    (hg : o.guard = none) (m x : Operand) (t : TypeId) (hop : o.op = Op.lookup t m x true)
    (k e : TypeId) (K : Go.Maps.Keyed P k) (ht : P.underlying t = some (.map k e)) {z : Value} (hz : (zeroValue e).run P w = .ok z w) (b n : Nat) (D : DataW Value)
    (hm : a.eval m = .map (some b)) (hown : w.ownsMap P k RV b n D) (key : Value) (kl : Lit) (hx : a.eval x = key) (hkey : keyOf P k key = some kl) (v : Value) (hat : ∀ z, D.atKey kl z = .held v) (hc : Go.Maps.has D kl = true)
    (hK : wpList P ops Q rest (a.put o.dst (.tuple #[v, .bool true])) w) :
    wpList P ops Q (o :: rest) a w :=
  wpList_lookup_own_ok w hg m x t hop k e K ht RV hz (.held z) [] rfl b n D hm hown key kl hx hkey (fun u ps hv => by
    have e : u = v := by
      rw [hat] at hv
      exact (show u = v ∧ ps = [] by simpa [RV] using hv).1
    subst e
    rw [hc]; exact hK)

/-- The powers below n, each with its least exponent. -/
structure Tab (g p n : Nat) (D : DataW Value) : Prop where
  has : ∀ x k : Nat, LogIs g x p k → k < n → Go.Maps.has D (.int .i64 (x : Int)) = true
  get : ∀ x k : Nat, LogIs g x p k → k < n → ∀ z, D.atKey (.int .i64 (x : Int)) z = .held (.int .i64 (k : Int))
  only : ∀ x : Nat, Go.Maps.has D (.int .i64 (x : Int)) = true → ∃ k, LogIs g x p k ∧ k < n

theorem Tab.start (g p : Nat) : Tab g p 0 (.map []) := ⟨fun x k _ h => by omega, fun x k _ h => by omega, fun x h => by simp [Go.Maps.has] at h⟩

theorem Tab.new {g p n x : Nat} {D : DataW Value} (h : Tab g p n D) (hx : x = g ^ n % p) (hn : Go.Maps.has D (.int .i64 (x : Int)) = false) : LogIs g x p n := by
  refine ⟨hx.symm, fun j hj e => ?_⟩
  obtain ⟨i, hi, hij⟩ := log_of e
  rw [h.has x i hi (by omega)] at hn
  cases hn

theorem Tab.add {g p n x : Nat} {D : DataW Value} (h : Tab g p n D) (hm : IsMap D) (hx : x = g ^ n % p) (hn : Go.Maps.has D (.int .i64 (x : Int)) = false) : Tab g p (n + 1) (D.put (.int .i64 (x : Int)) (.held (.int .i64 (n : Int)))) := by
  have hl := h.new hx hn
  refine ⟨fun y k hy hk => ?_, fun y k hy hk z => ?_, fun y hy => ?_⟩
  · by_cases e : y = x
    · subst e; exact has_put_same hm (keylit _) _
    · rw [has_put_other (by simp; omega)]
      refine h.has y k hy ?_
      rcases Nat.lt_or_ge k n with h1 | h1
      · exact h1
      · exfalso
        obtain rfl : k = n := by omega
        exact e (hy.1.symm.trans hx.symm)
  · by_cases e : y = x
    · subst e
      rw [hy.uniq hl]
      exact atKey_put_same hm (keylit _) _ z
    · rw [atKey_put_other (by simp; omega)]
      refine h.get y k hy ?_ z
      rcases Nat.lt_or_ge k n with h1 | h1
      · exact h1
      · exfalso
        obtain rfl : k = n := by omega
        exact e (hy.1.symm.trans hx.symm)
  · by_cases e : y = x
    · subst e; exact ⟨n, hl, by omega⟩
    · rw [has_put_other (by simp; omega)] at hy
      obtain ⟨k, h1, h2⟩ := h.only y hy
      exact ⟨k, h1, by omega⟩

theorem Tab.round {g p n x W : Nat} {D : DataW Value} (h : Tab g p n D) (hx : x = g ^ n % p) (hn : Go.Maps.has D (.int .i64 (x : Int)) = true) (hW : n ≤ W) : Tab g p W D := by
  obtain ⟨i, hi, hin⟩ := h.only x hn
  have hr : ∀ y k, LogIs g y p k → k < n := fun y k hy => hy.round hin (hi.1.trans hx)
  exact ⟨fun y k hy _ => h.has y k hy (hr y k hy), fun y k hy _ => h.get y k hy (hr y k hy), fun y hy => by
    obtain ⟨k, h1, h2⟩ := h.only y hy
    exact ⟨k, h1, by omega⟩⟩

theorem step_mul {g p n x : Nat} (hx : x = g ^ n % p) : x * g % p = g ^ (n + 1) % p := by
  rw [hx, Nat.mod_mul_mod, Nat.pow_succ]

/-- What smallSteps answers. -/
def Stepped (g p W : Nat) (w : World) (e : Ending) (w' : World) : Prop := ∃ n D, e = .returned (.map (some w.heap.size)) ∧ Tab g p W D ∧ w'.ownsMap Try.prog 2 RV w.heap.size n D

set_option maxRecDepth 100000 in
theorem smallSteps_any (g W p : Nat) (hp1 : 2 ≤ p) (hp2 : p ≤ 1048576) (hg : g < p) (hW : W ≤ 1024) (w : World) :
    Calls Try.prog 54 #[.int .i64 (g : Int), .int .i64 (W : Int), .int .i64 (p : Int)] w fun e w' =>
      Stepped g p W w e w' ∧ Below w.heap.size w w' ∧ w.heap.size < w'.heap.size := by
  have hmk := run_makeMap (P := Try.prog) 63 w
  have hp0 : ¬ (p : Int) = 0 := by omega
  go_enter Try.func54, Try.ntmps54
  go_wp2
  clear hmk
  have hM0 := hid (World.ownsMap_made w Try.prog 2 RV)
  have hB0 : Below w.heap.size w (w.alloc (.map #[] 0)) := (Below.refl _ w).alloc (Nat.le_refl _) _
  have hs0 : w.heap.size < (w.alloc (.map #[] 0)).heap.size := by simp
  obtain ⟨W0, hW0⟩ : ∃ W0, w.alloc (.map #[] 0) = W0 := ⟨_, rfl⟩
  rw [hW0] at hM0 hB0 hs0 ⊢
  clear hW0
  go_loopw [8, 14] (fun t i wr => ∃ (x k : Nat) (D : DataW Value), t = .int .i64 (x : Int) ∧ i = .int .i64 (k : Int) ∧ k ≤ W ∧ x < p ∧ Hid (x = g ^ k % p) ∧ Hid (Tab g p k D) ∧ Hid (wr.ownsMap Try.prog 2 RV w.heap.size k D) ∧ Below w.heap.size w wr ∧ w.heap.size < wr.heap.size) (fun t i wr => W - (intOf i).toNat)
  case atStart => exact ⟨1, 0, .map [], rfl, rfl, by omega, by omega, by show 1 = g ^ 0 % p; rw [Nat.pow_zero, Nat.mod_eq_of_lt (by omega)], Tab.start g p, hM0.out, hB0, hs0⟩
  case round =>
    obtain ⟨x, k, D, rfl, rfl, hk, hx, hX, hT, hM, hB, hs⟩ := hrel
    by_cases hlt : k < W
    · have hlt' : (k : Int) < (W : Int) := by omega
      have hx2 : x ≤ 1048576 := by omega
      cases hc : Go.Maps.has D (.int .i64 (x : Int)) with
      | true =>
        have HC := hid hc
        clear hc
        have HT := hid (hT.out.round hX.out HC.out (by omega : k ≤ W))
        go_wp2_with (at_lookup; refine wpList_lookup_has _ rfl _ _ 63 rfl 2 2 (int_keyed Try.underlying2) Try.underlying63 (Try.zeroValue2 _) w.heap.size k D rfl hM.out _ _ rfl (key_small hx2) true HC.out ?_; intro v0)
        go_ret
        exact ⟨⟨k, D, rfl, HT.out, hM.out⟩, hB, hs⟩
      | false =>
        have HC := hid hc
        clear hc
        have hmap : Hid (IsMap D) := hM.out.isMap
        have HT := hid (hT.out.add hmap.out hX.out HC.out)
        obtain ⟨b1, b2⟩ := mul_bd hx hg hp2
        have HX := hid (step_mul hX.out)
        have hms : Hid (((x * g % p : Nat) : Int) = (x : Int) * (g : Int) % (p : Int)) := by show _ = _; simp
        have hl : x * g % p < p := Nat.mod_lt _ (by omega)
        go_wp2_with (first
          | (at_lookup; refine wpList_lookup_has _ rfl _ _ 63 rfl 2 2 (int_keyed Try.underlying2) Try.underlying63 (Try.zeroValue2 _) w.heap.size k D rfl hM.out _ _ rfl (key_small hx2) false HC.out ?_; intro v0)
          | (at_mapUpdate; refine wpList_mapUpdate_own _ rfl _ _ _ 63 rfl 2 2 (int_keyed Try.underlying2) Try.underlying63 RV w.heap.size k D rfl hM.out (by unfold maxLen; omega) _ _ _ rfl rfl (key_small hx2) (.held (.int .i64 (k : Int))) [] rfl ?_; intro w2 hown2 hgrow2; have hs2 := hgrow2.size))
        go_roundw
        case rel => exact ⟨x * g % p, k + 1, _, by rw [hms.out], by simp, by omega, hl, HX.out, HT.out, hown2, hB.grown hgrow2 (by omega) (fun k e => by cases e; exact Nat.le_refl _), by omega⟩
        case measure => simp [intOf]; omega
    · have hlt' : ¬ (k : Int) < (W : Int) := by omega
      obtain rfl : k = W := by omega
      go_wp2
      go_ret
      exact ⟨⟨k, D, rfl, hT.out, hM.out⟩, hB, hs⟩

theorem zero_exp_one (w : World) : Calls Try.prog 52 #[.int .i64 1] w fun e w' => e = .returned (.tuple #[.int .i64 0, .bool true]) ∧ w' = w := by
  go_enter Try.func52, Try.ntmps52
  go_wp2
  go_ret2
  exact ⟨rfl, rfl⟩

theorem zero_exp_zero (w : World) : Calls Try.prog 52 #[.int .i64 0] w fun e w' => e = .returned (.tuple #[.int .i64 1, .bool true]) ∧ w' = w := by
  go_enter Try.func52, Try.ntmps52
  go_wp2
  go_ret2
  exact ⟨rfl, rfl⟩

theorem zero_exp_no (a : Nat) (h0 : ¬ a = 0) (h1 : ¬ a = 1) (w : World) : Calls Try.prog 52 #[.int .i64 (a : Int)] w fun e w' => e = .returned (.tuple #[.int .i64 0, .bool false]) ∧ w' = w := by
  have e0 : ((a : Int) == 0) = false := by simpa using h0
  have e1 : ((a : Int) == 1) = false := by
    have : ¬ (a : Int) = 1 := by omega
    simpa using this
  go_enter Try.func52, Try.ntmps52
  go_wp2
  go_ret2
  exact ⟨rfl, rfl⟩

/-- What is to be told: the least exponent, or that there is none. -/
def Tell (g a p : Nat) (k : Int) (b : Bool) : Prop := (∃ j : Nat, k = (j : Int) ∧ b = true ∧ LogIs g a p j) ∨ (k = 0 ∧ b = false ∧ NoLog g a p)

theorem Tell.yes {g a p j : Nat} {k : Int} {b : Bool} (h : Tell g a p k b) (hj : LogIs g a p j) : k = (j : Int) ∧ b = true := by
  rcases h with ⟨i, h1, h2, h3⟩ | ⟨_, _, h3⟩
  · rw [hj.uniq h3]; exact ⟨h1, h2⟩
  · exact absurd hj.1 (h3 j)

theorem Tell.no {g a p : Nat} {k : Int} {b : Bool} (h : Tell g a p k b) (hn : NoLog g a p) : k = 0 ∧ b = false := by
  rcases h with ⟨i, h1, h2, h3⟩ | ⟨h1, h2, _⟩
  · exact absurd h3.1 (hn i)
  · exact ⟨h1, h2⟩

/-- An answer that tells so. -/
def Tells (g a p : Nat) (e : Ending) : Prop := ∃ k b, e = .returned (.tuple #[.int .i64 k, .bool b]) ∧ Tell g a p k b

theorem least_zero (a p : Nat) (hp1 : 2 ≤ p) (w : World) :
    Calls Try.prog 38 #[.int .i64 0, .int .i64 (a : Int), .int .i64 (p : Int)] w fun e w' => Tells 0 a p e ∧ w' = w := by
  by_cases h0 : a = 0
  · subst h0
    go_enter Try.func38, Try.ntmps38
    go_wp2_with (go_at_call 52; refine (zero_exp_zero _).mono ?_; rintro e w' ⟨rfl, hw⟩; subst w')
    go_ret2
    exact ⟨⟨1, true, rfl, .inl ⟨1, rfl, rfl, zero_zero hp1⟩⟩, rfl⟩
  · by_cases h1 : a = 1
    · subst h1
      go_enter Try.func38, Try.ntmps38
      go_wp2_with (go_at_call 52; refine (zero_exp_one _).mono ?_; rintro e w' ⟨rfl, hw⟩; subst w')
      go_ret2
      exact ⟨⟨0, true, rfl, .inl ⟨0, rfl, rfl, zero_one hp1⟩⟩, rfl⟩
    · have cZ := fun w => zero_exp_no a h0 h1 w
      have HN := hid (zero_none hp1 h0 h1)
      clear h0 h1
      go_enter Try.func38, Try.ntmps38
      go_wp2_with (go_at_call 52; refine (cZ _).mono ?_; rintro e w' ⟨rfl, hw⟩; subst w')
      go_ret2
      exact ⟨⟨0, false, rfl, .inr ⟨rfl, rfl, HN.out⟩⟩, rfl⟩

theorem iw_bd {i W : Nat} (hi : i ≤ 1024) (hW : W ≤ 1024) : 0 ≤ (i : Int) * (W : Int) ∧ (i : Int) * (W : Int) ≤ 1048576 := by
  have h2 : i * W ≤ 1024 * 1024 := Nat.mul_le_mul hi hW
  have h3 : ((i * W : Nat) : Int) = (i : Int) * (W : Int) := by simp
  omega

set_option maxRecDepth 100000 in
theorem least_any (g a p : Nat) (hp : Pr p) (hp2 : p ≤ 1048576) (hg1 : 1 ≤ g) (hg : g < p) (ha : a < p) (w : World) :
    Calls Try.prog 38 #[.int .i64 (g : Int), .int .i64 (a : Int), .int .i64 (p : Int)] w fun e w' => Tells g a p e ∧ Below w.heap.size w w' := by
  have hp1 := hp.1
  obtain ⟨W, hR⟩ := root_ex p
  have hW := hR.le hp2
  have HWW := hid hR.1
  have cR := fun w => rootUp_any p W hp2 hR w
  have cS := fun w => smallSteps_any g W p hp1 hp2 hg hW w
  have cB := fun w => stepBack_any g W p hp hp2 hg1 hg hW w
  have hg0 : ((g : Int) == 0) = false := by
    have : ¬ g = 0 := by omega
    simpa using this
  have hp0 : ¬ (p : Int) = 0 := by omega
  have HC := hid (cop_small hp hg1 hg)
  have HP := hid hp
  clear hR hp
  go_enter Try.func38, Try.ntmps38
  go_wp2_with (first
    | (go_at_call 53; refine (cR _).mono ?_; rintro e w' ⟨rfl, hw⟩; subst w')
    | (go_at_call 54; refine (cS _).mono ?_; rintro e w1 ⟨⟨n, D, rfl, hT, hM1⟩, hB1, hs1⟩; have HT := hid hT; have HM1 := hid hM1; clear hT hM1)
    | (go_at_call 55; refine (cB _).mono ?_; rintro e w2 ⟨⟨back, rfl, hb, hbk⟩, hB2⟩; have HBK := hid hbk; clear hbk))
  have HM := hid (map_below HM1.out hB2 hs1)
  have hB := below_trans hB1 hB2
  clear HM1 cR cS cB
  go_loop [1, 31] (fun t i => ∃ ai k : Nat, t = .int .i64 (ai : Int) ∧ i = .int .i64 (k : Int) ∧ k ≤ W ∧ ai < p ∧ Hid (Big g a p W k ai)) (fun t i => W - (intOf i).toNat)
  case atStart => exact ⟨a, 0, rfl, rfl, by omega, ha, Big.start ha⟩
  case round =>
    obtain ⟨ai, k, rfl, rfl, hk, hai, hI⟩ := hrel
    by_cases hlt : k < W
    · have hlt' : (k : Int) < (W : Int) := by omega
      have hai2 : ai ≤ 1048576 := by omega
      cases hc : Go.Maps.has D (.int .i64 (ai : Int)) with
      | true =>
        have HH := hid hc
        clear hc
        obtain ⟨s, hs, hsW⟩ := HT.out.only ai HH.out
        have hat := hid (HT.out.get ai s hs hsW)
        have hF := hid (hI.out.found HC.out hs)
        clear hs
        obtain ⟨b1, b2⟩ := iw_bd (i := k) (W := W) (by omega) hW
        go_wp2_with (at_lookup; refine wpList_lookup_there _ rfl _ _ 63 rfl 2 2 (int_keyed Try.underlying2) Try.underlying63 (Try.zeroValue2 _) w.heap.size n D rfl HM.out _ _ rfl (key_small hai2) _ hat.out HH.out ?_)
        go_ret2
        exact ⟨⟨_, true, rfl, .inl ⟨k * W + s, by simp, rfl, hF.out⟩⟩, hB⟩
      | false =>
        have HH := hid hc
        clear hc
        have hno : Hid (∀ t, t < W → ¬ g ^ t % p = ai) := fun t ht e => by
          obtain ⟨j, hj, hjt⟩ := log_of e
          have := HT.out.has ai j hj (by omega)
          rw [HH.out] at this
          cases this
        have hN := hid (hI.out.next (by omega) HC.out hno.out HBK.out)
        obtain ⟨b1, b2⟩ := mul_bd hai hb hp2
        have hms : Hid (((ai * back % p : Nat) : Int) = (ai : Int) * (back : Int) % (p : Int)) := by show _ = _; simp
        have hl : ai * back % p < p := Nat.mod_lt _ (by omega)
        go_wp2_with (at_lookup; refine wpList_lookup_has _ rfl _ _ 63 rfl 2 2 (int_keyed Try.underlying2) Try.underlying63 (Try.zeroValue2 _) w.heap.size n D rfl HM.out _ _ rfl (key_small hai2) false HH.out ?_; intro v0)
        go_round
        case rel => exact ⟨ai * back % p, k + 1, by rw [hms.out], by simp, by omega, hl, hN⟩
        case measure => simp [intOf]; omega
    · have hlt' : ¬ (k : Int) < (W : Int) := by omega
      obtain rfl : k = W := by omega
      have hN := hid (hI.out.done HP.out hg HWW.out)
      go_wp2
      go_ret2
      exact ⟨⟨0, false, rfl, .inr ⟨rfl, rfl, hN.out⟩⟩, hB⟩

theorem least_all (g a p : Nat) (hp : Pr p) (hp2 : p ≤ 1048576) (hg : g < p) (ha : a < p) (w : World) :
    Calls Try.prog 38 #[.int .i64 (g : Int), .int .i64 (a : Int), .int .i64 (p : Int)] w fun e w' => Tells g a p e ∧ Below w.heap.size w w' := by
  rcases Nat.eq_zero_or_pos g with e | e
  · subst e
    exact (least_zero a p hp.1 w).mono fun e w' ⟨h1, h2⟩ => ⟨h1, by subst h2; exact Below.refl _ _⟩
  · exact least_any g a p hp hp2 e hg ha w

/-! ### the two calls -/

theorem two_cells (x y : Int) (w : World) : (w.alloc (.cells #[.int .i64 x, .int .i64 y] 2)).cell? ⟨w.heap.size, 0, none⟩ = some (.int .i64 x) ∧ (w.alloc (.cells #[.int .i64 x, .int .i64 y] 2)).cell? ⟨w.heap.size, 1, none⟩ = some (.int .i64 y) := by
  constructor <;> simp

theorem Log_far (g a p : Int) (h : ¬ (Nr g ∧ Nr a)) (w : World) :
    Calls Try.prog 29 #[.int .i64 g, .int .i64 a, .int .i64 p] w fun e w' => e = .returned (.tuple #[.int .i64 0, .int .i64 2]) ∧ Below w.heap.size w w' := by
  obtain ⟨c0, c1⟩ := two_cells g a w
  have cR := refuse_no p g a h w.heap.size _ c0 c1
  clear c0 c1 h
  go_enter Try.func29, Try.ntmps29
  go_wp2_with (go_at_call 37; refine cR.mono ?_; rintro e w1 ⟨rfl, hB1⟩)
  go_ret2
  exact ⟨rfl, below_trans ((Below.refl _ _).alloc (Nat.le_refl _) _) hB1⟩

theorem Log_bad (g a p : Int) (hg : Nr g) (ha : Nr a) (hc : ¬ pcode p = 0) (w : World) :
    Calls Try.prog 29 #[.int .i64 g, .int .i64 a, .int .i64 p] w fun e w' => e = .returned (.tuple #[.int .i64 0, .int .i64 (pcode p)]) ∧ Below w.heap.size w w' := by
  obtain ⟨c0, c1⟩ := two_cells g a w
  have cR := refuse_yes p g a hg ha w.heap.size _ c0 c1
  generalize pcode p = r at hc cR ⊢
  have hc' : (r != 0) = true := by simpa using hc
  clear c0 c1 hg ha
  go_enter Try.func29, Try.ntmps29
  go_wp2_with (go_at_call 37; refine cR.mono ?_; rintro e w1 ⟨rfl, hB1⟩)
  go_ret2
  exact ⟨rfl, below_trans ((Below.refl _ _).alloc (Nat.le_refl _) _) hB1⟩

theorem Log_yes (g a : Int) (p k : Nat) (hg : Nr g) (ha : Nr a) (hp : Pr p) (hp2 : p ≤ 1048576) (hk : LogIs (rs g p) (rs a p) p k) (w : World) :
    Calls Try.prog 29 #[.int .i64 g, .int .i64 a, .int .i64 (p : Int)] w fun e w' => e = .returned (.tuple #[.int .i64 (k : Int), .int .i64 0]) ∧ Below w.heap.size w w' := by
  have hp1 := hp.1
  obtain ⟨c0, c1⟩ := two_cells g a w
  have cR := refuse_yes (p : Int) g a hg ha w.heap.size _ c0 c1
  rw [pcode_ok hp hp2] at cR
  have cG := fun w => left_rs g p (by omega) hp2 w
  have cA := fun w => left_rs a p (by omega) hp2 w
  have cL := fun w => least_all (rs g p) (rs a p) p hp hp2 (rs_lt g (by omega)) (rs_lt a (by omega)) w
  have HK := hid hk
  clear c0 c1 hg ha hk hp
  go_enter Try.func29, Try.ntmps29
  go_wp2_with (first
    | (go_at_call 37; refine cR.mono ?_; rintro e w1 ⟨rfl, hB1⟩)
    | (go_at_call 39; (first | (refine (cG _).mono ?_; clear cG) | (refine (cA _).mono ?_)); rintro e w' ⟨rfl, hw⟩; subst w')
    | (go_at_call 38; refine (cL _).mono ?_; rintro e w2 ⟨⟨j, b, rfl, hT⟩, hB2⟩; obtain ⟨rfl, rfl⟩ := hT.yes HK.out; clear hT))
  go_ret2
  exact ⟨rfl, below_trans (below_trans ((Below.refl _ _).alloc (Nat.le_refl _) _) hB1) hB2⟩

theorem Log_none (g a : Int) (p : Nat) (hg : Nr g) (ha : Nr a) (hp : Pr p) (hp2 : p ≤ 1048576) (hk : NoLog (rs g p) (rs a p) p) (w : World) :
    Calls Try.prog 29 #[.int .i64 g, .int .i64 a, .int .i64 (p : Int)] w fun e w' => e = .returned (.tuple #[.int .i64 0, .int .i64 5]) ∧ Below w.heap.size w w' := by
  have hp1 := hp.1
  obtain ⟨c0, c1⟩ := two_cells g a w
  have cR := refuse_yes (p : Int) g a hg ha w.heap.size _ c0 c1
  rw [pcode_ok hp hp2] at cR
  have cG := fun w => left_rs g p (by omega) hp2 w
  have cA := fun w => left_rs a p (by omega) hp2 w
  have cL := fun w => least_all (rs g p) (rs a p) p hp hp2 (rs_lt g (by omega)) (rs_lt a (by omega)) w
  have HK := hid hk
  clear c0 c1 hg ha hk hp
  go_enter Try.func29, Try.ntmps29
  go_wp2_with (first
    | (go_at_call 37; refine cR.mono ?_; rintro e w1 ⟨rfl, hB1⟩)
    | (go_at_call 39; (first | (refine (cG _).mono ?_; clear cG) | (refine (cA _).mono ?_)); rintro e w' ⟨rfl, hw⟩; subst w')
    | (go_at_call 38; refine (cL _).mono ?_; rintro e w2 ⟨⟨j, b, rfl, hT⟩, hB2⟩; obtain ⟨rfl, rfl⟩ := hT.no HK.out; clear hT))
  go_ret2
  exact ⟨rfl, below_trans (below_trans ((Below.refl _ _).alloc (Nat.le_refl _) _) hB1) hB2⟩

end Go.Proofs.Ytlpbohkjiddelaa.Calls52
