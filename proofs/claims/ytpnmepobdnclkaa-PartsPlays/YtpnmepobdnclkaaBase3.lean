/-
  A slice that slides: append at its end, its first taken away; a map whose elements are values as they are.
-/
import Derived.Test.YtpnmepobdnclkaaBase2
import Derived.Deep.AppendSrc
import Derived.Maps.OwnSet
import Derived.Maps.OwnOps
import Derived.Maps.Views
namespace Go.Proofs.Ytpnmepobdnclkaa.Base3
set_option linter.unusedVariables false
open Go.ChangeShapes Go.WideShapes Go.ChangeAt Go.RowKit Go.Deep Go.Proofs.Ytpnmepobdnclkaa.Base

def nums (l : List Int) : List Value := l.map (Value.int .i64)

theorem nums_length (l : List Int) : (nums l).length = l.length := by simp [nums]

theorem nums_get {l : List Int} {j : Nat} (h : j < l.length) : (nums l)[j]? = some (.int .i64 (l.getD j 0)) := by
  simp [nums, List.getD, h]

theorem nums_one (l : List Int) : ∀ u ∈ nums l, u.oneCell' = true := fun u hu => by
  obtain ⟨x, _, rfl⟩ := List.mem_map.1 hu
  rfl

/-- What lies from here on, up to the capacity, is the call's own; the first of it are these numbers. -/
structure Que (W : World) (base g off cap : Nat) (l : List Int) : Prop where
  new : base ≤ g
  lt : g < W.heap.size
  le : l.length ≤ cap
  max : cap ≤ maxLen
  holds : ∀ j, j < l.length → W.cell? ⟨g, off + j, none⟩ = some (.int .i64 (l.getD j 0))
  there : ∀ j, j < cap → (W.cell? ⟨g, off + j, none⟩).isSome = true ∧ W.frozen? ⟨g, off + j, none⟩ = false

theorem Que.kept {W W' : World} {row : Option Nat} {base g off cap : Nat} {l : List Int} (h : Que W base g off cap l) (hg : W.grownBy W' row) (hne : some g ≠ row) : Que W' base g off cap l := by
  have hb : W'.heap[g]? = W.heap[g]? := hg.block g h.lt hne
  exact ⟨h.new, Nat.lt_of_lt_of_le h.lt hg.size, h.le, h.max, fun j hj => (World.cell?_of_block (a := ⟨g, off + j, none⟩) hb).trans (h.holds j hj), fun j hj => ⟨by rw [World.cell?_of_block (a := ⟨g, off + j, none⟩) hb]; exact (h.there j hj).1, (World.frozen?_of_block (a := ⟨g, off + j, none⟩) hb).trans (h.there j hj).2⟩⟩

theorem Que.below {W W' : World} {n base g off cap : Nat} {l : List Int} (h : Que W base g off cap l) (hb : Below n W W') (hn : g < n) : Que W' base g off cap l := by
  have hb' : W'.heap[g]? = W.heap[g]? := hb.block g hn
  exact ⟨h.new, Nat.lt_of_lt_of_le h.lt hb.size, h.le, h.max, fun j hj => (World.cell?_of_block (a := ⟨g, off + j, none⟩) hb').trans (h.holds j hj), fun j hj => ⟨by rw [World.cell?_of_block (a := ⟨g, off + j, none⟩) hb']; exact (h.there j hj).1, (World.frozen?_of_block (a := ⟨g, off + j, none⟩) hb').trans (h.there j hj).2⟩⟩

theorem Que.tail {W : World} {base g off cap : Nat} {x : Int} {l : List Int} (h : Que W base g off cap (x :: l)) : Que W base g (off + 1) (cap - 1) l := by
  have hle := h.le
  simp only [List.length_cons] at hle
  refine ⟨h.new, h.lt, by omega, by have := h.max; omega, fun j hj => ?_, fun j hj => ?_⟩
  · have := h.holds (j + 1) (by simp; omega)
    rw [show off + 1 + j = off + (j + 1) by omega, this]
    simp [List.getD]
  · rw [show off + 1 + j = off + (j + 1) by omega]
    exact h.there (j + 1) (by omega)

/-- A block just laid is such a slice. -/
theorem que_new (w : World) (base : Nat) (x : Int) (t : TypeId) (hb : base ≤ w.heap.size) : Que (w.alloc (.cells #[.int .i64 x] t)) base w.heap.size 0 1 [x] := by
  have hb' := BoxC.new w t #[.int .i64 x]
  refine ⟨hb, hb'.lt, by simp, by unfold maxLen; omega, fun j hj => ?_, fun j hj => ?_⟩
  · obtain rfl : j = 0 := by simpa using hj
    rw [Nat.zero_add]
    exact hb'.cell 0
  · obtain rfl : j = 0 := by omega
    rw [Nat.zero_add]
    refine ⟨?_, hb'.frozen 0⟩
    rw [hb'.cell 0]; rfl

theorem tape_setCells (b : Nat) : ∀ (vs : List Value) (o : Nat) (w : World), (w.setCells b o vs).tape = w.tape ∧ (w.setCells b o vs).heap.size = w.heap.size ∧ (w.setCells b o vs).os = w.os ∧ (w.setCells b o vs).output = w.output ∧ ∀ k, k ≠ b → (w.setCells b o vs).heap[k]? = w.heap[k]?
  | [], _, _ => ⟨rfl, rfl, rfl, rfl, fun _ _ => rfl⟩
  | v :: r, o, w => by
    obtain ⟨h1, h2, h3, h4, h5⟩ := tape_setCells b r (o + 1) (w.setCell ⟨b, o, none⟩ v)
    exact ⟨h1, h2.trans (by simp), h3, h4, fun k hk => (h5 k hk).trans (Below.heap_setCell w ⟨b, o, none⟩ v k hk)⟩

theorem grown_setCells (w : World) (b o : Nat) (vs : List Value) : w.grownBy (w.setCells b o vs) (some b) := by
  obtain ⟨h1, h2, h3, h4, h5⟩ := tape_setCells b vs o w
  exact ⟨h3, h1, h4, by rw [h2]; exact Nat.le_refl _, fun k _ hne => h5 k (fun e => hne (by rw [e]))⟩

theorem getD_append_left {a b : List Int} {j : Nat} (h : j < a.length) : (a ++ b).getD j 0 = a.getD j 0 := by
  simp [List.getD, List.getElem?_append_left h]

theorem getD_append_right {a b : List Int} {j : Nat} (h : a.length ≤ j) : (a ++ b).getD j 0 = b.getD (j - a.length) 0 := by
  simp [List.getD, List.getElem?_append_right h]

theorem run_append_que {P : Program} (w : World) (t ty : TypeId) (base : Nat) (e : TypeId) (i : TypeInfo) (ht : P.underlying t = some (.slice e)) (hi : P.info? e = some i) (hz : i.zero = some (.int .i64 0)) (hsize : i.size = 1) (hby : i.bytes = 8)
    (g off cap : Nat) (l : List Int) (hq : Que w base g off cap l) (x : Value) (xs : List Int) (hs : Src P 1 t x xs.length (nums xs) w) (hlen : l.length + xs.length ≤ 1048576) (hbase : base ≤ w.heap.size) :
    ∃ g' off' cap' w', (Builtin.append_ #[t, t] ty #[.slice (some ⟨g, off, none⟩) l.length cap, x]).run P w = .ok (.slice (some ⟨g', off', none⟩) (l.length + xs.length) cap') w' ∧
      Que w' base g' off' cap' (l ++ xs) ∧ w.grownBy w' (some g) ∧ (g' = g ∨ g' = w.heap.size) := by
  by_cases hroom : l.length + xs.length ≤ cap
  · have hr := run_append_room_src (P := P) w t t ty e i ht hi g off l.length cap x xs.length (nums xs) (by rw [hsize]; exact hs) hroom
      (fun j hj => by rw [nums_length] at hj; rw [hsize, Nat.mul_one, Nat.add_assoc]; exact (hq.there (l.length + j) (by omega)).1)
      (fun j hj => by rw [nums_length] at hj; rw [hsize, Nat.mul_one, Nat.add_assoc]; exact (hq.there (l.length + j) (by omega)).2)
    rw [hsize, Nat.mul_one] at hr
    refine ⟨g, off, cap, _, hr, ?_, grown_setCells _ _ _ _, .inl rfl⟩
    have hin := World.cell?_setCells_in g (nums xs) (off + l.length) w (fun j hj => by rw [nums_length] at hj; rw [Nat.add_assoc]; exact (hq.there (l.length + j) (by omega)).1)
    refine ⟨hq.new, by rw [(tape_setCells g (nums xs) (off + l.length) w).2.1]; exact hq.lt, by rw [List.length_append]; exact hroom, hq.max, fun j hj => ?_, fun j hj => ⟨?_, ?_⟩⟩
    · rw [List.length_append] at hj
      by_cases h : j < l.length
      · rw [World.cell?_setCells_out g _ _ _ _ (fun _ _ => .inl (by show off + j < off + l.length; omega)), getD_append_left h]
        exact hq.holds j h
      · have h2 := hin (j - l.length) (by rw [nums_length]; omega)
        rw [show off + l.length + (j - l.length) = off + j by omega] at h2
        rw [h2, getD_append_right (by omega)]
        have h3 := nums_get (l := xs) (j := j - l.length) (by omega)
        rw [List.getElem?_eq_getElem (by rw [nums_length]; omega)] at h3
        exact h3
    · by_cases h : l.length ≤ j ∧ j < l.length + xs.length
      · have h2 := hin (j - l.length) (by rw [nums_length]; omega)
        rw [show off + l.length + (j - l.length) = off + j by omega] at h2
        rw [h2]; rfl
      · rw [World.cell?_setCells_out g _ _ _ _ (fun _ _ => by show off + j < off + l.length ∨ off + l.length + (nums xs).length ≤ off + j; rw [nums_length]; omega)]
        exact (hq.there j hj).1
    · rw [World.frozen?_setCells]
      exact (hq.there j hj).2
  · have hold : (Builtin.firstCells i.size l.length (.slice (some ⟨g, off, none⟩) l.length cap)).run P w.drew = .ok (nums l).toArray w.drew := by
      rw [hsize]
      refine run_firstCells_some w.drew 1 l.length ⟨g, off, none⟩ l.length cap (nums l) (by rw [nums_length, Nat.mul_one]) (fun j u hu => ?_)
      have hj : j < l.length := by
        have := (List.getElem?_eq_some_iff.1 hu).1
        rwa [nums_length] at this
      rw [nums_get hj] at hu
      rw [Addr.add_lit]
      exact (hq.holds j hj).trans hu
    have hr := run_append_grow_src (P := P) w t t ty e i (.int .i64 0) ht hi hz (some ⟨g, off, none⟩) l.length cap (nums l) hold x xs.length (nums xs) (by rw [hsize]; exact hs) (by omega) (by omega) (growslice_fits (by omega) (by rw [hby]; omega))
    have hge := grownCap_ge w (l.length + xs.length) cap e
    have hmx := grownCap_le_maxLen w (l.length + xs.length) cap e (by unfold maxLen; omega)
    refine ⟨w.heap.size, 0, _, _, hr, ?_, ⟨rfl, rfl, rfl, by simp, fun k hk _ => Below.heap_alloc w.drew _ k hk⟩, .inr rfl⟩
    have hsz : ((nums l ++ nums xs).toArray ++ Builtin.zeroCells (Value.int .i64 0).cells (grownCap w (l.length + xs.length) cap e - (l.length + xs.length))).size = grownCap w (l.length + xs.length) cap e := by
      simp only [Array.size_append, List.size_toArray, size_zeroCells, List.length_append, nums_length, Value.cells, List.size_toArray, List.length_cons, List.length_nil]
      omega
    obtain ⟨cur, hcur⟩ : ∃ cur, (nums l ++ nums xs).toArray ++ Builtin.zeroCells (Value.int .i64 0).cells (grownCap w (l.length + xs.length) cap e - (l.length + xs.length)) = cur := ⟨_, rfl⟩
    have hget : ∀ j, j < l.length + xs.length → cur[j]? = (nums l ++ nums xs)[j]? := fun j hj => by
      rw [← hcur, Array.getElem?_append_left (by simp [nums_length]; omega)]
      simp
    rw [hcur] at hsz ⊢
    have hbx : BoxC (w.drew.alloc (.cells cur e)) w.heap.size e cur := BoxC.new w.drew e cur
    have hcell : ∀ j, (w.drew.alloc (.cells cur e)).cell? ⟨w.heap.size, j, none⟩ = cur[j]? := fun j => hbx.cell j
    refine ⟨hbase, by simp, by rw [List.length_append]; exact hge, hmx, fun j hj => ?_, fun j hj => ⟨?_, ?_⟩⟩
    · rw [List.length_append] at hj
      rw [Nat.zero_add, hcell, hget j hj]
      by_cases h : j < l.length
      · rw [List.getElem?_append_left (by rw [nums_length]; exact h), getD_append_left h]
        exact nums_get h
      · rw [List.getElem?_append_right (by rw [nums_length]; omega), nums_length, getD_append_right (by omega)]
        exact nums_get (by omega)
    · rw [Nat.zero_add, hcell, Array.getElem?_eq_getElem (by omega)]; rfl
    · rw [Nat.zero_add]
      exact hbx.frozen j

theorem wpList_append_que {P : Program} (w : World) {ops : Array Oper} {rest : List Oper} {o : Oper} {a : Act} {Q : Exit → Act → World → Prop} (hgd : o.guard = none) (s x : Operand) (t : TypeId)
    (ho : o.op = .call { callee := .builtin .append, args := #[s, x], argTypes := #[t, t] }) (base : Nat) (e : TypeId) (i : TypeInfo) (ht : P.underlying t = some (.slice e)) (hi : P.info? e = some i) (hz : i.zero = some (.int .i64 0)) (hsize : i.size = 1) (hby : i.bytes = 8)
    (g off cap : Nat) (l : List Int) (hq : Que w base g off cap l) (nl : Nat) (hnl : nl = l.length) (hv : a.eval s = .slice (some ⟨g, off, none⟩) nl cap) (xv : Value) (hx : a.eval x = xv) (xs : List Int) (nx : Nat) (hnx : nx = xs.length) (hs : Src P 1 t xv xs.length (nums xs) w) (hlen : l.length + xs.length ≤ 1048576) (hbase : base ≤ w.heap.size)
    (h : ∀ g' off' cap' w', Que w' base g' off' cap' (l ++ xs) → w.grownBy w' (some g) → (g' = g ∨ g' = w.heap.size) → wpList P ops Q rest (a.put o.dst (.slice (some ⟨g', off', none⟩) (nl + nx) cap')) w') : wpList P ops Q (o :: rest) a w := by
  subst hnl hnx
  refine wpList_plain hgd fun K hK' => ?_
  obtain ⟨g', off', cap', w', hrun, h1, h2, h3⟩ := run_append_que (P := P) w t o.type base e i ht hi hz hsize hby g off cap l hq xv xs hs hlen hbase
  unfold Oper.wp
  simp [execOp, ho, resolve, invoke, builtin, hv, hx, hrun, Result.andThen]
  exact hK' _ _ (h g' off' cap' w' h1 h2 h3)

/-! ### a map whose elements are values as they are -/

def RV : Value → Option (DataW Value × List MemPlace) := fun v => some (.held v, [])

theorem wpList_lookup_val {P : Program} (w : World) {ops : Array Oper} {rest : List Oper} {o : Oper} {a : Act} {Q : Exit → Act → World → Prop}
    (hg : o.guard = none) (m x : Operand) (t : TypeId) (hop : o.op = Op.lookup t m x false)
    (k e : TypeId) (K : Go.Maps.Keyed P k) (ht : P.underlying t = some (.map k e)) {z : Value} (hz : (zeroValue e).run P w = .ok z w) (b n : Nat) (D : DataW Value)
    (hm : a.eval m = .map (some b)) (hown : w.ownsMap P k RV b n D) (key : Value) (kl : Lit) (hx : a.eval x = key) (hkey : keyOf P k key = some kl) (v : Value) (hat : ∀ z, D.atKey kl z = .held v)
    (hK : wpList P ops Q rest (a.put o.dst v) w) :
    wpList P ops Q (o :: rest) a w := by
  refine wpList_plain hg fun K' hK' => ?_
  obtain ⟨u, ps, hrun, hu⟩ := hown.lookup K ht hz (zd := .held z) (zp := []) rfl hkey
  have e : u = v := by
    rw [hat] at hu
    exact (show u = v ∧ ps = [] by simpa [RV] using hu).1
  subst e
  unfold Oper.wp
  simp [execOp, hop, hm, hx, hrun, Result.andThen]
  exact hK' _ _ hK

theorem wpList_lookup_has {P : Program} (w : World) {ops : Array Oper} {rest : List Oper} {o : Oper} {a : Act} {Q : Exit → Act → World → Prop}
    (hg : o.guard = none) (m x : Operand) (t : TypeId) (hop : o.op = Op.lookup t m x true)
    (k e : TypeId) (K : Go.Maps.Keyed P k) (ht : P.underlying t = some (.map k e)) {z : Value} (hz : (zeroValue e).run P w = .ok z w) (b n : Nat) (D : DataW Value)
    (hm : a.eval m = .map (some b)) (hown : w.ownsMap P k RV b n D) (key : Value) (kl : Lit) (hx : a.eval x = key) (hkey : keyOf P k key = some kl) (c : Bool) (hc : Go.Maps.has D kl = c)
    (hK : ∀ v, wpList P ops Q rest (a.put o.dst (.tuple #[v, .bool c])) w) :
    wpList P ops Q (o :: rest) a w :=
  wpList_lookup_own_ok w hg m x t hop k e K ht RV hz (.held z) [] rfl b n D hm hown key kl hx hkey (fun v ps hv => by rw [hc]; exact hK v)

end Go.Proofs.Ytpnmepobdnclkaa.Base3
