/-
  What need of package pratt answers: a map of the primes that are needed, each with the primes of what is one less.
-/
import Derived.Test.YtmomlcibiklajaaCalls42
import Derived.Test.YtmomlcibiklajaaBase3
import Derived.Deep.LoopGhost
namespace Go.Proofs.Ytmomlcibiklajaa.Calls44
set_option linter.unusedVariables false
open Go.ChangeShapes Go.WideShapes Go.ChangeAt Go.RowKit Go.Deep Go.Maps Go.Proofs.Ytmomlcibiklajaa.Base Go.Proofs.Ytmomlcibiklajaa.Base2 Go.Proofs.Ytmomlcibiklajaa.Base3 Go.Proofs.Ytmomlcibiklajaa.Num Go.Proofs.Ytmomlcibiklajaa.Num13 Go.Proofs.Ytmomlcibiklajaa.Num19 Go.Proofs.Ytmomlcibiklajaa.Num31 Go.Proofs.Ytmomlcibiklajaa.Calls35 Go.Proofs.Ytmomlcibiklajaa.Calls36 Go.Proofs.Ytmomlcibiklajaa.Calls41 Go.Proofs.Ytmomlcibiklajaa.Calls42

theorem wf_small {p : Nat} (h : p ≤ 1048576) : (Lit.int .i64 (p : Int)).wf = true := by
  have m0 : IntKind.i64.min = -9223372036854775808 := by decide
  have m1 : IntKind.i64.max = 9223372036854775807 := by decide
  simp [Lit.wf]; omega

theorem key_small {p : Nat} (h : p ≤ 1048576) : keyOf Try.prog 2 (.int .i64 (p : Int)) = some (.int .i64 (p : Int)) := keyOf_int_mk Try.underlying2 (wf_small h)

theorem irow_kept {W W' : World} {ao : Option Addr} {l : List Int} {row : Option Nat} (h : IRow W ao l) (hg : W.grownBy W' row) (hne : ∀ ad, ao = some ad → l ≠ [] → some ad.block ≠ row) : IRow W' ao l := by
  refine ⟨h.1, fun ad e j hj => ?_⟩
  have c := h.2 ad e j hj
  have hl := cell_lt c
  have hl2 : ad.block < W.heap.size := by rwa [add_block] at hl
  have hb := hg.block ad.block hl2 (hne ad e (fun e' => by rw [e'] at hj; simp at hj))
  exact (World.cell?_of_block (a := ad.add j) (by rw [add_block]; exact hb)).trans c

/-- Each key has the primes of what is one less, in a row of its own. -/
def Rows (W : World) (D : DataW Value) (S : List Nat) (B g : Nat) : Prop :=
  ∀ p ∈ S, ∃ ao cap qs, (∀ z, D.atKey (.int .i64 (p : Int)) z = .held (.slice ao qs.length cap)) ∧ Pf (p - 1) qs ∧ qs.length ≤ 20 ∧ IRow W ao (zs qs) ∧ ∀ ad, ao = some ad → zs qs ≠ [] → ad.block ≠ B ∧ ad.block ≠ g

theorem Rows.kept {W W' : World} {D : DataW Value} {S : List Nat} {B g : Nat} {row : Option Nat} (h : Rows W D S B g) (hg : W.grownBy W' row) (hr : row = none ∨ row = some B ∨ row = some g) : Rows W' D S B g := fun p hp => by
  obtain ⟨ao, cap, qs, h1, h2, h3, h4, h5⟩ := h p hp
  refine ⟨ao, cap, qs, h1, h2, h3, irow_kept h4 hg (fun ad e hne => ?_), h5⟩
  obtain ⟨n1, n2⟩ := h5 ad e hne
  rcases hr with rfl | rfl | rfl
  · simp
  · simpa using n1
  · simpa using n2

theorem Rows.below {W W' : World} {D : DataW Value} {S : List Nat} {B g : Nat} {n : Nat} (h : Rows W D S B g) (hb : Below n W W') (hn : W.heap.size ≤ n) : Rows W' D S B g := fun p hp => by
  obtain ⟨ao, cap, qs, h1, h2, h3, h4, h5⟩ := h p hp
  exact ⟨ao, cap, qs, h1, h2, h3, irow_below h4 hb hn, h5⟩

/-- The sliding slice has moved into a new block. -/
theorem Rows.move {W W' : World} {D : DataW Value} {S : List Nat} {B g g' : Nat} (h : Rows W' D S B g) (hl : Rows W D S B g) (hg : g' = g ∨ g' = W.heap.size) : Rows W' D S B g' := fun p hp => by
  obtain ⟨ao, cap, qs, h1, h2, h3, h4, h5⟩ := h p hp
  obtain ⟨ao', cap', qs', h1', h2', h3', h4', h5'⟩ := hl p hp
  have e : ao = ao' ∧ qs = qs' := by
    have e2 := (h1 .nil).symm.trans (h1' .nil)
    simp at e2
    exact ⟨e2.1, h2.uniq h2'⟩
  obtain ⟨rfl, rfl⟩ := e
  refine ⟨ao, cap, qs, h1, h2, h3, h4, fun ad e hne => ?_⟩
  obtain ⟨n1, n2⟩ := h5 ad e hne
  refine ⟨n1, ?_⟩
  rcases hg with rfl | rfl
  · exact n2
  · have hp : 0 < (zs qs).length := List.length_pos_iff.2 hne
    have := cell_lt (h4'.2 ad e 0 hp)
    rw [add_block] at this
    omega

theorem src_irow {w : World} {ao : Option Addr} {l : List Int} {n cap : Nat} (h : IRow w ao l) (hn : n = l.length) : Src Try.prog 1 42 (.slice ao n cap) l.length (nums l) w := by
  subst hn
  rcases ao with _ | ad
  · obtain rfl := h.1 rfl
    exact Src.ofNil w Try.underlying42 cap
  · refine Src.ofSlice w Try.underlying42 ad l.length cap (nums l) (by rw [nums_length, Nat.mul_one]) (fun j u hu => ?_) (nums_one l)
    have hj : j < l.length := by
      have := (List.getElem?_eq_some_iff.1 hu).1
      rwa [nums_length] at this
    rw [nums_get hj] at hu
    exact (h.2 ad rfl j hj).trans hu

theorem keylit (x : Int) : WideAt.IsKeyLit (.int .i64 x) := trivial

/-- What is known of the keys, and of what is still open. -/
structure Inv (n : Nat) (S L : List Nat) (D : DataW Value) : Prop where
  nodup : S.Nodup
  need : ∀ p ∈ S, Need n p
  needL : ∀ p ∈ L, Need n p
  top : n ∈ S ∨ n ∈ L
  closed : ∀ p ∈ S, ∀ q, Pr q → q ∣ p - 1 → q ∈ S ∨ q ∈ L
  has : ∀ p : Nat, Go.Maps.has D (.int .i64 (p : Int)) = true ↔ p ∈ S
  only : ∀ x : Int, Go.Maps.has D (.int .i64 x) = true → ∃ p : Nat, x = (p : Int)
  few : L.length ≤ 20 * S.length + 1

theorem Inv.skip {n p : Nat} {S L : List Nat} {D : DataW Value} (h : Inv n S (p :: L) D) (hp : p ∈ S) : Inv n S L D := by
  have hin : ∀ q, q ∈ S ∨ q ∈ p :: L → q ∈ S ∨ q ∈ L := fun q hq => by
    rcases hq with hq | hq
    · exact .inl hq
    · rcases List.mem_cons.1 hq with e | e
      · subst e; exact .inl hp
      · exact .inr e
  exact ⟨h.nodup, h.need, fun q hq => h.needL q (by simp [hq]), hin _ h.top, fun q hq r hr hd => hin _ (h.closed q hq r hr hd), h.has, h.only, by have := h.few; simp at this; omega⟩

theorem Inv.take {n p : Nat} {S L qs : List Nat} {D : DataW Value} (h : Inv n S (p :: L) D) (hm : IsMap D) (hp : p ∉ S) (hq : Pf (p - 1) qs) (hl : qs.length ≤ 20) (d : DataW Value) : Inv n (S ++ [p]) (L ++ qs) (D.put (.int .i64 (p : Int)) d) := by
  have hpn := h.needL p (by simp)
  have hin : ∀ q, q ∈ S ∨ q ∈ p :: L → q ∈ S ++ [p] ∨ q ∈ L ++ qs := fun q hq => by
    rcases hq with hq | hq
    · exact .inl (by simp [hq])
    · rcases List.mem_cons.1 hq with e | e
      · exact .inl (by simp [e])
      · exact .inr (by simp [e])
  refine ⟨List.nodup_append.2 ⟨h.nodup, by simp, fun a ha b hb => by
      have e : b = p := by simpa using hb
      subst e
      exact fun e => hp (e ▸ ha)⟩, fun q hq' => ?_, fun q hq' => ?_, hin _ h.top, fun q hq' r hr hd => ?_, fun q => ?_, fun x hx => ?_, ?_⟩
  · rcases List.mem_append.1 hq' with e | e
    · exact h.need q e
    · have e : q = p := by simpa using e
      rw [e]; exact hpn
  · rcases List.mem_append.1 hq' with e | e
    · exact h.needL q (by simp [e])
    · obtain ⟨h1, h2⟩ := (hq.2 q).1 e
      exact .step hpn h1 h2
  · rcases List.mem_append.1 hq' with e | e
    · exact hin _ (h.closed q e r hr hd)
    · have e : q = p := by simpa using e
      subst e
      exact .inr (by simp [(hq.2 r).2 ⟨hr, hd⟩])
  · by_cases e : q = p
    · subst e
      rw [has_put_same hm (keylit _)]
      simp
    · rw [has_put_other (by simp; omega), h.has q]
      simp [e]
  · by_cases e : x = (p : Int)
    · exact ⟨p, e⟩
    · rw [has_put_other (by simp; exact e)] at hx
      exact h.only x hx
  · have := h.few
    simp at this ⊢
    omega

theorem Inv.bound {n : Nat} {S L : List Nat} {D : DataW Value} (h : Inv n S L D) (hn : Pr n) (hn2 : n ≤ 1048576) : S.length ≤ 21 := need_len hn hn2 h.nodup h.need

theorem Inv.done {n : Nat} {S : List Nat} {D : DataW Value} (h : Inv n S [] D) : ∀ q, q ∈ S ↔ Need n q :=
  need_closed (by rcases h.top with e | e; exact e; cases e) h.need (fun p hp q hq hd => by rcases h.closed p hp q hq hd with e | e; exact e; cases e)

/-- What need answers. -/
def Needed (n : Nat) (w : World) (e : Ending) (w' : World) : Prop :=
  ∃ (S : List Nat) (D : DataW Value) (g : Nat), e = .returned (.map (some w.heap.size)) ∧ Inv n S [] D ∧ w'.ownsMap Try.prog 2 RV w.heap.size S.length D ∧ Rows w' D S w.heap.size g

/-- What is still open: nothing, or a slice that slides. -/
def Open (W : World) (base : Nat) (v : Value) (g : Nat) (L : List Nat) : Prop :=
  (L = [] ∧ ∃ a c, v = .slice a 0 c) ∨ (L ≠ [] ∧ ∃ off cap, v = .slice (some ⟨g, off, none⟩) L.length cap ∧ Que W base g off cap (zs L))

theorem open_full {W : World} {base g off c : Nat} {L : List Nat} (hL : L.length = 0) : Open W base (.slice (some ⟨g, off, none⟩) L.length c) g L :=
  .inl ⟨List.length_eq_zero_iff.1 hL, _, c, by rw [hL]⟩

theorem open_tail {W : World} {base g off cap p : Nat} {L : List Nat} (h : Que W base g off cap (zs (p :: L))) : Open W base (.slice (some ⟨g, off + 1, none⟩) L.length (cap - 1)) g L := by
  cases L with
  | nil => exact .inl ⟨rfl, _, _, rfl⟩
  | cons q L => exact .inr ⟨by simp, off + 1, cap - 1, rfl, Que.tail h⟩

theorem map_below {W W' : World} {n b m : Nat} {D : DataW Value} (h : W.ownsMap Try.prog 2 RV b m D) (hb : Below n W W') (hn : b < n) : W'.ownsMap Try.prog 2 RV b m D := by
  obtain ⟨es, clock, h1, h2⟩ := h
  exact ⟨es, clock, (hb.block b hn).trans h1, h2⟩

theorem Rows.add {W : World} {D : DataW Value} {S : List Nat} {B g p : Nat} (h : Rows W D S B g) (hm : IsMap D) (hp : p ∉ S) {ao : Option Addr} {cap : Nat} {qs : List Nat} (h2 : Pf (p - 1) qs) (h3 : qs.length ≤ 20) (h4 : IRow W ao (zs qs)) (h5 : ∀ ad, ao = some ad → zs qs ≠ [] → ad.block ≠ B ∧ ad.block ≠ g) :
    Rows W (D.put (.int .i64 (p : Int)) (.held (.slice ao qs.length cap))) (S ++ [p]) B g := fun q hq => by
  rcases List.mem_append.1 hq with e | e
  · obtain ⟨ao', cap', qs', k1, k2, k3, k4, k5⟩ := h q e
    have hne : q ≠ p := fun e2 => hp (e2 ▸ e)
    exact ⟨ao', cap', qs', fun z => by rw [atKey_put_other (by simp; omega)]; exact k1 z, k2, k3, k4, k5⟩
  · have e : q = p := by simpa using e
    subst e
    exact ⟨ao, cap, qs, fun z => atKey_put_same hm (keylit _) _ z, h2, h3, h4, h5⟩

/-- One more prime has been taken up. -/
theorem need_step {w wr w1 w2 w3 : World} {D : DataW Value} {S qs : List Nat} {g g' off cap p c1 : Nat} {L : List Nat} {ao : Option Addr} (hsz : w.heap.size + 1 ≤ wr.heap.size) (hB : Below w.heap.size w wr) (hRw : Rows wr D S w.heap.size g) (hmap : IsMap D) (hp : p ∉ S)
    (hQ : Que wr (w.heap.size + 1) g off cap (zs (p :: L))) (hB1 : Below wr.heap.size wr w1) (hPf : Pf (p - 1) qs) (hql : qs.length ≤ 20) (hir : IRow w1 ao (zs qs)) (hblk : ∀ ad, ao = some ad → wr.heap.size ≤ ad.block)
    (hg2 : w1.grownBy w2 (some w.heap.size)) (hM2 : w2.ownsMap Try.prog 2 RV w.heap.size (S.length + 1) (D.put (.int .i64 (p : Int)) (.held (.slice ao qs.length c1)))) (hg3 : w2.grownBy w3 (some g)) (hg' : g' = g ∨ g' = w2.heap.size) :
    Rows w3 (D.put (.int .i64 (p : Int)) (.held (.slice ao qs.length c1))) (S ++ [p]) w.heap.size g' ∧ w3.ownsMap Try.prog 2 RV w.heap.size (S ++ [p]).length (D.put (.int .i64 (p : Int)) (.held (.slice ao qs.length c1))) ∧ Below w.heap.size w w3 ∧ w.heap.size + 1 ≤ w3.heap.size := by
  have hgn := hQ.new
  have hgl := hQ.lt
  have hs1 := hB1.size
  have hs2 := hg2.size
  have hs3 := hg3.size
  have i2 := irow_kept hir hg2 (fun ad e _ => by have := hblk ad e; simp; omega)
  have i3 := irow_kept i2 hg3 (fun ad e _ => by have := hblk ad e; simp; omega)
  have r2 := (hRw.below hB1 (Nat.le_refl _)).kept hg2 (.inr (.inl rfl))
  have r3 := r2.kept hg3 (.inr (.inr rfl))
  refine ⟨(r3.move r2 hg').add hmap hp hPf hql i3 (fun ad e hne => ?_), ?_, ?_, by omega⟩
  · have h1 := hblk ad e
    have hpos : 0 < (zs qs).length := List.length_pos_iff.2 hne
    have h2 := cell_lt (i2.2 ad e 0 hpos)
    rw [add_block] at h2
    refine ⟨by omega, ?_⟩
    rcases hg' with rfl | rfl <;> omega
  · rw [List.length_append]
    exact hM2.kept hg3 (by simp; omega)
  · have b1 := hB.trans (hB1.mono hB.size)
    have b2 := b1.grown hg2 (by omega) (fun k e => by cases e; exact Nat.le_refl _)
    exact b2.grown hg3 (by omega) (fun k e => by cases e; omega)

set_option maxRecDepth 100000 in
set_option maxHeartbeats 2000000 in
theorem need_any (n : Nat) (hn : Pr n) (hn2 : n ≤ 1048576) (w : World) :
    Calls Try.prog 18 #[.int .i64 (n : Int)] w fun e w' => Needed n w e w' ∧ Below w.heap.size w w' := by
  obtain ⟨i0, hi, hz0, hz1, hz2⟩ := info_parts infoI
  have HPR := hid hn
  clear hn
  have hmk := run_makeMap (P := Try.prog) 40 w
  go_enter Try.func18, Try.ntmps18
  go_wp2
  clear hmk
  have hM0 := hid ((World.ownsMap_made w Try.prog 2 RV).alloc (.cells #[.int .i64 (n : Int)] 2))
  have hQ0 := hid (que_new (w.alloc (.map #[] 0)) (w.heap.size + 1) (n : Int) 2 (by simp))
  have hB0 : Below w.heap.size w ((w.alloc (.map #[] 0)).alloc (.cells #[.int .i64 (n : Int)] 2)) := ((Below.refl _ w).alloc (Nat.le_refl _) _).alloc (by simp) _
  have hI0 : Hid (Inv n [] [n] (.map [])) := ⟨by simp, fun p hp => (by simp at hp), fun p hp => (by have e : p = n := by simpa using hp
                                                                                                    rw [e]; exact .self), .inr (by simp), fun p hp => (by simp at hp), fun p => by simp [Go.Maps.has], fun x hx => (by simp [Go.Maps.has] at hx), by simp⟩
  obtain ⟨W0, hW0⟩ : ∃ W0, (w.alloc (.map #[] 0)).alloc (.cells #[.int .i64 (n : Int)] 2) = W0 := ⟨_, rfl⟩
  rw [World.size_alloc, hW0] at hQ0
  rw [hW0] at hM0 hB0 ⊢
  clear hW0
  go_loopg [4] (1 + 21 * 22) (fun gk v wr => ∃ (S L : List Nat) (D : DataW Value) (g : Nat) (u : Value), u = v ∧ Hid (gk = L.length + 21 * (22 - S.length)) ∧ Hid (Inv n S L D) ∧ Hid (wr.ownsMap Try.prog 2 RV w.heap.size S.length D) ∧ Hid (Rows wr D S w.heap.size g) ∧ Hid (Open wr (w.heap.size + 1) u g L) ∧ Below w.heap.size w wr ∧ w.heap.size + 1 ≤ wr.heap.size)
  case atStart => exact ⟨[], [n], .map [], w.heap.size + 1, _, rfl, rfl, hI0, hM0.out, fun p hp => (by simp at hp), .inr ⟨by simp, 0, 1, rfl, hQ0.out⟩, hB0, by have := hB0.size; have := hQ0.out.lt; omega⟩
  case round =>
    obtain ⟨S, L, D, g, u, hu, hgk, hI, hM, hRw, hO, hB, hsz⟩ := hrel
    subst hu
    cases L with
    | nil =>
      obtain ⟨a, c, hv⟩ : ∃ a c, u = .slice a 0 c := by
        rcases hO.out with ⟨_, h⟩ | ⟨h, _⟩
        · exact h
        · exact absurd rfl h
      subst hv
      go_wp2
      go_ret
      exact ⟨⟨S, D, g, rfl, hI.out, hM.out, hRw.out⟩, hB⟩
    | cons p L =>
      obtain ⟨off, cap, hv, hq⟩ : ∃ off cap, u = .slice (some ⟨g, off, none⟩) (p :: L).length cap ∧ Que wr (w.heap.size + 1) g off cap (zs (p :: L)) := by
        rcases hO.out with ⟨h, _⟩ | ⟨_, h⟩
        · cases h
        · exact h
      subst hv
      have HQ := hid hq
      clear hq hO
      rw [List.length_cons]
      have hp2 : p ≤ 1048576 := Nat.le_trans ((hI.out.needL p (by simp)).le HPR.out) hn2
      have hp1 : 2 ≤ p := ((hI.out.needL p (by simp)).pr HPR.out).1
      have c0 : wr.cell? ⟨g, off, none⟩ = some (.int .i64 (p : Int)) := by
        have h := HQ.out.holds 0 (by simp [zs])
        rw [Nat.add_zero, zs_get] at h
        simpa [List.getD] using h
      have hcap : L.length + 1 ≤ cap := by have := HQ.out.le; rw [zs_length] at this; simpa using this
      have hcmx : cap ≤ maxLen := HQ.out.max
      have hfew := hI.out.few
      have hSb := hI.out.bound HPR.out hn2
      simp only [List.length_cons] at hfew
      by_cases hp : p ∈ S
      · have hhas : Hid (Go.Maps.has D (.int .i64 (p : Int)) = true) := (hI.out.has p).2 hp
        have HI := hid (hI.out.skip hp)
        clear hp hI
        go_wp2_with (at_lookup; refine wpList_lookup_has _ rfl _ _ 40 rfl 2 42 (int_keyed Try.underlying2) Try.underlying40 (Try.zeroValue42 _) w.heap.size S.length D rfl hM.out _ _ rfl (key_small hp2) true hhas.out ?_; intro v0)
        case inl =>
          go_roundg (L.length + 21 * (22 - S.length))
          case measure => have := hgk.out; simp at this; omega
          case rel => exact ⟨S, L, D, g, _, rfl, rfl, HI.out, hM.out, hRw.out, open_full (by omega), hB, hsz⟩
        case inr =>
          go_roundg (L.length + 21 * (22 - S.length))
          case measure => have := hgk.out; simp at this; omega
          case rel => exact ⟨S, L, D, g, _, rfl, rfl, HI.out, hM.out, hRw.out, open_tail HQ.out, hB, hsz⟩
      · have hhas : Hid (Go.Maps.has D (.int .i64 (p : Int)) = false) := by
          show _ = _
          cases hc : Go.Maps.has D (.int .i64 (p : Int)) with
          | false => rfl
          | true => exact absurd ((hI.out.has p).1 hc) hp
        have hmap : Hid (IsMap D) := hM.out.isMap
        have HNP := hid hp
        clear hp
        have cP := primesOf_any (p - 1) (by omega) (by omega) wr
        rw [show ((p - 1 : Nat) : Int) = (p : Int) - 1 by omega] at cP
        have tok1 : True := trivial
        have hgB : w.heap.size + 1 ≤ g := HQ.out.new
        have hgl := HQ.out.lt
        go_wp2_with (first
          | (at_lookup; have _t := tok1; refine wpList_lookup_has _ rfl _ _ 40 rfl 2 42 (int_keyed Try.underlying2) Try.underlying40 (Try.zeroValue42 _) w.heap.size S.length D rfl hM.out _ _ rfl (key_small hp2) false hhas.out ?_; intro v0; clear tok1)
          | (go_at_call 30; refine cP.mono ?_; rintro e w1 ⟨⟨v1, qs, rfl, hPf, hql, hown1⟩, hB1⟩; obtain ⟨ao, c1, rfl, hir⟩ := irow_owns hown1 (by rw [zs_length]); rw [zs_length]; have hblk := hid (fun ad (e : ao = some ad) => (Go.Proofs.Ytmomlcibiklajaa.Calls11.owns_block' hown1 ad e).1); have HPF := hid hPf; have HIR := hid hir; have hM1 := hid (map_below hM.out hB1 (by omega)); have HQ1 := hid (HQ.out.below hB1 hgl); have hs1 := hB1.size; clear hPf hir hown1)
          | (at_mapUpdate; refine wpList_mapUpdate_own _ rfl _ _ _ 40 rfl 2 42 (int_keyed Try.underlying2) Try.underlying40 RV w.heap.size S.length D rfl hM1.out (by unfold maxLen; omega) _ _ _ rfl rfl (key_small hp2) (.held (.slice ao qs.length c1)) [] rfl ?_; intro w2 hown2 hgrow2; have hs2 := hgrow2.size; have HQ2 := hid (HQ1.out.kept hgrow2 (by simp; omega)); have HIR2 := hid (irow_kept HIR.out hgrow2 (fun ad e _ => by have := hblk.out ad e; simp; omega)))
          | (at_lookup; refine wpList_lookup_val _ rfl _ _ 40 rfl 2 42 (int_keyed Try.underlying2) Try.underlying40 (Try.zeroValue42 _) w.heap.size (S.length + 1) _ rfl hown2 _ _ rfl (key_small hp2) (.slice ao qs.length c1) (fun z => atKey_put_same hmap.out (keylit _) _ z) ?_)
          | (at_builtin; refine wpList_append_que _ rfl _ _ 42 rfl (w.heap.size + 1) 2 i0 Try.underlying42 hi hz0 hz1 hz2 g off cap (zs (p :: L)) HQ2.out (L.length + 1) (by simp [zs]) rfl _ rfl (zs qs) qs.length (by rw [zs_length]) (src_irow HIR2.out (by rw [zs_length])) (by simp [zs]; omega) (by omega) ?_; intro g' off' cap' w3 hq3 hgrow3 hg'; have HQ3 := hid hq3; have hle3 := hq3.le; have hmx3 := hq3.max; clear hq3; obtain ⟨M, hMe⟩ : ∃ M, L.length + 1 + qs.length = M + 1 := ⟨L.length + qs.length, by omega⟩; have HMe := hid hMe; rw [hMe]; have hMc : M + 1 ≤ cap' := (by simp [zs] at hle3; omega); clear hle3 hMe))
        case inl =>
          have hstep := hid (need_step hsz hB hRw.out hmap.out HNP.out HQ.out hB1 HPF.out hql HIR.out hblk.out hgrow2 hown2 hgrow3 hg')
          have eM : (L ++ qs).length = M := by have := HMe.out; rw [List.length_append]; omega
          have HI := hid (hI.out.take hmap.out HNP.out HPF.out hql (.held (.slice ao qs.length c1)))
          have HQ4 : Hid (Que w3 (w.heap.size + 1) g' off' cap' (zs (p :: (L ++ qs)))) := by
            have h := HQ3.out
            rw [show zs (p :: L) ++ zs qs = zs (p :: (L ++ qs)) by simp [zs]] at h
            exact h
          go_roundg ((L ++ qs).length + 21 * (22 - (S ++ [p]).length))
          case measure => have := hgk.out; simp at this ⊢; omega
          case rel => exact ⟨S ++ [p], L ++ qs, _, g', _, rfl, rfl, HI.out, hstep.out.2.1, hstep.out.1, by rw [← eM]; exact open_full (by omega), hstep.out.2.2.1, hstep.out.2.2.2⟩
        case inr =>
          have hstep := hid (need_step hsz hB hRw.out hmap.out HNP.out HQ.out hB1 HPF.out hql HIR.out hblk.out hgrow2 hown2 hgrow3 hg')
          have eM : (L ++ qs).length = M := by have := HMe.out; rw [List.length_append]; omega
          have HI := hid (hI.out.take hmap.out HNP.out HPF.out hql (.held (.slice ao qs.length c1)))
          have HQ4 : Hid (Que w3 (w.heap.size + 1) g' off' cap' (zs (p :: (L ++ qs)))) := by
            have h := HQ3.out
            rw [show zs (p :: L) ++ zs qs = zs (p :: (L ++ qs)) by simp [zs]] at h
            exact h
          go_roundg ((L ++ qs).length + 21 * (22 - (S ++ [p]).length))
          case measure => have := hgk.out; simp at this ⊢; omega
          case rel => exact ⟨S ++ [p], L ++ qs, _, g', _, rfl, rfl, HI.out, hstep.out.2.1, hstep.out.1, by rw [← eM]; exact open_tail HQ4.out, hstep.out.2.2.1, hstep.out.2.2.2⟩

end Go.Proofs.Ytmomlcibiklajaa.Calls44
