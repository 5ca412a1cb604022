/-
  What the document's needed answers: the primes that are needed for one, each once.
-/
import Derived.Test.YtmomlcibiklajaaCalls42
namespace Go.Proofs.Ytmomlcibiklajaa.Calls47
set_option linter.unusedVariables false
open Go.ChangeShapes Go.WideShapes Go.ChangeAt Go.RowKit Go.Deep Go.Proofs.Ytmomlcibiklajaa.Base Go.Proofs.Ytmomlcibiklajaa.Base2 Go.Proofs.Ytmomlcibiklajaa.Num Go.Proofs.Ytmomlcibiklajaa.Num13 Go.Proofs.Ytmomlcibiklajaa.Num19 Go.Proofs.Ytmomlcibiklajaa.Num31 Go.Proofs.Ytmomlcibiklajaa.Calls35 Go.Proofs.Ytmomlcibiklajaa.Calls36 Go.Proofs.Ytmomlcibiklajaa.Calls41 Go.Proofs.Ytmomlcibiklajaa.Calls42
open Go.Proofs.Ytmomlcibiklajaa.Calls11 (flat ints ints_length fac_len prow_of_owns owns_block')
open Go.Proofs.Ytmomlcibiklajaa.Calls12 (ints_getD refFactor_any)

theorem grown_trans {w w1 w2 : World} {r r1 : Option Nat} (h : w.grownBy w1 r) (h1 : w1.grownBy w2 r1) (hr : ∀ k, r1 = some k → r = some k ∨ w.heap.size ≤ k) : w.grownBy w2 r :=
  ⟨h1.os.trans h.os, h1.tape.trans h.tape, h1.output.trans h.output, Nat.le_trans h.size h1.size, fun k hk hne => (h1.block k (Nat.lt_of_lt_of_le hk h.size) (fun e => by
    rcases hr k e.symm with e2 | e2
    · exact hne e2.symm
    · omega)).trans (h.block k hk hne)⟩

theorem grown_below {w w1 : World} (h : Below w.heap.size w w1) (r : Option Nat) : w.grownBy w1 r := ⟨h.os, h.tape, h.output, h.size, fun k hk _ => h.block k hk⟩

/-- The same block as before, or a new one. -/
def Same (w : World) (a b : Option Nat) : Prop := ∀ g, b = some g → a = some g ∨ w.heap.size ≤ g

theorem Same.refl (w : World) (a : Option Nat) : Same w a a := fun g e => .inl e

theorem Same.trans {w w1 : World} {a b c : Option Nat} (h : Same w a b) (h1 : Same w1 b c) (hs : w.heap.size ≤ w1.heap.size) : Same w a c := fun g e => by
  rcases h1 g e with e2 | e2
  · exact h g e2
  · exact .inr (by omega)

theorem prow_kept {W W' : World} {ao : Option Addr} {l : List (Int × Int)} {row : Option Nat} (h : Go.Proofs.Ytmomlcibiklajaa.Calls11.PRow W ao l) (hg : W.grownBy W' row) (hne : ∀ ad, ao = some ad → ad.block < W.heap.size ∧ row ≠ some ad.block) : Go.Proofs.Ytmomlcibiklajaa.Calls11.PRow W' ao l := by
  refine ⟨h.1, fun ad e j hj => ?_⟩
  obtain ⟨hl, hn⟩ := hne ad e
  obtain ⟨c1, c2⟩ := h.2 ad e j hj
  have hb := hg.block ad.block hl (fun e => hn e.symm)
  exact ⟨(World.cell?_of_block (a := ad.add (j * 2)) (by rw [add_block]; exact hb)).trans c1, (World.cell?_of_block (a := ad.add (j * 2 + 1)) (by rw [add_block]; exact hb)).trans c2⟩

/-- What has come to the list on behalf of p. -/
structure Grew (n p : Nat) (l l' : List Nat) : Prop where
  nodup : l'.Nodup
  need : ∀ x ∈ l', Need n x
  sub : ∀ x ∈ l, x ∈ l'
  self : p ∈ l'
  closed : ∀ x ∈ l', x ∉ l → ∀ q, Pr q → q ∣ x - 1 → q ∈ l'

/-- On the way: all but p's own primes. -/
structure Mid (n p : Nat) (l c : List Nat) : Prop where
  nodup : c.Nodup
  need : ∀ x ∈ c, Need n x
  sub : ∀ x ∈ l, x ∈ c
  self : p ∈ c
  closed : ∀ x ∈ c, x ∉ l → x ≠ p → ∀ q, Pr q → q ∣ x - 1 → q ∈ c

theorem Mid.start {n p : Nat} {l : List Nat} (h1 : l.Nodup) (h2 : ∀ x ∈ l, Need n x) (hp : Need n p) (h3 : p ∉ l) : Mid n p l (l ++ [p]) :=
  ⟨List.nodup_append.2 ⟨h1, by simp, fun a ha b hb => by
      have e : b = p := by simpa using hb
      subst e
      exact fun e => h3 (e ▸ ha)⟩, fun x hx => by
    rcases List.mem_append.1 hx with e | e
    · exact h2 x e
    · have e : x = p := by simpa using e
      rw [e]; exact hp, fun x hx => by simp [hx], by simp, fun x hx hn hne => by
    rcases List.mem_append.1 hx with e | e
    · exact absurd e hn
    · exact absurd (by simpa using e) hne⟩

theorem Mid.step {n p q : Nat} {l c c' : List Nat} (h : Mid n p l c) (hg : Grew n q c c') : Mid n p l c' :=
  ⟨hg.nodup, hg.need, fun x hx => hg.sub x (h.sub x hx), hg.sub p h.self, fun x hx hn hne r hr hd => by
    rcases Classical.em (x ∈ c) with e | e
    · exact hg.sub r (h.closed x e hn hne r hr hd)
    · exact hg.closed x hx e r hr hd⟩

theorem Mid.done {n p : Nat} {l c : List Nat} (h : Mid n p l c) (hp : ∀ q, Pr q → q ∣ p - 1 → q ∈ c) : Grew n p l c :=
  ⟨h.nodup, h.need, h.sub, h.self, fun x hx hn q hq hd => by
    rcases Classical.em (x = p) with e | e
    · subst e; exact hp q hq hd
    · exact h.closed x hx hn e q hq hd⟩

/-- What needed answers. -/
def Answered (n p : Nat) (l : List Nat) (base : Nat) (v : Value) (w : World) (e : Ending) (w' : World) : Prop :=
  ∃ v' l', e = .returned v' ∧ Grew n p l l' ∧ w'.ownsRow base 2 1 v' l'.length (ivals (zs l')) ∧ w.grownBy w' v.ownBlock ∧ Same w v.ownBlock v'.ownBlock

theorem take_has {c : List Nat} {q j : Nat} (hj : j < c.length) : q ∈ c.take (j + 1) ↔ q ∈ c.take j ∨ c.getD j 0 = q := by
  rw [List.take_add_one, List.getElem?_eq_getElem hj, List.mem_append]
  simp [List.getD, hj, eq_comm]

set_option maxRecDepth 100000 in
set_option maxHeartbeats 4000000 in
theorem needed_any (n : Nat) (hn : Pr n) (hn2 : n ≤ 1048576) : ∀ p, Need n p → ∀ (l : List Nat) (v : Value) (base : Nat) (w : World), l.Nodup → (∀ x ∈ l, Need n x) → p ∉ l → w.ownsRow base 2 1 v l.length (ivals (zs l)) → base ≤ w.heap.size →
    Calls Try.prog 22 #[.int .i64 (p : Int), v] w fun e w' => Answered n p l base v w e w' := by
  obtain ⟨i0, hi, hz0, hz1, hz2⟩ := info_parts infoI
  intro p
  induction p using Nat.strongRecOn with
  | _ p ih =>
    intro hNp l v base w hnd hne hpl hown hbase
    have hp1 := (hNp.pr hn).1
    have hp2 : p ≤ 1048576 := Nat.le_trans (hNp.le hn) hn2
    have hmid := hid (Mid.start hnd hne hNp hpl)
    have hlen : l.length + 1 ≤ 21 := by
      have := need_len hn hn2 hmid.out.nodup hmid.out.need
      simpa using this
    have HIH := hid ih
    have HPR := hid hn
    have HNP := hid hNp
    have hsn : Hid (ivals (zs (l ++ [p])) = ivals (zs l) ++ [.int .i64 (p : Int)]) := by show _ = _; rw [zs_snoc, ivals_snoc]
    have cF := fun w => refFactor_any (p - 1) (by omega) (by omega) w
    rw [show ((p - 1 : Nat) : Int) = (p : Int) - 1 by omega] at cF
    clear ih hn hNp hnd hne hpl
    go_enter Try.func22, Try.ntmps22
    go_wp2_with (first
      | (at_builtin; refine wpList_append_own0 _ rfl _ _ 42 rfl base 2 i0 (.int .i64 0) 1 8 Try.underlying42 hi hz0 hz1 hz2 rfl (by decide) _ _ _ rfl (hown.alloc _) ⟨w.heap.size, 0, none⟩ 1 1 [.int .i64 (p : Int)] rfl rfl one_cell (by simp [Value.oneCell']) (by omega) (by unfold maxLen; omega) (by omega) (by simp; omega) ?_; intro g1 c1 w1 hown1 hgrow1 hat1 hlt1)
      | (go_at_call 23; refine (cF _).mono ?_; rintro e w2 ⟨lf, vf, rfl, hF, hownf, hB2⟩; obtain ⟨ao, cf, rfl, hrow⟩ := prow_of_owns hownf; have hblk := hid (owns_block' hownf); have HF := hid hF; have HRow := hid hrow; clear hF hrow hownf; rw [ints_length]))
    have hlf : lf.length ≤ 20 := fac_len HF.out (by omega)
    have hs12 := hB2.size
    have hsw1 := hgrow1.size
    simp at hsw1
    have hG2 : Hid (w.grownBy w2 v.ownBlock) := grown_trans (grown_trans (World.grownBy_alloc w _ v.ownBlock) hgrow1 (fun k e => .inl e)) (grown_below hB2 none) (fun k e => by cases e)
    have hS2 : Hid (Same w v.ownBlock (Value.slice (some ⟨g1, 0, none⟩) (l.length + 1) c1).ownBlock) := fun g e => by
      have e2 : g1 = g := by simpa [Value.ownBlock] using e
      subst e2
      rcases hat1 with h | h
      · exact .inl h
      · right; simp at h; omega
    have hO2 : Hid (w2.ownsRow base 2 1 (.slice (some ⟨g1, 0, none⟩) (l.length + 1) c1) (l ++ [p]).length (ivals (zs (l ++ [p])))) := by
      show World.ownsRow _ _ _ _ _ _ _
      rw [hsn.out, List.length_append]
      exact Go.Proofs.Ytmomlcibiklajaa.Calls11.owns_below hown1 hB2
    have hA2 : Hid (∀ ad, ao = some ad → ad.block < w2.heap.size ∧ (Value.slice (some ⟨g1, 0, none⟩) (l.length + 1) c1).ownBlock ≠ some ad.block) := fun ad e => by
      have := hblk.out ad e
      exact ⟨this.2, by simp [Value.ownBlock]; omega⟩
    clear hown1 hgrow1 hat1 hown cF
    go_loopw [1, 18] (fun v' i wr => ∃ (k : Nat) (u : Value) (c : List Nat), u = v' ∧ i = .int .i64 (k : Int) ∧ k ≤ lf.length ∧ Hid (Mid n p l c) ∧ Hid (∀ j, j < k → (lf.getD j (0, 0)).1 ∈ c) ∧ Hid (wr.ownsRow base 2 1 u c.length (ivals (zs c))) ∧ Hid (w.grownBy wr v.ownBlock) ∧ Hid (Same w v.ownBlock u.ownBlock) ∧ Hid (Go.Proofs.Ytmomlcibiklajaa.Calls11.PRow wr ao (ints lf)) ∧ Hid (∀ ad, ao = some ad → ad.block < wr.heap.size ∧ u.ownBlock ≠ some ad.block) ∧ base ≤ wr.heap.size ∧ w.heap.size ≤ wr.heap.size) (fun v' i wr => ((lf.length : Int) - intOf i).toNat)
    case atStart => exact ⟨0, _, l ++ [p], rfl, rfl, by omega, hmid, fun j hj => by omega, hO2, hG2, hS2, HRow, hA2, by omega, by omega⟩
    case round =>
      obtain ⟨k, u, c, hu, rfl, hk, hMd, hin, hown, hG, hSm, hPr, hAd, hbs, hws⟩ := hrel
      subst hu
      by_cases hgo : k < lf.length
      · have hgo' : (k : Int) < (lf.length : Int) := by omega
        rcases ao with _ | ad
        · have := hPr.out.1 rfl
          have e := ints_length lf
          rw [this] at e
          simp at e
          omega
        · obtain ⟨k1, k2⟩ := hPr.out.2 ad rfl k (by rw [ints_length]; exact hgo)
          rw [add_two] at k2
          rw [ints_getD] at k1 k2
          have hxm : Hid (lf.getD k (0, 0) ∈ lf) := by show _ ∈ _; simp [List.getD, hgo]
          obtain ⟨x, hx⟩ : ∃ x, lf.getD k (0, 0) = x := ⟨_, rfl⟩
          rw [hx] at k1 k2 hxm
          have HX := hid hx
          clear hx
          obtain ⟨q, e⟩ := x
          simp only at k1 k2
          have hq1 : Hid (Pr q) := (HF.out.1 (q, e) hxm.out).1
          have hqd : Hid (q ∣ p - 1) := by have h := mem_dvd_pd HF.out.1 hxm.out; rw [HF.out.2.2] at h; exact h
          have hqp : q < p := by have := Nat.le_of_dvd (by omega) hqd.out; omega
          have hqc : q ≤ 1048576 := by omega
          obtain ⟨uo, cu, hue, hir⟩ := irow_owns hown.out (by rw [zs_length])
          subst hue
          rw [zs_length] at hown hSm hAd ⊢
          have hcl : c.length ≤ 21 := need_len HPR.out hn2 hMd.out.nodup hMd.out.need
          have HIR := hid (irow_below hir ((Below.refl _ wr).alloc (Nat.le_refl _) (.cells #[.int .i64 (q : Int), .int .i64 (e : Int)] 52)) (Nat.le_refl _))
          have bq := BoxC.new wr 52 #[.int .i64 (q : Int), .int .i64 (e : Int)]
          have kq := bq.cell 0
          simp at kq
          clear hir bq
          have hPr2 := hid (prow_kept hPr.out (World.grownBy_alloc wr (.cells #[.int .i64 (q : Int), .int .i64 (e : Int)] 52) none) (fun ad' e' => ⟨(hAd.out ad' e').1, by simp⟩))
          have hG3 : Hid (w.grownBy (wr.alloc (.cells #[.int .i64 (q : Int), .int .i64 (e : Int)] 52)) v.ownBlock) := grown_trans hG.out (World.grownBy_alloc wr _ none) (fun k e => by cases e)
          have hO3 := hid (hown.out.alloc (.cells #[.int .i64 (q : Int), .int .i64 (e : Int)] 52))
          go_wp2
          go_loop [7, 24] (fun t i => ∃ (b : Bool) (j : Nat), t = .bool b ∧ i = .int .i64 (j : Int) ∧ j ≤ c.length ∧ Hid (b = true ↔ q ∈ c.take j)) (fun t i => ((c.length : Int) - intOf i).toNat)
          case atStart => exact ⟨false, 0, rfl, rfl, by omega, by show _ ↔ _; simp⟩
          case round =>
            obtain ⟨b, j, rfl, rfl, hj, hbj⟩ := hrel
            by_cases hjo : j < c.length
            · have hjo' : (j : Int) < (c.length : Int) := by omega
              rcases uo with _ | ud
              · exact (irow_none HIR.out (j := j) (by rw [zs_length]; exact hjo)).elim
              · have cj := HIR.out.2 ud rfl j (by rw [zs_length]; exact hjo)
                rw [zs_get] at cj
                have htk := hid (take_has (q := q) hjo)
                obtain ⟨y, hy⟩ : ∃ y, c.getD j 0 = y := ⟨_, rfl⟩
                rw [hy] at cj htk
                clear hy
                cases b with
                | true =>
                  have hb2 : Hid (true = true ↔ q ∈ c.take (j + 1)) := by show _ ↔ _; rw [htk.out]; exact ⟨fun h => .inl (hbj.out.1 h), fun _ => rfl⟩
                  go_wp2
                  go_round
                  case rel => exact ⟨true, j + 1, rfl, by simp, by omega, hb2⟩
                  case measure => exact measK hjo
                | false =>
                  by_cases hyq : y = q
                  · have hb2 : Hid (true = true ↔ q ∈ c.take (j + 1)) := by show _ ↔ _; rw [htk.out]; exact ⟨fun _ => .inr hyq, fun _ => rfl⟩
                    subst hyq
                    go_wp2
                    go_round
                    case rel => exact ⟨true, j + 1, rfl, by simp, by omega, hb2⟩
                    case measure => exact measK hjo
                  · have hb2 : Hid (false = true ↔ q ∈ c.take (j + 1)) := by
                      show _ ↔ _
                      rw [htk.out]
                      exact ⟨fun h => (by cases h), fun h => by
                        rcases h with h | h
                        · exact hbj.out.2 h
                        · exact absurd h hyq⟩
                    have hyq' : ((y : Int) == (q : Int)) = false := by simp; omega
                    go_wp2
                    go_round
                    case rel => exact ⟨false, j + 1, rfl, by simp, by omega, hb2⟩
                    case measure => exact measK hjo
            · have hjo' : ¬ (j : Int) < (c.length : Int) := by omega
              have hbc : Hid (b = true ↔ q ∈ c) := by
                show _ ↔ _
                have h := hbj.out
                rw [List.take_of_length_le (by omega)] at h
                exact h
              clear hbj
              cases b with
              | true =>
                have hin2 : Hid (∀ j, j < k + 1 → (lf.getD j (0, 0)).1 ∈ c) := fun j hj => by
                  by_cases e2 : j = k
                  · subst e2; rw [HX.out]; exact hbc.out.1 rfl
                  · exact hin.out j (by omega)
                go_wp2
                go_roundw
                case rel => exact ⟨k + 1, _, c, rfl, by simp, by omega, hMd, hin2, hO3, hG3, hSm, hPr2, fun ad' e' => ⟨by have := (hAd.out ad' e').1; simp; omega, (hAd.out ad' e').2⟩, by simp; omega, by simp; omega⟩
                case measure => exact measK hgo
              | false =>
                have hnc : Hid (q ∉ c) := fun h => by cases hbc.out.2 h
                have cR := hid (HIH.out q hqp (.step HNP.out hq1.out hqd.out) c _ base (wr.alloc (.cells #[.int .i64 (q : Int), .int .i64 (e : Int)] 52)) hMd.out.nodup hMd.out.need hnc.out hO3.out (by simp; omega))
                go_wp2_with (go_at_call 22; refine cR.out.mono ?_; rintro e5 w5 ⟨v5, l5, rfl, hGr, hO5, hg5, hsm5⟩)
                have hsz5 := hg5.size
                simp at hsz5
                go_roundw
                case rel =>
                  refine ⟨k + 1, v5, l5, rfl, by simp, by omega, hMd.out.step hGr, fun j hj => ?_, hO5, grown_trans hG3.out hg5 (fun g e => hSm.out g e), ?_, prow_kept hPr2.out hg5 (fun ad' e' => ⟨by have := (hAd.out ad' e').1; simp; omega, (hAd.out ad' e').2⟩), fun ad' e' => ⟨by have := (hAd.out ad' e').1; omega, fun e6 => ?_⟩, by omega, by omega⟩
                  · by_cases e2 : j = k
                    · subst e2; rw [HX.out]; exact hGr.self
                    · exact hGr.sub _ (hin.out j (by omega))
                  · exact hSm.out.trans hsm5 (by simp; omega)
                  · rcases hsm5 _ e6 with e7 | e7
                    · exact (hAd.out ad' e').2 e7
                    · have := (hAd.out ad' e').1
                      simp at e7
                      omega
                case measure => exact measK hgo
      · have hgo' : ¬ (k : Int) < (lf.length : Int) := by omega
        have hGr : Hid (Grew n p l c) := hMd.out.done (fun q hq hd => by
          obtain ⟨x, hx, e⟩ := pr_dvd_pd hq HF.out.1 (by rw [HF.out.2.2]; exact hd)
          obtain ⟨j, hj, e2⟩ := List.getElem_of_mem hx
          have h := hin.out j (by omega)
          rw [← e]
          simpa [List.getD, hj, e2] using h)
        go_wp2
        go_ret
        exact ⟨u, c, rfl, hGr.out, hown.out, hG.out, hSm.out⟩

end Go.Proofs.Ytmomlcibiklajaa.Calls47
