/-
  What is wrong with gates, by the document.
-/
import Derived.Test.YtpnmepobdnclkaaCalls90
import Derived.Test.YtpnmepobdnclkaaCalls91
import Derived.Test.YtpnmepobdnclkaaBase10
import Derived.Test.YtpnmepobdnclkaaFoldD
import Derived.Deep.QuietTactic
import Derived.BigQuiet
namespace Go.Proofs.Ytpnmepobdnclkaa.Calls176
set_option linter.unusedVariables false
open Go.ChangeShapes Go.WideShapes Go.ChangeAt Go.RowKit Go.Deep Go.Proofs.Ytpnmepobdnclkaa.Base Go.Proofs.Ytpnmepobdnclkaa.Base2 Go.Proofs.Ytpnmepobdnclkaa.Num Go.Proofs.Ytpnmepobdnclkaa.Num13 Go.Proofs.Ytpnmepobdnclkaa.Num16 Go.Proofs.Ytpnmepobdnclkaa.Num17 Go.Proofs.Ytpnmepobdnclkaa.Num34 Go.Proofs.Ytpnmepobdnclkaa.Num35 Go.Proofs.Ytpnmepobdnclkaa.Num69 Go.Proofs.Ytpnmepobdnclkaa.Base4 Go.Proofs.Ytpnmepobdnclkaa.Base10 Go.Proofs.Ytpnmepobdnclkaa.Calls56 Go.Proofs.Ytpnmepobdnclkaa.Calls57
open Go.Proofs.Ytpnmepobdnclkaa.Calls71 (al)
open Go.Proofs.Ytpnmepobdnclkaa.Calls87 (ib)
open Go.Proofs.Ytpnmepobdnclkaa.Calls90 (InM)

/-- The cells of a gate. -/
theorem gcell {W : World} {ad : Addr} {n : Nat} {F : Nat → Nat → Int} (h : GRow W (some ad) 4 n F) {i : Nat} (hi : i < n) :
    W.cell? (ad.add (i * 4)) = some (.int .i64 (F i 0)) ∧ W.cell? { block := (ad.add (i * 4)).block, off := (ad.add (i * 4)).off + 1 } = some (.int .i64 (F i 1)) ∧ W.cell? { block := (ad.add (i * 4)).block, off := (ad.add (i * 4)).off + 2 } = some (.int .i64 (F i 2)) ∧ W.cell? { block := (ad.add (i * 4)).block, off := (ad.add (i * 4)).off + 3 } = some (.int .i64 (F i 3)) := by
  have h0 := h.2 ad rfl i hi 0 (by omega)
  have h1 := h.2 ad rfl i hi 1 (by omega)
  have h2 := h.2 ad rfl i hi 2 (by omega)
  have h3 := h.2 ad rfl i hi 3 (by omega)
  rw [← add_at] at h1 h2 h3
  exact ⟨h0, h1, h2, h3⟩

theorem gb {W W' : World} {ao : Option Addr} {m n : Nat} {F : Nat → Nat → Int} (h : GRow W ao m n F) (hB : Below W.heap.size W W') : GRow W' ao m n F := grow_below h hB

/-- The code of gates and inputs, by a number. -/
def GC (p : Int) (n : Nat) (F : Nat → Nat → Int) (l : List Int) (c : Int) : Prop :=
  (PrC p c ∧ c ≠ 0) ∨ (PrC p 0 ∧ (((60 < n ∨ 60 < l.length) ∧ c = 1) ∨ ((n ≤ 60 ∧ l.length ≤ 60) ∧ ((¬ InM p l l.length ∧ c = 2) ∨ (InM p l l.length ∧ c = gks p l.length F n)))))

theorem gc_ex (p : Int) (n : Nat) (F : Nat → Nat → Int) (l : List Int) : ∃ c, GC p n F l c := by
  obtain ⟨c, hc⟩ := prc_ex p
  by_cases h0 : c = 0
  · subst h0
    by_cases h1 : 60 < n ∨ 60 < l.length
    · exact ⟨1, .inr ⟨hc, .inl ⟨h1, rfl⟩⟩⟩
    · by_cases h2 : InM p l l.length
      · exact ⟨_, .inr ⟨hc, .inr ⟨by omega, .inr ⟨h2, rfl⟩⟩⟩⟩
      · exact ⟨2, .inr ⟨hc, .inr ⟨by omega, .inl ⟨h2, rfl⟩⟩⟩⟩
  · exact ⟨c, .inl ⟨hc, h0⟩⟩

theorem GC.ok {p : Int} {n : Nat} {F : Nat → Nat → Int} {l : List Int} (h : GC p n F l 0) : PrC p 0 ∧ n ≤ 60 ∧ l.length ≤ 60 ∧ InM p l l.length ∧ ∀ i, i < n → GOk p l.length F i := by
  rcases h with ⟨_, h⟩ | ⟨hp, h | ⟨h1, h | ⟨h2, h3⟩⟩⟩
  · exact absurd rfl h
  · omega
  · omega
  · exact ⟨hp, h1.1, h1.2, h2, gks_zero.1 h3.symm⟩

/-- The code of gate i, of its numbers. -/
def gkv (p : Int) (ni i : Nat) (x a b n : Int) : Int :=
  if x < 1 ∨ 4 < x then 6
  else if x = 1 then (if 0 ≤ a ∧ a < (ni : Int) then 0 else 3)
  else if x = 2 then (if 0 ≤ n ∧ n < p then 0 else 2)
  else if (0 ≤ a ∧ a < (i : Int)) ∧ 0 ≤ b ∧ b < (i : Int) then 0 else 3

theorem gkv_kind {p : Int} {ni i : Nat} {x a b n : Int} (h : x < 1 ∨ 4 < x) : gkv p ni i x a b n = 6 := by unfold gkv; rw [if_pos h]
theorem gkv_in {p : Int} {ni i : Nat} {a b n : Int} : gkv p ni i 1 a b n = if 0 ≤ a ∧ a < (ni : Int) then 0 else 3 := by unfold gkv; rw [if_neg (by omega), if_pos rfl]
theorem gkv_co {p : Int} {ni i : Nat} {a b n : Int} : gkv p ni i 2 a b n = if 0 ≤ n ∧ n < p then 0 else 2 := by unfold gkv; rw [if_neg (by omega), if_neg (by omega), if_pos rfl]
theorem gkv_add {p : Int} {ni i : Nat} {a b n : Int} : gkv p ni i 3 a b n = if (0 ≤ a ∧ a < (i : Int)) ∧ 0 ≤ b ∧ b < (i : Int) then 0 else 3 := by unfold gkv; rw [if_neg (by omega), if_neg (by omega), if_neg (by omega)]
theorem gkv_mul {p : Int} {ni i : Nat} {a b n : Int} : gkv p ni i 4 a b n = if (0 ≤ a ∧ a < (i : Int)) ∧ 0 ≤ b ∧ b < (i : Int) then 0 else 3 := by unfold gkv; rw [if_neg (by omega), if_neg (by omega), if_neg (by omega)]

theorem inm_next {p : Int} {m : List Int} {k : Nat} (h : InM p m k) (hk : 0 ≤ co m k ∧ co m k < p) : InM p m (k + 1) := fun j hj => by
  by_cases e : j = k
  · subst e; exact hk
  · exact h j (by omega)

theorem refGatesCheck_bad (p : Int) (go lo : Option Addr) (n m cg cl : Nat) (c : Int) (hc : PrC p c) (h0 : c ≠ 0) (w : World) :
    Calls Try.prog 13 #[.int .i64 p, .slice go n cg, .slice lo m cl] w fun e w' => e = .returned (.int .i64 c) ∧ Below w.heap.size w w' := by
  have cP := refPrimeCheck_any p c hc w
  have h1 : (c != 0) = true := by simpa using h0
  have h2 : (c == 0) = false := by simpa using h0
  clear hc
  go_enter Try.func13, Try.ntmps13
  go_wp2_with (go_at_call 9; refine cP.mono ?_; rintro e w1 ⟨rfl, hw⟩; subst w1)
  go_ret
  exact ⟨rfl, Below.refl _ _⟩

theorem refGatesCheck_long (p : Int) (go lo : Option Addr) (n m cg cl : Nat) (hl : 60 < n ∨ 60 < m) (hc : PrC p 0) (w : World) :
    Calls Try.prog 13 #[.int .i64 p, .slice go n cg, .slice lo m cl] w fun e w' => e = .returned (.int .i64 1) ∧ Below w.heap.size w w' := by
  have cP := refPrimeCheck_any p 0 hc w
  clear hc
  by_cases h1 : 60 < n
  · have hl' : (60 : Int) < (n : Int) := by omega
    go_enter Try.func13, Try.ntmps13
    go_wp2_with (go_at_call 9; refine cP.mono ?_; rintro e w1 ⟨rfl, hw⟩; subst w1)
    go_ret
    exact ⟨rfl, Below.refl _ _⟩
  · have hl1 : decide ((60 : Int) < (n : Int)) = false := by simp; omega
    have hl2 : (60 : Int) < (m : Int) := by omega
    go_enter Try.func13, Try.ntmps13
    go_wp2_with (go_at_call 9; refine cP.mono ?_; rintro e w1 ⟨rfl, hw⟩; subst w1)
    go_ret
    exact ⟨rfl, Below.refl _ _⟩

set_option maxRecDepth 100000 in
set_option maxHeartbeats 2000000 in
theorem refGatesCheck_short (p : Int) (go lo : Option Addr) (n cg cl : Nat) (F : Nat → Nat → Int) (l : List Int) (hn : n ≤ 60) (hl : l.length ≤ 60) (hc : PrC p 0) (c : Int) (h2 : ¬ InM p l l.length → c = 2) (h3 : InM p l l.length → c = gks p l.length F n) (w : World) (hrow : IRow w lo l) (hg : GRow w go 4 n F) :
    Calls Try.prog 13 #[.int .i64 p, .slice go n cg, .slice lo l.length cl] w fun e w' => e = .returned (.int .i64 c) ∧ Below w.heap.size w w' := by
  have cP := refPrimeCheck_any p 0 hc w
  obtain ⟨N, hN⟩ : ∃ N, N = l.length := ⟨_, rfl⟩
  have HN : Hid (N = l.length) := hN
  have HR := hid hrow
  have HG := hid hg
  have H2 : Hid (¬ InM p l N → c = 2) := by rw [hN]; exact h2
  have H3 : Hid (InM p l N → c = gks p N F n) := by rw [hN]; exact h3
  rw [← hN] at hl ⊢
  have hl1 : decide ((60 : Int) < (n : Int)) = false := by simp; omega
  have hl2 : decide ((60 : Int) < (N : Int)) = false := by simp; omega
  clear hN h2 h3 hc hrow hg
  go_enter Try.func13, Try.ntmps13
  go_wp2_with (go_at_call 9; refine cP.mono ?_; rintro e w1 ⟨rfl, hw⟩; subst w1)
  go_loopw [27] (fun i wr => ∃ k : Nat, i = .int .i64 (k : Int) ∧ k ≤ N ∧ Hid (InM p l k) ∧ ∃ d, wr = w.drewN d) (fun i wr => ((N : Int) - intOf i).toNat)
  case atStart => exact ⟨0, rfl, by omega, fun j hj => absurd hj (by omega), 0, rfl⟩
  case round =>
    obtain ⟨k, rfl, hk, hI, d, rfl⟩ := hrel
    by_cases hgo : k < N
    · have hgo' : (k : Int) < (N : Int) := by omega
      have hkl : Hid (k < l.length) := by have := HN.out; show k < l.length; omega
      rcases lo with _ | ad
      · exact (irow_none HR.out hkl.out).elim
      · have d0 := HR.out.2 ad rfl k hkl.out
        have hno : Hid ((0 ≤ co l k ∧ co l k < p) ∨ c = 2) := by
          show _ ∨ _
          rcases Classical.em (0 ≤ co l k ∧ co l k < p) with h | h
          · exact .inl h
          · exact .inr (H2.out (fun hI => h (hI k hgo)))
        have hI2 : Hid (0 ≤ co l k ∧ co l k < p → InM p l (k + 1)) := fun h => inm_next hI.out h
        generalize co l k = x at *
        by_cases o1 : x < 0
        · obtain rfl : c = 2 := hno.out.resolve_left (by omega)
          go_wp2
          go_ret
          exact ⟨rfl, below_drewN (Below.refl _ _) _⟩
        · have o1' : decide (x < 0) = false := by simpa using o1
          by_cases o2 : p ≤ x
          · obtain rfl : c = 2 := hno.out.resolve_left (by omega)
            go_wp2
            go_ret
            exact ⟨rfl, below_drewN (Below.refl _ _) _⟩
          · have o2' : decide (p ≤ x) = false := by simp; omega
            have hI3 := hid (hI2.out ⟨by omega, by omega⟩)
            go_wp2
            go_roundw
            case rel => exact ⟨k + 1, by simp, by omega, hI3, _, rfl⟩
            case measure => exact measK hgo
    · have hgo' : ¬ (k : Int) < (N : Int) := by omega
      obtain rfl : k = N := by omega
      have H4 := hid (H3.out hI.out)
      go_wp2
      go_loopw [41] (fun i wr => ∃ j : Nat, i = .int .i64 (j : Int) ∧ j ≤ n ∧ Hid (gks p k F j = 0) ∧ Hid (Below w.heap.size w wr)) (fun i wr => ((n : Int) - intOf i).toNat)
      case atStart => exact ⟨0, rfl, by omega, rfl, below_drewN (Below.refl _ _) _⟩
      case round =>
        obtain ⟨j, rfl, hj, hK, hBr⟩ := hrel
        by_cases hgj : j < n
        · have hgj' : (j : Int) < (n : Int) := by omega
          rcases go with _ | ad
          · exact (grow_none HG.out hgj).elim
          · obtain ⟨c0, c1, c2, c3⟩ := gcell (gb HG.out hBr.out) hgj
            have hBa := hid (al hBr.out (.cells #[.int .i64 (F j 0), .int .i64 (F j 1), .int .i64 (F j 2), .int .i64 (F j 3)] 54))
            have hno : Hid (∀ z, gkv p k j (F j 0) (F j 1) (F j 2) (F j 3) = z → z ≠ 0 → c = z) := fun z e hz => by
              rw [H4.out, gks_first hK.out (k := j) (n := n) (by show gkv p k j (F j 0) (F j 1) (F j 2) (F j 3) ≠ 0; rw [e]; exact hz) hgj]
              exact e
            have hyes : Hid (gkv p k j (F j 0) (F j 1) (F j 2) (F j 3) = 0 → gks p k F (j + 1) = 0) := fun e => (gks_next hK.out).trans e
            generalize F j 0 = x at *
            generalize F j 1 = a at *
            generalize F j 2 = b at *
            generalize F j 3 = y at *
            by_cases o1 : x < 1
            · obtain rfl : c = 6 := hno.out 6 (by exact gkv_kind (.inl o1)) (by decide)
              clear hno hyes
              go_wp2
              go_ret
              exact ⟨rfl, hBa.out⟩
            by_cases o2 : 4 < x
            · have o1' : decide (x < 1) = false := by simpa using o1
              obtain rfl : c = 6 := hno.out 6 (by exact gkv_kind (.inr o2)) (by decide)
              clear hno hyes
              go_wp2
              go_ret
              exact ⟨rfl, hBa.out⟩
            rcases (by omega : x = 1 ∨ x = 2 ∨ x = 3 ∨ x = 4) with rfl | rfl | rfl | rfl
            · by_cases t0 : a < 0
              · obtain rfl : c = 3 := hno.out 3 (by rw [gkv_in, if_neg (by omega)]) (by decide)
                clear hno hyes
                go_wp2
                go_ret
                exact ⟨rfl, hBa.out⟩
              have t0' : decide (a < 0) = false := by simp; omega
              by_cases t1 : (k : Int) ≤ a
              · obtain rfl : c = 3 := hno.out 3 (by rw [gkv_in, if_neg (by omega)]) (by decide)
                clear hno hyes
                go_wp2
                go_ret
                exact ⟨rfl, hBa.out⟩
              have t1' : decide ((k : Int) ≤ a) = false := by simp; omega
              have hK3 := hid (hyes.out (by rw [gkv_in, if_pos (by omega)]))
              clear hno hyes
              go_wp2
              go_roundw
              case rel => exact ⟨j + 1, by simp, by omega, hK3, hBa⟩
              case measure => exact measK hgj
            · by_cases t0 : y < 0
              · obtain rfl : c = 2 := hno.out 2 (by rw [gkv_co, if_neg (by omega)]) (by decide)
                clear hno hyes
                go_wp2
                go_ret
                exact ⟨rfl, hBa.out⟩
              have t0' : decide (y < 0) = false := by simp; omega
              by_cases t1 : p ≤ y
              · obtain rfl : c = 2 := hno.out 2 (by rw [gkv_co, if_neg (by omega)]) (by decide)
                clear hno hyes
                go_wp2
                go_ret
                exact ⟨rfl, hBa.out⟩
              have t1' : decide (p ≤ y) = false := by simp; omega
              have hK3 := hid (hyes.out (by rw [gkv_co, if_pos (by omega)]))
              clear hno hyes
              go_wp2
              go_roundw
              case rel => exact ⟨j + 1, by simp, by omega, hK3, hBa⟩
              case measure => exact measK hgj
            · by_cases t0 : a < 0
              · obtain rfl : c = 3 := hno.out 3 (by rw [gkv_add, if_neg (by omega)]) (by decide)
                clear hno hyes
                go_wp2
                go_ret
                exact ⟨rfl, hBa.out⟩
              have t0' : decide (a < 0) = false := by simp; omega
              by_cases t1 : (j : Int) ≤ a
              · obtain rfl : c = 3 := hno.out 3 (by rw [gkv_add, if_neg (by omega)]) (by decide)
                clear hno hyes
                go_wp2
                go_ret
                exact ⟨rfl, hBa.out⟩
              have t1' : decide ((j : Int) ≤ a) = false := by simp; omega
              by_cases t2 : b < 0
              · obtain rfl : c = 3 := hno.out 3 (by rw [gkv_add, if_neg (by omega)]) (by decide)
                clear hno hyes
                go_wp2
                go_ret
                exact ⟨rfl, hBa.out⟩
              have t2' : decide (b < 0) = false := by simp; omega
              by_cases t3 : (j : Int) ≤ b
              · obtain rfl : c = 3 := hno.out 3 (by rw [gkv_add, if_neg (by omega)]) (by decide)
                clear hno hyes
                go_wp2
                go_ret
                exact ⟨rfl, hBa.out⟩
              have t3' : decide ((j : Int) ≤ b) = false := by simp; omega
              have hK3 := hid (hyes.out (by rw [gkv_add, if_pos (by omega)]))
              clear hno hyes
              go_wp2
              go_roundw
              case rel => exact ⟨j + 1, by simp, by omega, hK3, hBa⟩
              case measure => exact measK hgj
            · by_cases t0 : a < 0
              · obtain rfl : c = 3 := hno.out 3 (by rw [gkv_mul, if_neg (by omega)]) (by decide)
                clear hno hyes
                go_wp2
                go_ret
                exact ⟨rfl, hBa.out⟩
              have t0' : decide (a < 0) = false := by simp; omega
              by_cases t1 : (j : Int) ≤ a
              · obtain rfl : c = 3 := hno.out 3 (by rw [gkv_mul, if_neg (by omega)]) (by decide)
                clear hno hyes
                go_wp2
                go_ret
                exact ⟨rfl, hBa.out⟩
              have t1' : decide ((j : Int) ≤ a) = false := by simp; omega
              by_cases t2 : b < 0
              · obtain rfl : c = 3 := hno.out 3 (by rw [gkv_mul, if_neg (by omega)]) (by decide)
                clear hno hyes
                go_wp2
                go_ret
                exact ⟨rfl, hBa.out⟩
              have t2' : decide (b < 0) = false := by simp; omega
              by_cases t3 : (j : Int) ≤ b
              · obtain rfl : c = 3 := hno.out 3 (by rw [gkv_mul, if_neg (by omega)]) (by decide)
                clear hno hyes
                go_wp2
                go_ret
                exact ⟨rfl, hBa.out⟩
              have t3' : decide ((j : Int) ≤ b) = false := by simp; omega
              have hK3 := hid (hyes.out (by rw [gkv_mul, if_pos (by omega)]))
              clear hno hyes
              go_wp2
              go_roundw
              case rel => exact ⟨j + 1, by simp, by omega, hK3, hBa⟩
              case measure => exact measK hgj
        · have hgj' : ¬ (j : Int) < (n : Int) := by omega
          obtain rfl : j = n := by omega
          obtain rfl : c = 0 := by rw [H4.out]; exact hK.out
          go_wp2
          go_ret
          exact ⟨rfl, hBr.out⟩

theorem refGatesCheck_any (p : Int) (go lo : Option Addr) (n cg cl : Nat) (F : Nat → Nat → Int) (l : List Int) (c : Int) (hc : GC p n F l c) (w : World) (hrow : IRow w lo l) (hg : GRow w go 4 n F) :
    Calls Try.prog 13 #[.int .i64 p, .slice go n cg, .slice lo l.length cl] w fun e w' => e = .returned (.int .i64 c) ∧ Below w.heap.size w w' := by
  rcases hc with ⟨hp, h0⟩ | ⟨hp, ⟨h, rfl⟩ | ⟨h1, h⟩⟩
  · exact refGatesCheck_bad p go lo n _ cg cl c hp h0 w
  · exact refGatesCheck_long p go lo n _ cg cl h hp w
  · refine refGatesCheck_short p go lo n cg cl F l h1.1 h1.2 hp c (fun hn => ?_) (fun hy => ?_) w hrow hg
    · rcases h with ⟨_, h⟩ | ⟨h, _⟩
      · exact h
      · exact absurd h hn
    · rcases h with ⟨h, _⟩ | ⟨_, h⟩
      · exact absurd hy h
      · exact h

end Go.Proofs.Ytpnmepobdnclkaa.Calls176
