/-
  SHAMIR: for any shares that are too few, and any secret: there are just some numbers by which they would be that secret's, and no other ones: with no condition.
-/
import Derived.Test.YtokbdgikdlfneaaRows
import Derived.Test.YtokbdgikdlfneaaCalls95
import Derived.Test.YtokbdgikdlfneaaCalls92
import Derived.WalkKit
import Derived.ProofKit
import Derived.OpenShut
import Derived.Carry
namespace Go.Proofs.Ytokbdgikdlfneaa.shareHides
open Go.ChangeShapes Go.WideShapes Go.ChangeAt Go.RowKit Go.Deep Go.Proofs.Ytokbdgikdlfneaa.Base Go.Proofs.Ytokbdgikdlfneaa.Base2 Go.Proofs.Ytokbdgikdlfneaa.Num Go.Proofs.Ytokbdgikdlfneaa.Num7 Go.Proofs.Ytokbdgikdlfneaa.Num13 Go.Proofs.Ytokbdgikdlfneaa.Num16 Go.Proofs.Ytokbdgikdlfneaa.Num17 Go.Proofs.Ytokbdgikdlfneaa.Num34 Go.Proofs.Ytokbdgikdlfneaa.Num35 Go.Proofs.Ytokbdgikdlfneaa.Num39 Go.Proofs.Ytokbdgikdlfneaa.Base4 Go.Proofs.Ytokbdgikdlfneaa.Calls56 Go.Proofs.Ytokbdgikdlfneaa.Calls57 Go.Proofs.Ytokbdgikdlfneaa.Calls69 Go.Proofs.Ytokbdgikdlfneaa.Calls87 Go.Proofs.Ytokbdgikdlfneaa.Calls88 Go.Proofs.Ytokbdgikdlfneaa.Calls90 Go.Proofs.Ytokbdgikdlfneaa.Calls91 Go.Proofs.Ytokbdgikdlfneaa.Calls94 Go.Proofs.Ytokbdgikdlfneaa.Calls95 Go.Proofs.Ytokbdgikdlfneaa.Calls92 Go.Proofs.Ytokbdgikdlfneaa.Calls61
set_option linter.unusedVariables false

theorem own : ownKnob Try.prog.godebug = none := by kernel_rfl

theorem laidOut : laidOutB Try.prog = true := by kernel_rfl

theorem cells2 : Try.prog.cellsOf 2 = 1 := by kernel_rfl

theorem exr_to {P : Nat} {other : Int} {r : List (Int × Int)} {e : Ending} {w' : World} (h : ExpR (P : Int) other r 0 e w') : ∃ mm bo cb, e = .returned (.tuple #[.slice bo r.length cb, .int .i64 0]) ∧ Hid (ExpIs P (px r) (py r) r.length other mm) ∧ Hid (IRow w' bo mm) := by
  obtain ⟨bo, k, cb, he, _, h2, _⟩ := h
  obtain ⟨mm, h3, h4, h5⟩ := h2 rfl
  rw [Int.toNat_natCast] at h3
  refine ⟨mm, bo, cb, ?_, h3, h5⟩
  rw [he, h4, h3.1]

theorem exc_bad {p : Int} {l : List (Int × Int)} {s c : Int} (h : ExC p l s c) (hb : ¬ (0 ≤ s ∧ s < p) ∨ 12 < l.length) : c ≠ 0 := by
  intro h0
  subst h0
  obtain ⟨_, h1, h2⟩ := h.ok
  rcases hb with h3 | h3
  · exact h3 h1
  · omega

theorem ExC.of {P : Nat} {r : List (Int × Int)} {s : Int} (hj : JnC (P : Int) r 0) (hs : 0 ≤ s ∧ s < (P : Int)) (hl : r.length ≤ 12) : ExC (P : Int) r s 0 := .inr ⟨hj, .inr ⟨hs, .inr ⟨hl, rfl⟩⟩⟩

/-- The points that are looked at are among those shares. -/
def Fits (P : Nat) (other : Int) (g : List Int) (r : List (Int × Int)) (k : Nat) : Prop := ∀ j, j < k → py r j = ev (other :: g) (px r j) % (P : Int)

theorem Fits.step {P : Nat} {other : Int} {g : List Int} {r : List (Int × Int)} {k : Nat} (h : Fits P other g r k) (h2 : py r k = ev (other :: g) (px r k) % (P : Int)) : Fits P other g r (k + 1) := fun j hj => by
  by_cases e : j = k
  · subst e; exact h2
  · exact h j (by omega)

theorem gd_exp {P : Nat} (hp : 1 ≤ P) {other : Int} {X Y : Nat → Int} {n : Nat} {mm : List Int} (ho : 0 ≤ other ∧ other < (P : Int)) (h : ExpIs P X Y n other mm) : Gd P other ((P - 1 : Nat) : Int) mm :=
  ⟨ho, h.2.1, by omega⟩

set_option maxRecDepth 100000 in
set_option maxHeartbeats 2000000 in
theorem walk_far (P : Nat) (hP : Pr P) (hP2 : P ≤ 251) (s : Int) (mo : Option Addr) (cm : Nat) (m : List Int) (N M : Nat) (hM : M < 4294967296) (other : Int) (go : Option Addr) (cg ng : Nat) (hl : m.length ≤ 12) (hg : Gd P s (N : Int) m) (w : World) (hrow : IRow w mo m)
    (hbad : ¬ (0 ≤ other ∧ other < (P : Int)) ∨ 12 < (fewL M (shl P s m N) (min N 32)).length) :
    Calls Try.prog 7 #[.int .i64 (P : Int), .int .i64 s, .slice mo m.length cm, .int .i64 (N : Int), .int .u32 (M : Int), .int .i64 other, .slice go ng cg] w fun e w' => e = .returned (.bool true) ∧ Below w.heap.size w w' := by
  have hN : N < P := by have := hg.2.2.2; omega
  have cS := Split_yes P hP hP2 s N mo cm m hl hg w hrow
  unfold RetPE at cS
  have hsh : (shl P s m N).length = N := shl_length P s m N
  have cF := fun o1 c1 w' (r : PRow w' o1 (shl P s m N)) => few_any o1 c1 (shl P s m N) (by omega) M hM w' r
  unfold RetP at cF
  simp only [hsh] at cS cF
  obtain ⟨r, hr⟩ : ∃ r, r = fewL M (shl P s m N) (min N 32) := ⟨_, rfl⟩
  have hrl : r.length ≤ 32 := by rw [hr]; have := fewL_len M (shl P s m N) (min N 32); omega
  rw [← hr] at cF hbad
  obtain ⟨c, hc⟩ := exc_ex (P : Int) r other
  have h0 := exc_bad hc hbad
  have cE := fun o2 c2 w' (rr : PRow w' o2 r) => Explain_bad (P : Int) o2 c2 r (by omega) other c hc h0 w' rr
  have h1 : (c != 0) = true := by simpa using h0
  have h2 : (c == 0) = false := by simpa using h0
  generalize shl P s m N = L at *
  obtain ⟨nr, hnr⟩ : ∃ nr, nr = r.length := ⟨_, rfl⟩
  simp only [← hnr] at cF cE hbad
  generalize m.length = nm at *
  clear hnr hr hsh hg hrow hl hrl hc
  by_cases ho1 : other < 0
  · go_enter Try.func7, Try.ntmps7
    go_wp2_with (first
      | (go_at_call 9; refine cS.mono ?_; rintro e w1 ⟨⟨o1, c1, rfl, h1', h2'⟩, hB⟩; have cF1 := cF o1 c1 w1 h2'; clear h1' h2')
      | (go_at_call 18; refine cF1.mono ?_; rintro e w2 ⟨⟨o2, c2, rfl, h1', h2'⟩, hB2⟩; have cE1 := cE o2 c2 w2 h2'; clear h1' h2')
      | (go_at_call 16; refine cE1.mono ?_; rintro e w3 ⟨rfl, hB3⟩))
    go_ret
    exact ⟨rfl, below_trans (below_trans hB hB2) hB3⟩
  · have ho1' : decide (other < 0) = false := by simpa using ho1
    by_cases ho2 : (P : Int) ≤ other
    · go_enter Try.func7, Try.ntmps7
      go_wp2_with (first
        | (go_at_call 9; refine cS.mono ?_; rintro e w1 ⟨⟨o1, c1, rfl, h1', h2'⟩, hB⟩; have cF1 := cF o1 c1 w1 h2'; clear h1' h2')
        | (go_at_call 18; refine cF1.mono ?_; rintro e w2 ⟨⟨o2, c2, rfl, h1', h2'⟩, hB2⟩; have cE1 := cE o2 c2 w2 h2'; clear h1' h2')
        | (go_at_call 16; refine cE1.mono ?_; rintro e w3 ⟨rfl, hB3⟩))
      go_ret
      exact ⟨rfl, below_trans (below_trans hB hB2) hB3⟩
    · have ho2' : decide ((P : Int) ≤ other) = false := by simpa using ho2
      have h12 : (12 : Int) < (nr : Int) := by
        rcases hbad with h | h
        · exact absurd ⟨by omega, by omega⟩ h
        · omega
      clear hbad
      go_enter Try.func7, Try.ntmps7
      go_wp2_with (first
        | (go_at_call 9; refine cS.mono ?_; rintro e w1 ⟨⟨o1, c1, rfl, h1', h2'⟩, hB⟩; have cF1 := cF o1 c1 w1 h2'; clear h1' h2')
        | (go_at_call 18; refine cF1.mono ?_; rintro e w2 ⟨⟨o2, c2, rfl, h1', h2'⟩, hB2⟩; have cE1 := cE o2 c2 w2 h2'; clear h1' h2')
        | (go_at_call 16; refine cE1.mono ?_; rintro e w3 ⟨rfl, hB3⟩))
      go_ret
      exact ⟨rfl, below_trans (below_trans hB hB2) hB3⟩

theorem shl_row {P : Nat} {s : Int} {m : List Int} {N j : Nat} {W : World} {ao : Option Addr} (h : PRow W ao (shl P s m N)) (hj : j < N) : ∃ ad, ao = some ad ∧ W.cell? (ad.add (j * 2)) = some (.int .i64 ((j : Int) + 1)) ∧ W.cell? { block := (ad.add (j * 2)).block, off := (ad.add (j * 2)).off + 1 } = some (.int .i64 (ev (s :: m) ((j : Int) + 1) % (P : Int))) := by
  have hjl : j < (shl P s m N).length := by rw [shl_length]; exact hj
  rcases ao with _ | ad
  · exact (prow_none h hjl).elim
  · obtain ⟨c1, c2⟩ := pcell h hjl
    rw [shl_px hj] at c1
    rw [shl_py hj] at c2
    exact ⟨ad, rfl, c1, c2⟩

set_option maxRecDepth 100000 in
set_option maxHeartbeats 4000000 in
theorem walk_near (P : Nat) (hP : Pr P) (hP2 : P ≤ 251) (s : Int) (mo : Option Addr) (cm : Nat) (m : List Int) (N M : Nat) (hM : M < 4294967296) (other : Int) (go : Option Addr) (cg : Nat) (g : List Int) (mg : g.length ≤ 9223372036854775807) (hl : m.length ≤ 12) (hg : Gd P s (N : Int) m) (w : World) (hrow : IRow w mo m) (hrg : IRow w go g)
    (ho : 0 ≤ other ∧ other < (P : Int)) (h12 : (fewL M (shl P s m N) (min N 32)).length ≤ 12) :
    Calls Try.prog 7 #[.int .i64 (P : Int), .int .i64 s, .slice mo m.length cm, .int .i64 (N : Int), .int .u32 (M : Int), .int .i64 other, .slice go g.length cg] w fun e w' => e = .returned (.bool true) ∧ Below w.heap.size w w' := by
  have hN : N < P := by have := hg.2.2.2; omega
  have hp2 := hP.1
  have hp1 : 1 ≤ P := by omega
  have cS := Split_yes P hP hP2 s N mo cm m hl hg w hrow
  unfold RetPE at cS
  have hsh : (shl P s m N).length = N := shl_length P s m N
  have cF := fun o1 c1 w' (r : PRow w' o1 (shl P s m N)) => few_any o1 c1 (shl P s m N) (by omega) M hM w' r
  unfold RetP at cF
  simp only [hsh] at cS cF
  obtain ⟨r, hr⟩ : ∃ r, r = fewL M (shl P s m N) (min N 32) := ⟨_, rfl⟩
  have hS : Some P s m N r := by rw [hr]; exact some_few P s m N M _ (by omega)
  rw [← hr] at cF h12
  have hI := hS.inp hN
  have hD := hS.dis
  have hZ := hS.noz
  have hDi := hid (hS.dist hN)
  have hNz : Hid (∀ j, j < r.length → ¬ (P : Int) ∣ px r j) := fun j hj hd => by
    obtain ⟨⟨a1, a2⟩, _⟩ := hI j hj
    have a3 := hZ j hj
    have := Int.le_of_dvd (by omega) hd
    omega
  have hAt : Hid (∀ j, j < r.length → ∃ i : Nat, i < N ∧ px r j = (i : Int) + 1) := fun j hj => by
    obtain ⟨i, a1, a2, _⟩ := hS.1 j hj
    exact ⟨i, a1, a2⟩
  have cE := fun o2 c2 w' (rr : PRow w' o2 r) => (Explain_yes P hP hP2 o2 c2 r h12 other ho hI hD hZ (ExC.of (hS.jnc hP hP2 hN (by omega)) ho h12) w' rr).mono (R' := fun e w'' => (∃ mm bo cb, e = .returned (.tuple #[.slice bo r.length cb, .int .i64 0]) ∧ Hid (ExpIs P (px r) (py r) r.length other mm) ∧ Hid (IRow w'' bo mm)) ∧ Below w'.heap.size w' w'') (fun e w'' h => ⟨exr_to h.1, h.2⟩)
  have cA := fun mm (h : Hid (ExpIs P (px r) (py r) r.length other mm)) o c w' (rr : IRow w' o mm) => Split_yes P hP hP2 other (P - 1) o c mm (by rw [h.out.1]; exact h12) (gd_exp hp1 ho h.out) w' rr
  obtain ⟨Q, hQ⟩ : ∃ Q : Nat, Q = P - 1 := ⟨_, rfl⟩
  have hQP : (P : Int) - 1 = (Q : Int) := by omega
  have hNQ : N ≤ Q := by omega
  have hQb : Q < 251 := by omega
  unfold RetPE at cA
  simp only [shl_length, ← hQ] at cA
  have hE0 := hid (fun mm (h : Hid (ExpIs P (px r) (py r) r.length other mm)) => h.out.2.2)
  obtain ⟨c3, hc3⟩ := spc_ex (P : Int) other (Q : Int) g
  have cB := fun (h3 : c3 ≠ 0) w' (hB : Below w.heap.size w w') => Split_bad (P : Int) other (Q : Int) go cg g mg c3 hc3 h3 w' (ib hrg hB)
  have hok : c3 = 0 → g.length ≤ 12 ∧ Gd P other (Q : Int) g := fun h => by
    subst h
    obtain ⟨P', e', _, _, h1, h2⟩ := hc3.ok
    obtain rfl : P = P' := by omega
    exact ⟨h1, h2⟩
  have cG := fun (h3 : c3 = 0) w' (hB : Below w.heap.size w w') => Split_yes P hP hP2 other Q go cg g (hok h3).1 (hok h3).2 w' (ib hrg hB)
  unfold RetPE at cG
  simp only [shl_length] at cG
  have hU : Hid (c3 = 0 → ∀ mm, ExpIs P (px r) (py r) r.length other mm → g.length = r.length → Fits P other g r r.length → g = mm) := fun h3 mm hm hgl hf =>
    ExpIs.uniq hP ho hDi.out hNz.out ⟨hgl, (hok h3).2.2.1, hf⟩ hm
  have cL := fun (hgl : g.length = r.length) o c w' (hB : Below w.heap.size w w') (rr : IRow w' o g) => Longs_same go o cg c g mg w' (ib hrg hB) rr
  obtain ⟨nr, hnr⟩ : ∃ nr, nr = r.length := ⟨_, rfl⟩
  obtain ⟨ng, hng⟩ : ∃ ng, ng = g.length := ⟨_, rfl⟩
  have HNR := hid hnr
  have HNG := hid hng
  simp only [← hnr, ← hng] at cF cE cA cB cG cL hE0 hU hAt h12 ⊢
  generalize shl P s m N = L at *
  generalize m.length = nm at *
  have o1' : decide (other < 0) = false := by simp; omega
  have o2' : decide ((P : Int) ≤ other) = false := by simp; omega
  have n12 : decide ((12 : Int) < (nr : Int)) = false := by simp; omega
  have n12' : decide (12 < nr) = false := by simp; omega
  clear hnr hng hr hS hI hD hZ hrow hg hsh hl hc3 hok hQ
  go_enter Try.func7, Try.ntmps7
  go_wp2_with (first
    | (go_at_call 9; refine cS.mono ?_; rintro e w1 ⟨⟨a1, c1, rfl, h1', h2'⟩, hB⟩; have cF1 := cF a1 c1 w1 h2'; have HB1 := hid hB; clear h1' h2' hB cS cF)
    | (go_at_call 18; refine cF1.mono ?_; rintro e w2 ⟨⟨a2, c2, rfl, h1', h2'⟩, hB2⟩; have cE1 := cE a2 c2 w2 h2'; have R2 := hid h2'; have HB2 := hid (below_trans HB1.out hB2); clear h1' h2' hB2 cF1 cE HB1)
    | (go_at_call 16; refine cE1.mono ?_; rintro e w3 ⟨⟨mm, a3, c3', rfl, hX, hR⟩, hB3⟩; have cA1 := cA mm hX a3 c3' w3 hR.out; rw [hX.out.1] at cA1; have R3 := hid (pb R2.out hB3); have HB3 := hid (below_trans HB2.out hB3); clear hB3 cE1 cA HB2 R2)
    | (go_at_call 9; refine cA1.mono ?_; rintro e w4 ⟨⟨a4, c4, rfl, h1', h2'⟩, hB4⟩; have R4 := hid h2'; have R4r := hid (pb R3.out hB4); have R4m := hid (ib hR.out hB4); have HB4 := hid (below_trans HB3.out hB4); clear h1' h2' hB4 HB3 R3 hR cA1))
  go_loopw [98] (fun vi wr => ∃ j : Nat, vi = .int .i64 (j : Int) ∧ j ≤ nr ∧ Hid (Below w4.heap.size w4 wr)) (fun vi wr => ((nr : Int) - intOf vi).toNat)
  case atStart => exact ⟨0, rfl, by omega, Below.refl _ _⟩
  case round =>
    obtain ⟨j, rfl, hj, HBr⟩ := hrel
    by_cases hgo : j < nr
    · have hgo' : (j : Int) < (nr : Int) := by omega
      have hjl : Hid (j < r.length) := by have := HNR.out; show j < r.length; omega
      rcases a2 with _ | ad
      · exact (prow_none R4r.out hjl.out).elim
      · obtain ⟨q1, q2⟩ := pcell (pb R4r.out HBr.out) hjl.out
        obtain ⟨i, hi, hx⟩ := hAt.out j hgo
        have hy := hE0.out mm hX j hgo
        rw [hx] at q1
        rw [hy, hx] at q2
        have HBa := hid (HBr.out.alloc HBr.out.size (.cells #[.int .i64 ((i : Int) + 1), .int .i64 (ev (other :: mm) ((i : Int) + 1) % (P : Int))] 39))
        obtain ⟨bd, rfl, q3, q4⟩ := shl_row (pb R4.out HBa.out) (show i < Q by omega)
        generalize ev (other :: mm) ((i : Int) + 1) % (P : Int) = y at *
        have k1 : decide ((i : Int) + 1 < 1) = false := decide_eq_false (by omega)
        have k2 : decide ((P : Int) ≤ (i : Int) + 1) = false := by simp; omega
        have k3 : (i : Int) < (Q : Int) := by omega
        clear hx hy
        go_wp2
        go_quiet (fail)
        go_wp2
        go_roundw
        case rel => exact ⟨j + 1, by simp, by omega, below_drewN HBa.out _⟩
        case measure => exact measK hgo
    · have hgo' : ¬ (j : Int) < (nr : Int) := by omega
      obtain rfl : j = nr := by omega
      have HB5 := hid (below_trans HB4.out HBr.out)
      have R5 := hid (pb R4r.out HBr.out)
      have R5m := hid (ib R4m.out HBr.out)
      by_cases hgn : ng = j
      · subst hgn
        by_cases h3 : c3 = 0
        · subst h3
          have cG1 := cG rfl wr HB5.out
          clear cB cG
          go_wp2_with (go_at_call 9; refine cG1.mono ?_; rintro e w5 ⟨⟨a5, c5, rfl, h1', h2'⟩, hB6⟩; have R6 := hid h2'; have R6r := hid (pb R5.out hB6); have R6m := hid (ib R5m.out hB6); have HB6 := hid (below_trans HB5.out hB6); clear h1' h2' hB6 cG1)
          go_loopw [25] (fun vi wr => ∃ k : Nat, vi = .int .i64 (k : Int) ∧ k ≤ ng ∧ Hid (Fits P other g r k) ∧ ∃ d, wr = w5.drewN d) (fun vi wr => ((ng : Int) - intOf vi).toNat)
          case atStart => exact ⟨0, rfl, by omega, fun j hj => absurd hj (by omega), 0, rfl⟩
          case round =>
            obtain ⟨k, rfl, hk, HF, d, rfl⟩ := hrel
            by_cases hgk : k < ng
            · have hgk' : (k : Int) < (ng : Int) := by omega
              have hkl : Hid (k < r.length) := by have := HNR.out; show k < r.length; omega
              rcases a2 with _ | ad
              · exact (prow_none R6r.out hkl.out).elim
              · obtain ⟨q1, q2⟩ := pcell R6r.out hkl.out
                obtain ⟨i, hi, hx⟩ := hAt.out k hgk
                rw [hx] at q1
                obtain ⟨bd, rfl, q3, q4⟩ := shl_row R6.out (show i < Q by omega)
                have hstep : Hid (py r k = ev (other :: g) ((i : Int) + 1) % (P : Int) → Fits P other g r (k + 1)) := fun h => HF.out.step (by rw [hx]; exact h)
                generalize ev (other :: g) ((i : Int) + 1) % (P : Int) = z at *
                generalize py r k = y at *
                have k3 : (i : Int) < (Q : Int) := by omega
                clear hx
                by_cases hzy : y = z
                · have HF2 := hid (hstep.out hzy)
                  subst hzy
                  clear hstep
                  go_wp2
                  go_quiet (fail)
                  go_wp2
                  go_roundw
                  case rel => exact ⟨k + 1, by simp, by omega, HF2, _, rfl⟩
                  case measure => exact measK hgk
                · have n1 : ¬ z = y := fun h => hzy h.symm
                  have n2 : (z == y) = false := by simpa using n1
                  have n3 : (z != y) = true := by simpa using n1
                  clear hstep hzy
                  go_wp2
                  go_quiet (fail)
                  go_wp2
                  go_ret
                  exact ⟨rfl, below_drewN (below_drewN HB6.out d) _⟩
            · have hgk' : ¬ (k : Int) < (ng : Int) := by omega
              obtain rfl : k = ng := by omega
              have hgm := (by simpa using hU.out : ∀ mm, ExpIs P (px r) (py r) k other mm → Fits P other g r k → g = mm) mm hX.out HF.out
              subst hgm
              have cL1 := cL (by trivial) a3 c3' (w5.drewN d) (below_drewN HB6.out d) (ib R6m.out (below_drewN (Below.refl _ w5) d))
              clear cL hU hX
              go_wp2_with (go_at_call 19; refine cL1.mono ?_; rintro e w6 ⟨rfl, hB7⟩)
              go_ret
              exact ⟨rfl, below_trans (below_drewN HB6.out d) hB7⟩
        · have cB1 := cB h3 wr HB5.out
          have e1 : (c3 != 0) = true := by simpa using h3
          have e2 : (c3 == 0) = false := by simpa using h3
          clear cB cG hU cL
          go_wp2_with (go_at_call 9; refine cB1.mono ?_; rintro e w5 ⟨rfl, hB6⟩)
          go_loopw [25] (fun vi wr => vi = .int .i64 0 ∧ wr = w5) (fun vi wr => 0)
          case atStart => exact ⟨rfl, rfl⟩
          case round =>
            obtain ⟨rfl, rfl⟩ := hrel
            by_cases hz : 0 < ng
            · have hz' : (0 : Int) < (ng : Int) := by omega
              go_wp2
              go_ret
              exact ⟨rfl, below_trans HB5.out hB6⟩
            · have hz' : ¬ (0 : Int) < (ng : Int) := by omega
              go_wp2
              go_ret
              exact ⟨rfl, below_trans HB5.out hB6⟩
      · have hgn' : ((ng : Int) != (j : Int)) = true := by simp; omega
        go_wp2
        go_ret
        exact ⟨rfl, HB5.out⟩

theorem walk (p s : Int) (mo : Option Addr) (cm : Nat) (m : List Int) (km : m.length ≤ cm) (mm : m.length ≤ 9223372036854775807) (n : Int) (wn : (Lit.int .i64 n).wf = true) (u : Int) (wu : (Lit.int .u32 u).wf = true) (other : Int) (go : Option Addr) (cg : Nat) (g : List Int) (kg : g.length ≤ cg) (mg : g.length ≤ 9223372036854775807) (w : World) (hrow : IRow w mo m) (hrg : IRow w go g) :
    Calls Try.prog 7 #[.int .i64 p, .int .i64 s, .slice mo m.length cm, .int .i64 n, .int .u32 u, .int .i64 other, .slice go g.length cg] w fun e w' => e = .returned (.bool true) ∧ Below w.heap.size w w' := by
  obtain ⟨c, hc⟩ := spc_ex p s n m
  by_cases h0 : c = 0
  · subst h0
    obtain ⟨P, rfl, hP, hP2, hl, hg⟩ := hc.ok
    obtain ⟨N, rfl⟩ : ∃ N : Nat, n = (N : Int) := ⟨n.toNat, by have := hg.2.2.1; omega⟩
    obtain ⟨M, hM, rfl⟩ : ∃ M : Nat, M < 4294967296 ∧ u = (M : Int) := by
      simp [Lit.wf] at wu
      have m0 : IntKind.u32.min = 0 := by decide
      have m1 : IntKind.u32.max = 4294967295 := by decide
      exact ⟨u.toNat, by omega, by omega⟩
    by_cases ho : 0 ≤ other ∧ other < (P : Int)
    · by_cases h12 : (fewL M (shl P s m N) (min N 32)).length ≤ 12
      · exact walk_near P hP hP2 s mo cm m N M hM other go cg g mg hl hg w hrow hrg ho h12
      · exact walk_far P hP hP2 s mo cm m N M hM other go cg g.length hl hg w hrow (.inr (by omega))
    · exact walk_far P hP hP2 s mo cm m N M hM other go cg g.length hl hg w hrow (.inl ho)
  · have cS := Split_bad p s n mo cm m mm c hc h0 w hrow
    generalize m.length = nm at *
    generalize g.length = ng at *
    have h1 : (c != 0) = true := by simpa using h0
    have h2 : (c == 0) = false := by simpa using h0
    clear hc hrow hrg wn wu
    go_enter Try.func7, Try.ntmps7
    go_wp2_with (go_at_call 9; refine cS.mono ?_; rintro e w1 ⟨rfl, hB⟩)
    go_ret
    exact ⟨rfl, hB⟩

theorem trodAll_seven {H : Type} {enc : TypeId × Value → H} {P : Program} {w : World} {base : Nat} {spare : Nat → Bool} {held : Bool} {t0 t1 t2 t3 t4 t5 t6 : TypeId} {args : Array Value} {ds : List (DataW H)} {ps : List MemPlace} (h : DataW.TrodAll enc P w base spare held [t0, t1, t2, t3, t4, t5, t6] args.toList ds ps) :
    ∃ v0 v1 v2 v3 v4 v5 v6 d0 d1 d2 d3 d4 d5 d6 p0 p1 p2 p3 p4 p5 p6, args = #[v0, v1, v2, v3, v4, v5, v6] ∧ ds = [d0, d1, d2, d3, d4, d5, d6] ∧ ps = p0 ++ p1 ++ p2 ++ p3 ++ p4 ++ p5 ++ p6 ∧ DataW.Trod enc P w base spare held t0 v0 d0 p0 ∧ DataW.Trod enc P w base spare held t1 v1 d1 p1 ∧ DataW.Trod enc P w base spare held t2 v2 d2 p2 ∧ DataW.Trod enc P w base spare held t3 v3 d3 p3 ∧ DataW.Trod enc P w base spare held t4 v4 d4 p4 ∧ DataW.Trod enc P w base spare held t5 v5 d5 p5 ∧ DataW.Trod enc P w base spare held t6 v6 d6 p6 := by
  obtain ⟨v0, vs0, d0, ds0, p0, q0, hargs, rfl, rfl, hd0, hrest0⟩ := trodAll_cons h
  obtain ⟨v1, vs1, d1, ds1, p1, q1, rfl, rfl, rfl, hd1, hrest1⟩ := trodAll_cons hrest0
  obtain ⟨v2, vs2, d2, ds2, p2, q2, rfl, rfl, rfl, hd2, hrest2⟩ := trodAll_cons hrest1
  obtain ⟨v3, vs3, d3, ds3, p3, q3, rfl, rfl, rfl, hd3, hrest3⟩ := trodAll_cons hrest2
  obtain ⟨v4, vs4, d4, ds4, p4, q4, rfl, rfl, rfl, hd4, hrest4⟩ := trodAll_cons hrest3
  obtain ⟨v5, vs5, d5, ds5, p5, q5, rfl, rfl, rfl, hd5, hrest5⟩ := trodAll_cons hrest4
  obtain ⟨v6, vs6, d6, ds6, p6, q6, rfl, rfl, rfl, hd6, hrest6⟩ := trodAll_cons hrest5
  obtain ⟨rfl, rfl, rfl⟩ := trodAll_nil hrest6
  exact ⟨v0, v1, v2, v3, v4, v5, v6, d0, d1, d2, d3, d4, d5, d6, p0, p1, p2, p3, p4, p5, p6, by cases args; simp_all, rfl, by simp, hd0, hd1, hd2, hd3, hd4, hd5, hd6⟩

theorem trodAll_mk5 {H : Type} {enc : TypeId × Value → H} {P : Program} {w : World} {base : Nat} {spare : Nat → Bool} {held : Bool} {t0 t1 t2 t3 t4 : TypeId} {v0 v1 v2 v3 v4 : Value} {d0 d1 d2 d3 d4 : DataW H} {p0 p1 p2 p3 p4 : List MemPlace} (h0 : DataW.Trod enc P w base spare held t0 v0 d0 p0) (h1 : DataW.Trod enc P w base spare held t1 v1 d1 p1) (h2 : DataW.Trod enc P w base spare held t2 v2 d2 p2) (h3 : DataW.Trod enc P w base spare held t3 v3 d3 p3) (h4 : DataW.Trod enc P w base spare held t4 v4 d4 p4) : DataW.TrodAll enc P w base spare held [t0, t1, t2, t3, t4] [v0, v1, v2, v3, v4] [d0, d1, d2, d3, d4] (p0 ++ (p1 ++ (p2 ++ (p3 ++ (p4))))) := ⟨p0, p1 ++ (p2 ++ (p3 ++ (p4))), h0, trodAll_mk4 h1 h2 h3 h4, rfl⟩

theorem trodAll_mk6 {H : Type} {enc : TypeId × Value → H} {P : Program} {w : World} {base : Nat} {spare : Nat → Bool} {held : Bool} {t0 t1 t2 t3 t4 t5 : TypeId} {v0 v1 v2 v3 v4 v5 : Value} {d0 d1 d2 d3 d4 d5 : DataW H} {p0 p1 p2 p3 p4 p5 : List MemPlace} (h0 : DataW.Trod enc P w base spare held t0 v0 d0 p0) (h1 : DataW.Trod enc P w base spare held t1 v1 d1 p1) (h2 : DataW.Trod enc P w base spare held t2 v2 d2 p2) (h3 : DataW.Trod enc P w base spare held t3 v3 d3 p3) (h4 : DataW.Trod enc P w base spare held t4 v4 d4 p4) (h5 : DataW.Trod enc P w base spare held t5 v5 d5 p5) : DataW.TrodAll enc P w base spare held [t0, t1, t2, t3, t4, t5] [v0, v1, v2, v3, v4, v5] [d0, d1, d2, d3, d4, d5] (p0 ++ (p1 ++ (p2 ++ (p3 ++ (p4 ++ (p5)))))) := ⟨p0, p1 ++ (p2 ++ (p3 ++ (p4 ++ (p5)))), h0, trodAll_mk5 h1 h2 h3 h4 h5, rfl⟩

theorem trodAll_mk7 {H : Type} {enc : TypeId × Value → H} {P : Program} {w : World} {base : Nat} {spare : Nat → Bool} {held : Bool} {t0 t1 t2 t3 t4 t5 t6 : TypeId} {v0 v1 v2 v3 v4 v5 v6 : Value} {d0 d1 d2 d3 d4 d5 d6 : DataW H} {p0 p1 p2 p3 p4 p5 p6 : List MemPlace} (h0 : DataW.Trod enc P w base spare held t0 v0 d0 p0) (h1 : DataW.Trod enc P w base spare held t1 v1 d1 p1) (h2 : DataW.Trod enc P w base spare held t2 v2 d2 p2) (h3 : DataW.Trod enc P w base spare held t3 v3 d3 p3) (h4 : DataW.Trod enc P w base spare held t4 v4 d4 p4) (h5 : DataW.Trod enc P w base spare held t5 v5 d5 p5) (h6 : DataW.Trod enc P w base spare held t6 v6 d6 p6) : DataW.TrodAll enc P w base spare held [t0, t1, t2, t3, t4, t5, t6] [v0, v1, v2, v3, v4, v5, v6] [d0, d1, d2, d3, d4, d5, d6] (p0 ++ (p1 ++ (p2 ++ (p3 ++ (p4 ++ (p5 ++ (p6))))))) := ⟨p0, p1 ++ (p2 ++ (p3 ++ (p4 ++ (p5 ++ (p6))))), h0, trodAll_mk6 h1 h2 h3 h4 h5 h6, rfl⟩

set_option maxRecDepth 100000 in
theorem lifted (os : Os) (started : os.Started) (H : Type) (enc : TypeId × Value → H) :
    ReturnsInHanded {} Try.checked os 7 .any (Rows.shareHidesSpec.pre6 enc Try.prog Try.f7 Rows.shareHidesRow.domain false) (Rows.shareHidesSpec.post enc Try.prog Try.f7 false true false false) := by
  refine returnsInHanded_of_change (C := Try.checked) own started (by kernel_rfl) Try.func7
    (ChangeSpec.witness6 (enc := enc) (C := Try.checked) false ⟨#[], #[.int .i64 0, .int .i64 0, .slice none 0 0, .int .i64 0, .int .u32 0, .int .i64 0, .slice none 0 0], []⟩ 8 (by kernel_rfl) (by kernel_rfl) (by kernel_rfl) (by kernel_rfl)) ?_
  intro W base args ds gs before hval0 hW hcnd _
  have hval : ∀ (j : Nat) t v, Try.f7.params[j]? = some t → args[j]? = some v → Value.okWide Try.prog W .any base t v := hval0
  have hW' := hW
  obtain ⟨p, q, hA0, hV, rfl, _, _⟩ := hW
  have hA : DataW.TrodAll enc Try.prog W 0 (fun _ => true) true Try.f7.params.toList args.toList ds p := hA0
  rw [Try.params7] at hA hval
  obtain ⟨v0, v1, v2, v3, v4, v5, v6, d0, d1, d2, d3, d4, d5, d6, p0, p1, p2, p3, p4, p5, p6, rfl, rfl, rfl, h0, h1, h2, h3, h4, h5, h6⟩ := trodAll_seven hA
  obtain ⟨rfl, rfl⟩ := trodVars_none hV
  obtain ⟨a0, rfl, rfl, rfl, w0⟩ := open_int Try.underlying2 (hval 0 2 v0 rfl rfl) h0
  obtain ⟨a1, rfl, rfl, rfl, w1⟩ := open_int Try.underlying2 (hval 1 2 v1 rfl rfl) h1
  have hsl2 := okWide_slice Try.underlying22 (hval 2 22 v2 rfl rfl)
  obtain ⟨a3, rfl, rfl, rfl, w3⟩ := open_int Try.underlying3 (hval 3 3 v3 rfl rfl) h3
  obtain ⟨a4, rfl, rfl, rfl, w4⟩ := open_int Try.underlying42 (hval 4 42 v4 rfl rfl) h4
  obtain ⟨a5, rfl, rfl, rfl, w5⟩ := open_int Try.underlying2 (hval 5 2 v5 rfl rfl) h5
  have hsl6 := okWide_slice Try.underlying22 (hval 6 22 v6 rfl rfl)
  clear hA0 hval0
  simp only [List.append_nil, List.nil_append] at hW'
  have hlt2 : ∀ x ∈ p2, x.block < W.heap.size := fun x hx => by simpa using hW'.lt x (by simp [hx])
  have harg2 : ∀ (W' : World), Below W.heap.size W W' → DataW.Trod enc Try.prog W' 0 (fun b => decide (b < W.heap.size)) true 22 v2 d2 p2 :=
    fun W' hn => Below.trod laidOut (by kernel_rfl) (of_decide_eq_true (by kernel_rfl)) h2 hn hlt2
  obtain ⟨o2, c2, l2, rfl, r2, k2, m2⟩ := longs_view Try.underlying22 cells2 Try.underlying2 h2 hsl2
  have hlt6 : ∀ x ∈ p6, x.block < W.heap.size := fun x hx => by simpa using hW'.lt x (by simp [hx])
  have harg6 : ∀ (W' : World), Below W.heap.size W W' → DataW.Trod enc Try.prog W' 0 (fun b => decide (b < W.heap.size)) true 22 v6 d6 p6 :=
    fun W' hn => Below.trod laidOut (by kernel_rfl) (of_decide_eq_true (by kernel_rfl)) h6 hn hlt6
  obtain ⟨o6, c6, l6, rfl, r6, k6, m6⟩ := longs_view Try.underlying22 cells2 Try.underlying2 h6 hsl6
  refine (walk a0 a1 o2 c2 l2 k2 m2 a3 w3 a4 w4 a5 o6 c6 l6 k6 m6 W r2 r6).mono fun e W' ⟨he, hg⟩ => ?_
  subst he
  refine ⟨_, rfl, _, _, _, [], ([] : List MemPlace) ++ (([] : List MemPlace) ++ (p2 ++ (([] : List MemPlace) ++ (([] : List MemPlace) ++ (([] : List MemPlace) ++ (p6)))))), [], hW', ?_, ?_, rfl, hg.frame _, fun h => by cases h⟩
  · exact trodAll_mk1 (shut_bool Try.underlying4 true)
  · exact trodAll_mk7 (shut_int Try.underlying2 w0) (shut_int Try.underlying2 w1) (harg2 _ hg) (shut_int Try.underlying3 w3) (shut_int Try.underlying42 w4) (shut_int Try.underlying2 w5) (harg6 _ hg)

theorem over : Rows.shareHidesRow.holds Try.pinned (OpenSpec.ofChange Rows.shareHidesSpec) :=
  OpenClaim.holds_of_wide 7 Try.f7 rfl rfl rfl rfl rfl rfl rfl ⟨rfl, rfl, rfl, rfl, rfl⟩ rfl rfl rfl rfl rfl (by kernel_rfl) Try.func7 (by kernel_rfl)
    (of_decide_eq_true (by kernel_rfl)) (by unfold Func.isWrapper; first | (rw [if_pos (by decide +kernel)]; kernel_rfl) | (rw [if_neg (by decide +kernel)]; exact ⟨rfl, rfl⟩))
    (fun os started H enc _ => lifted os started H enc)

/-- ████ THE STATEMENT ████ -/
theorem proved : Rows.ShareHidesSaid :=
  over

end Go.Proofs.Ytokbdgikdlfneaa.shareHides
