/-
  EUCLID: for any two polynomials and any divisor: what divides both and is greatest divides both; and whatever divides both divides it: with no condition.
-/
import Derived.Test.YtiaabkadonimjabRows
import Derived.Test.YtiaabkadonimjabCalls68
import Derived.WalkKit
import Derived.ProofKit
import Derived.OpenShut
import Derived.Carry
namespace Go.Proofs.Ytiaabkadonimjab.polyGreatest
open Go.ChangeShapes Go.WideShapes Go.ChangeAt Go.RowKit Go.Deep Go.Proofs.Ytiaabkadonimjab.Base Go.Proofs.Ytiaabkadonimjab.Base2 Go.Proofs.Ytiaabkadonimjab.Num Go.Proofs.Ytiaabkadonimjab.Num7 Go.Proofs.Ytiaabkadonimjab.Num13 Go.Proofs.Ytiaabkadonimjab.Num16 Go.Proofs.Ytiaabkadonimjab.Num17 Go.Proofs.Ytiaabkadonimjab.Num34 Go.Proofs.Ytiaabkadonimjab.Num35 Go.Proofs.Ytiaabkadonimjab.Base4 Go.Proofs.Ytiaabkadonimjab.Calls56 Go.Proofs.Ytiaabkadonimjab.Calls57 Go.Proofs.Ytiaabkadonimjab.Calls58 Go.Proofs.Ytiaabkadonimjab.Calls59 Go.Proofs.Ytiaabkadonimjab.Calls60 Go.Proofs.Ytiaabkadonimjab.Calls62 Go.Proofs.Ytiaabkadonimjab.Calls63 Go.Proofs.Ytiaabkadonimjab.Calls68
set_option linter.unusedVariables false

theorem own : ownKnob Try.prog.godebug = none := by kernel_rfl

theorem laidOut : laidOutB Try.prog = true := by kernel_rfl

theorem cells2 : Try.prog.cellsOf 2 = 1 := by kernel_rfl

theorem bool_ex (p : Prop) : ∃ b : Bool, b = true ↔ p := by
  rcases Classical.em p with h | h
  · exact ⟨true, by simp [h]⟩
  · exact ⟨false, by simp [h]⟩

theorem al {w W : World} (h : Below w.heap.size w W) (o : Obj) : Below w.heap.size w (W.alloc o) := h.alloc h.size o

theorem neg {b : Bool} {q : Prop} (h : b = true ↔ q) (k : b = false) : ¬ q := fun hq => by rw [h.2 hq] at k; cases k

set_option maxRecDepth 100000 in
set_option maxHeartbeats 1000000 in
theorem main_bad (P : Nat) (hP : Pr P) (hP2 : P ≤ 251) (ao bo do_ : Option Addr) (ca cb cd : Nat) (a b d : List Int) (ha : a.length ≤ 13) (hb : b.length ≤ 13) (hca : Cn P a) (hcb : Cn P b) (md : d.length ≤ 9223372036854775807) (hne : ¬ (a = [] ∧ b = [])) (w : World) (ra : IRow w ao a) (rb : IRow w bo b) (rd : IRow w do_ d) (c : Int) (hc : PC (P : Int) d c) (h0 : c ≠ 0) :
    Calls Try.prog 5 #[.int .i64 (P : Int), .slice ao a.length ca, .slice bo b.length cb, .slice do_ d.length cd] w fun e w' => e = .returned (.bool true) ∧ Below w.heap.size w w' := by
  have hp1 : 1 ≤ P := by have := hP.1; omega
  have cG := Gcd_yes P hP hP2 ao bo ca cb a b ha hb hca hcb w ra rb
  have cS2 := fun w' (hB : Below w.heap.size w w') => sound2 (P : Int) ao bo ca cb a b (by omega) (by omega) 0 0 (PC.of hP hP2 ha hca) (PC.of hP hP2 hb hcb) true (by simp [cd2]) w' (irow_below ra hB (Nat.le_refl _)) (irow_below rb hB (Nat.le_refl _))
  have cS1 := fun w' (hB : Below w.heap.size w w') => sound1 (P : Int) do_ cd d md c hc false (by simp [h0]) w' (irow_below rd hB (Nat.le_refl _))
  have cGA := fun (g : List Int) (o1 : Option Addr) (c1 : Nat) (hg : GcdIs P a b g) (hl : g.length ≤ 13) (ng : g ≠ []) w' (hB : Below w.heap.size w w') (rg : IRow w' o1 g) => divides_yes P hP hP2 ao o1 ca c1 a g ha hl ng hca hg.1 true (by simp [((hg.2.1 g).1 (Dv.self P g)).1]) w' (irow_below ra hB (Nat.le_refl _)) rg
  have cGB := fun (g : List Int) (o1 : Option Addr) (c1 : Nat) (hg : GcdIs P a b g) (hl : g.length ≤ 13) (ng : g ≠ []) w' (hB : Below w.heap.size w w') (rg : IRow w' o1 g) => divides_yes P hP hP2 bo o1 cb c1 b g hb hl ng hcb hg.1 true (by simp [((hg.2.1 g).1 (Dv.self P g)).2]) w' (irow_below rb hB (Nat.le_refl _)) rg
  have HG : Hid (∀ g, GcdIs P a b g → g ≠ []) := fun g hg e => hne ((hg.nil_iff hp1 hca hcb).1 e)
  obtain ⟨na, hna⟩ : ∃ na, na = a.length := ⟨_, rfl⟩
  obtain ⟨nb, hnb⟩ : ∃ nb, nb = b.length := ⟨_, rfl⟩
  obtain ⟨nd, hnd⟩ : ∃ nd, nd = d.length := ⟨_, rfl⟩
  have hab : na ≠ 0 ∨ nb ≠ 0 := by
    rcases Nat.eq_zero_or_pos na with h1 | h1
    · rcases Nat.eq_zero_or_pos nb with h2 | h2
      · exact absurd ⟨List.length_eq_zero_iff.1 (by omega), List.length_eq_zero_iff.1 (by omega)⟩ hne
      · exact .inr (by omega)
    · exact .inl (by omega)
  simp only [← hna, ← hnb, ← hnd] at *
  clear hna hnb hnd hne ra rb rd hca hcb
  have cGA' := hid cGA
  have cGB' := hid cGB
  clear cGA cGB
  rcases Nat.eq_zero_or_pos na with hz | hz
  · have hz1 : ((na : Int) == 0) = true := by simp; omega
    have hz2 : ((nb : Int) == 0) = false := by simp; omega
    clear hz hab
    go_enter Try.func5, Try.ntmps5
    go_wp2_with (first
      | (go_at_call 16; refine cG.mono ?_; rintro e w1 ⟨⟨g, hg, hgl, o1, c1, rfl, hc1, hr1⟩, hB1⟩; have HGI := hid hg; have H1 := hid hr1; obtain ⟨m, hm⟩ : ∃ m, g.length = m + 1 := ⟨g.length - 1, by have := pos_of_ne (HG.out g hg); omega⟩; have HM := hid hm; have hbA := al hB1 (.cells #[.slice ao na ca, .slice bo nb cb] 23); have ht1 := hg.2.2 (HG.out g hg); rw [show g.length - 1 = m by omega] at ht1; have cGA := cGA'.out g o1 c1 hg hgl (HG.out g hg); have cGB := cGB'.out g o1 c1 hg hgl (HG.out g hg); simp only [hm] at cGA cGB; rw [hm]; obtain ⟨ad, rfl⟩ : ∃ ad, o1 = some ad := (by
          cases o1 with
          | none => exact (irow_none H1.out (j := m) (by omega)).elim
          | some ad => exact ⟨ad, rfl⟩); have d1 := (irow_below H1.out ((Below.refl _ w1).alloc (Nat.le_refl _) (.cells #[.slice ao na ca, .slice bo nb cb] 23)) (Nat.le_refl _)).2 ad rfl m (by omega); rw [ht1] at d1; have HL := hid hgl; have hmm : (m : Int) < (m : Int) + 1 := (by omega); have hm13 : m ≤ 13 := (by omega); clear hg hr1 hm ht1 hgl)
      | (go_at_call 14; refine (cS2 _ hB1).mono ?_; rintro e w2 ⟨rfl, hw⟩; subst w2; clear cS2)
      | (go_at_call 17; refine (cGA _ hbA (irow_below H1.out ((Below.refl _ w1).alloc (Nat.le_refl _) _) (Nat.le_refl _))).mono ?_; rintro e w3 ⟨rfl, hB3⟩; clear cGA; have R3 := hid (irow_below H1.out (below_trans ((Below.refl _ w1).alloc (Nat.le_refl _) _) hB3) (Nat.le_refl _)); have hB3' := below_trans hbA hB3)
      | (go_at_call 17; refine (cGB _ hB3' R3.out).mono ?_; rintro e w4 ⟨rfl, hB4⟩; clear cGB; have R4 := hid (irow_below R3.out hB4 (Nat.le_refl _)); have hB4' := below_trans hB3' hB4)
      | (go_at_call 14; refine (cS1 _ hB4').mono ?_; rintro e w2 ⟨rfl, hw⟩; subst w2; have R5 := hid (irow_below R4.out ((Below.refl _ w4).alloc (Nat.le_refl _) (.cells #[.slice do_ nd cd] 23)) (Nat.le_refl _)); have hB5' := al hB4' (.cells #[.slice do_ nd cd] 23))
)
    go_ret
    exact ⟨rfl, hB5'⟩
  · have hz2 : ((na : Int) == 0) = false := by simp; omega
    clear hab
    go_enter Try.func5, Try.ntmps5
    go_wp2_with (first
      | (go_at_call 16; refine cG.mono ?_; rintro e w1 ⟨⟨g, hg, hgl, o1, c1, rfl, hc1, hr1⟩, hB1⟩; have HGI := hid hg; have H1 := hid hr1; obtain ⟨m, hm⟩ : ∃ m, g.length = m + 1 := ⟨g.length - 1, by have := pos_of_ne (HG.out g hg); omega⟩; have HM := hid hm; have hbA := al hB1 (.cells #[.slice ao na ca, .slice bo nb cb] 23); have ht1 := hg.2.2 (HG.out g hg); rw [show g.length - 1 = m by omega] at ht1; have cGA := cGA'.out g o1 c1 hg hgl (HG.out g hg); have cGB := cGB'.out g o1 c1 hg hgl (HG.out g hg); simp only [hm] at cGA cGB; rw [hm]; obtain ⟨ad, rfl⟩ : ∃ ad, o1 = some ad := (by
          cases o1 with
          | none => exact (irow_none H1.out (j := m) (by omega)).elim
          | some ad => exact ⟨ad, rfl⟩); have d1 := (irow_below H1.out ((Below.refl _ w1).alloc (Nat.le_refl _) (.cells #[.slice ao na ca, .slice bo nb cb] 23)) (Nat.le_refl _)).2 ad rfl m (by omega); rw [ht1] at d1; have HL := hid hgl; have hmm : (m : Int) < (m : Int) + 1 := (by omega); have hm13 : m ≤ 13 := (by omega); clear hg hr1 hm ht1 hgl)
      | (go_at_call 14; refine (cS2 _ hB1).mono ?_; rintro e w2 ⟨rfl, hw⟩; subst w2; clear cS2)
      | (go_at_call 17; refine (cGA _ hbA (irow_below H1.out ((Below.refl _ w1).alloc (Nat.le_refl _) _) (Nat.le_refl _))).mono ?_; rintro e w3 ⟨rfl, hB3⟩; clear cGA; have R3 := hid (irow_below H1.out (below_trans ((Below.refl _ w1).alloc (Nat.le_refl _) _) hB3) (Nat.le_refl _)); have hB3' := below_trans hbA hB3)
      | (go_at_call 17; refine (cGB _ hB3' R3.out).mono ?_; rintro e w4 ⟨rfl, hB4⟩; clear cGB; have R4 := hid (irow_below R3.out hB4 (Nat.le_refl _)); have hB4' := below_trans hB3' hB4)
      | (go_at_call 14; refine (cS1 _ hB4').mono ?_; rintro e w2 ⟨rfl, hw⟩; subst w2; have R5 := hid (irow_below R4.out ((Below.refl _ w4).alloc (Nat.le_refl _) (.cells #[.slice do_ nd cd] 23)) (Nat.le_refl _)); have hB5' := al hB4' (.cells #[.slice do_ nd cd] 23))
)
    go_ret
    exact ⟨rfl, hB5'⟩

set_option maxRecDepth 100000 in
set_option maxHeartbeats 1000000 in
theorem main_nil (P : Nat) (hP : Pr P) (hP2 : P ≤ 251) (ao bo do_ : Option Addr) (ca cb cd : Nat) (a b d : List Int) (ha : a.length ≤ 13) (hb : b.length ≤ 13) (hca : Cn P a) (hcb : Cn P b) (md : d.length ≤ 9223372036854775807) (hne : ¬ (a = [] ∧ b = [])) (w : World) (ra : IRow w ao a) (rb : IRow w bo b) (rd : IRow w do_ d) (h0 : d = []) :
    Calls Try.prog 5 #[.int .i64 (P : Int), .slice ao a.length ca, .slice bo b.length cb, .slice do_ d.length cd] w fun e w' => e = .returned (.bool true) ∧ Below w.heap.size w w' := by
  have hp1 : 1 ≤ P := by have := hP.1; omega
  have cG := Gcd_yes P hP hP2 ao bo ca cb a b ha hb hca hcb w ra rb
  have cS2 := fun w' (hB : Below w.heap.size w w') => sound2 (P : Int) ao bo ca cb a b (by omega) (by omega) 0 0 (PC.of hP hP2 ha hca) (PC.of hP hP2 hb hcb) true (by simp [cd2]) w' (irow_below ra hB (Nat.le_refl _)) (irow_below rb hB (Nat.le_refl _))
  have cS1 := fun w' (hB : Below w.heap.size w w') => sound1 (P : Int) do_ cd d md 0 (by rw [h0]; exact PC.of hP hP2 (by simp) (Cn.nil P)) true (by simp) w' (irow_below rd hB (Nat.le_refl _))
  have hd0 : d.length = 0 := by rw [h0]; rfl
  have cGA := fun (g : List Int) (o1 : Option Addr) (c1 : Nat) (hg : GcdIs P a b g) (hl : g.length ≤ 13) (ng : g ≠ []) w' (hB : Below w.heap.size w w') (rg : IRow w' o1 g) => divides_yes P hP hP2 ao o1 ca c1 a g ha hl ng hca hg.1 true (by simp [((hg.2.1 g).1 (Dv.self P g)).1]) w' (irow_below ra hB (Nat.le_refl _)) rg
  have cGB := fun (g : List Int) (o1 : Option Addr) (c1 : Nat) (hg : GcdIs P a b g) (hl : g.length ≤ 13) (ng : g ≠ []) w' (hB : Below w.heap.size w w') (rg : IRow w' o1 g) => divides_yes P hP hP2 bo o1 cb c1 b g hb hl ng hcb hg.1 true (by simp [((hg.2.1 g).1 (Dv.self P g)).2]) w' (irow_below rb hB (Nat.le_refl _)) rg
  have HG : Hid (∀ g, GcdIs P a b g → g ≠ []) := fun g hg e => hne ((hg.nil_iff hp1 hca hcb).1 e)
  obtain ⟨na, hna⟩ : ∃ na, na = a.length := ⟨_, rfl⟩
  obtain ⟨nb, hnb⟩ : ∃ nb, nb = b.length := ⟨_, rfl⟩
  obtain ⟨nd, hnd⟩ : ∃ nd, nd = d.length := ⟨_, rfl⟩
  have hab : na ≠ 0 ∨ nb ≠ 0 := by
    rcases Nat.eq_zero_or_pos na with h1 | h1
    · rcases Nat.eq_zero_or_pos nb with h2 | h2
      · exact absurd ⟨List.length_eq_zero_iff.1 (by omega), List.length_eq_zero_iff.1 (by omega)⟩ hne
      · exact .inr (by omega)
    · exact .inl (by omega)
  have hnd0 : ((nd : Int) == 0) = true := by rw [hnd, hd0]; rfl
  clear hd0
  simp only [← hna, ← hnb, ← hnd] at *
  clear hna hnb hnd hne ra rb rd hca hcb
  have cGA' := hid cGA
  have cGB' := hid cGB
  clear cGA cGB
  rcases Nat.eq_zero_or_pos na with hz | hz
  · have hz1 : ((na : Int) == 0) = true := by simp; omega
    have hz2 : ((nb : Int) == 0) = false := by simp; omega
    clear hz hab
    go_enter Try.func5, Try.ntmps5
    go_wp2_with (first
      | (go_at_call 16; refine cG.mono ?_; rintro e w1 ⟨⟨g, hg, hgl, o1, c1, rfl, hc1, hr1⟩, hB1⟩; have HGI := hid hg; have H1 := hid hr1; obtain ⟨m, hm⟩ : ∃ m, g.length = m + 1 := ⟨g.length - 1, by have := pos_of_ne (HG.out g hg); omega⟩; have HM := hid hm; have hbA := al hB1 (.cells #[.slice ao na ca, .slice bo nb cb] 23); have ht1 := hg.2.2 (HG.out g hg); rw [show g.length - 1 = m by omega] at ht1; have cGA := cGA'.out g o1 c1 hg hgl (HG.out g hg); have cGB := cGB'.out g o1 c1 hg hgl (HG.out g hg); simp only [hm] at cGA cGB; rw [hm]; obtain ⟨ad, rfl⟩ : ∃ ad, o1 = some ad := (by
          cases o1 with
          | none => exact (irow_none H1.out (j := m) (by omega)).elim
          | some ad => exact ⟨ad, rfl⟩); have d1 := (irow_below H1.out ((Below.refl _ w1).alloc (Nat.le_refl _) (.cells #[.slice ao na ca, .slice bo nb cb] 23)) (Nat.le_refl _)).2 ad rfl m (by omega); rw [ht1] at d1; have HL := hid hgl; have hmm : (m : Int) < (m : Int) + 1 := (by omega); have hm13 : m ≤ 13 := (by omega); clear hg hr1 hm ht1 hgl)
      | (go_at_call 14; refine (cS2 _ hB1).mono ?_; rintro e w2 ⟨rfl, hw⟩; subst w2; clear cS2)
      | (go_at_call 17; refine (cGA _ hbA (irow_below H1.out ((Below.refl _ w1).alloc (Nat.le_refl _) _) (Nat.le_refl _))).mono ?_; rintro e w3 ⟨rfl, hB3⟩; clear cGA; have R3 := hid (irow_below H1.out (below_trans ((Below.refl _ w1).alloc (Nat.le_refl _) _) hB3) (Nat.le_refl _)); have hB3' := below_trans hbA hB3)
      | (go_at_call 17; refine (cGB _ hB3' R3.out).mono ?_; rintro e w4 ⟨rfl, hB4⟩; clear cGB; have R4 := hid (irow_below R3.out hB4 (Nat.le_refl _)); have hB4' := below_trans hB3' hB4)
      | (go_at_call 14; refine (cS1 _ hB4').mono ?_; rintro e w2 ⟨rfl, hw⟩; subst w2; have R5 := hid (irow_below R4.out ((Below.refl _ w4).alloc (Nat.le_refl _) (.cells #[.slice do_ nd cd] 23)) (Nat.le_refl _)); have hB5' := al hB4' (.cells #[.slice do_ nd cd] 23))
)
    go_ret
    exact ⟨rfl, hB5'⟩
  · have hz2 : ((na : Int) == 0) = false := by simp; omega
    clear hab
    go_enter Try.func5, Try.ntmps5
    go_wp2_with (first
      | (go_at_call 16; refine cG.mono ?_; rintro e w1 ⟨⟨g, hg, hgl, o1, c1, rfl, hc1, hr1⟩, hB1⟩; have HGI := hid hg; have H1 := hid hr1; obtain ⟨m, hm⟩ : ∃ m, g.length = m + 1 := ⟨g.length - 1, by have := pos_of_ne (HG.out g hg); omega⟩; have HM := hid hm; have hbA := al hB1 (.cells #[.slice ao na ca, .slice bo nb cb] 23); have ht1 := hg.2.2 (HG.out g hg); rw [show g.length - 1 = m by omega] at ht1; have cGA := cGA'.out g o1 c1 hg hgl (HG.out g hg); have cGB := cGB'.out g o1 c1 hg hgl (HG.out g hg); simp only [hm] at cGA cGB; rw [hm]; obtain ⟨ad, rfl⟩ : ∃ ad, o1 = some ad := (by
          cases o1 with
          | none => exact (irow_none H1.out (j := m) (by omega)).elim
          | some ad => exact ⟨ad, rfl⟩); have d1 := (irow_below H1.out ((Below.refl _ w1).alloc (Nat.le_refl _) (.cells #[.slice ao na ca, .slice bo nb cb] 23)) (Nat.le_refl _)).2 ad rfl m (by omega); rw [ht1] at d1; have HL := hid hgl; have hmm : (m : Int) < (m : Int) + 1 := (by omega); have hm13 : m ≤ 13 := (by omega); clear hg hr1 hm ht1 hgl)
      | (go_at_call 14; refine (cS2 _ hB1).mono ?_; rintro e w2 ⟨rfl, hw⟩; subst w2; clear cS2)
      | (go_at_call 17; refine (cGA _ hbA (irow_below H1.out ((Below.refl _ w1).alloc (Nat.le_refl _) _) (Nat.le_refl _))).mono ?_; rintro e w3 ⟨rfl, hB3⟩; clear cGA; have R3 := hid (irow_below H1.out (below_trans ((Below.refl _ w1).alloc (Nat.le_refl _) _) hB3) (Nat.le_refl _)); have hB3' := below_trans hbA hB3)
      | (go_at_call 17; refine (cGB _ hB3' R3.out).mono ?_; rintro e w4 ⟨rfl, hB4⟩; clear cGB; have R4 := hid (irow_below R3.out hB4 (Nat.le_refl _)); have hB4' := below_trans hB3' hB4)
      | (go_at_call 14; refine (cS1 _ hB4').mono ?_; rintro e w2 ⟨rfl, hw⟩; subst w2; have R5 := hid (irow_below R4.out ((Below.refl _ w4).alloc (Nat.le_refl _) (.cells #[.slice do_ nd cd] 23)) (Nat.le_refl _)); have hB5' := al hB4' (.cells #[.slice do_ nd cd] 23))
)
    go_ret
    exact ⟨rfl, hB5'⟩

set_option maxRecDepth 100000 in
set_option maxHeartbeats 1000000 in
theorem main_a (P : Nat) (hP : Pr P) (hP2 : P ≤ 251) (ao bo do_ : Option Addr) (ca cb cd : Nat) (a b d : List Int) (ha : a.length ≤ 13) (hb : b.length ≤ 13) (hca : Cn P a) (hcb : Cn P b) (md : d.length ≤ 9223372036854775807) (hne : ¬ (a = [] ∧ b = [])) (w : World) (ra : IRow w ao a) (rb : IRow w bo b) (rd : IRow w do_ d) (hd : d.length ≤ 13) (hcd : Cn P d) (nd0 : d ≠ []) (t1 : ¬ Dv P d a) :
    Calls Try.prog 5 #[.int .i64 (P : Int), .slice ao a.length ca, .slice bo b.length cb, .slice do_ d.length cd] w fun e w' => e = .returned (.bool true) ∧ Below w.heap.size w w' := by
  have hp1 : 1 ≤ P := by have := hP.1; omega
  have cG := Gcd_yes P hP hP2 ao bo ca cb a b ha hb hca hcb w ra rb
  have cS2 := fun w' (hB : Below w.heap.size w w') => sound2 (P : Int) ao bo ca cb a b (by omega) (by omega) 0 0 (PC.of hP hP2 ha hca) (PC.of hP hP2 hb hcb) true (by simp [cd2]) w' (irow_below ra hB (Nat.le_refl _)) (irow_below rb hB (Nat.le_refl _))
  have hd0 : ((d.length : Int) == 0) = false := by have := pos_of_ne nd0; simp; omega
  have cS1 := fun w' (hB : Below w.heap.size w w') => sound1 (P : Int) do_ cd d md 0 (PC.of hP hP2 hd hcd) true (by simp) w' (irow_below rd hB (Nat.le_refl _))
  have cDA := fun w' (hB : Below w.heap.size w w') => divides_yes P hP hP2 ao do_ ca cd a d ha hd nd0 hca hcd false (by simp [t1]) w' (irow_below ra hB (Nat.le_refl _)) (irow_below rd hB (Nat.le_refl _))
  have cGA := fun (g : List Int) (o1 : Option Addr) (c1 : Nat) (hg : GcdIs P a b g) (hl : g.length ≤ 13) (ng : g ≠ []) w' (hB : Below w.heap.size w w') (rg : IRow w' o1 g) => divides_yes P hP hP2 ao o1 ca c1 a g ha hl ng hca hg.1 true (by simp [((hg.2.1 g).1 (Dv.self P g)).1]) w' (irow_below ra hB (Nat.le_refl _)) rg
  have cGB := fun (g : List Int) (o1 : Option Addr) (c1 : Nat) (hg : GcdIs P a b g) (hl : g.length ≤ 13) (ng : g ≠ []) w' (hB : Below w.heap.size w w') (rg : IRow w' o1 g) => divides_yes P hP hP2 bo o1 cb c1 b g hb hl ng hcb hg.1 true (by simp [((hg.2.1 g).1 (Dv.self P g)).2]) w' (irow_below rb hB (Nat.le_refl _)) rg
  have HG : Hid (∀ g, GcdIs P a b g → g ≠ []) := fun g hg e => hne ((hg.nil_iff hp1 hca hcb).1 e)
  obtain ⟨na, hna⟩ : ∃ na, na = a.length := ⟨_, rfl⟩
  obtain ⟨nb, hnb⟩ : ∃ nb, nb = b.length := ⟨_, rfl⟩
  obtain ⟨nd, hnd⟩ : ∃ nd, nd = d.length := ⟨_, rfl⟩
  have hab : na ≠ 0 ∨ nb ≠ 0 := by
    rcases Nat.eq_zero_or_pos na with h1 | h1
    · rcases Nat.eq_zero_or_pos nb with h2 | h2
      · exact absurd ⟨List.length_eq_zero_iff.1 (by omega), List.length_eq_zero_iff.1 (by omega)⟩ hne
      · exact .inr (by omega)
    · exact .inl (by omega)
  simp only [← hna, ← hnb, ← hnd] at *
  clear hna hnb hnd hne ra rb rd hca hcb
  have cGA' := hid cGA
  have cGB' := hid cGB
  clear cGA cGB
  rcases Nat.eq_zero_or_pos na with hz | hz
  · have hz1 : ((na : Int) == 0) = true := by simp; omega
    have hz2 : ((nb : Int) == 0) = false := by simp; omega
    clear hz hab
    go_enter Try.func5, Try.ntmps5
    go_wp2_with (first
      | (go_at_call 16; refine cG.mono ?_; rintro e w1 ⟨⟨g, hg, hgl, o1, c1, rfl, hc1, hr1⟩, hB1⟩; have HGI := hid hg; have H1 := hid hr1; obtain ⟨m, hm⟩ : ∃ m, g.length = m + 1 := ⟨g.length - 1, by have := pos_of_ne (HG.out g hg); omega⟩; have HM := hid hm; have hbA := al hB1 (.cells #[.slice ao na ca, .slice bo nb cb] 23); have ht1 := hg.2.2 (HG.out g hg); rw [show g.length - 1 = m by omega] at ht1; have cGA := cGA'.out g o1 c1 hg hgl (HG.out g hg); have cGB := cGB'.out g o1 c1 hg hgl (HG.out g hg); simp only [hm] at cGA cGB; rw [hm]; obtain ⟨ad, rfl⟩ : ∃ ad, o1 = some ad := (by
          cases o1 with
          | none => exact (irow_none H1.out (j := m) (by omega)).elim
          | some ad => exact ⟨ad, rfl⟩); have d1 := (irow_below H1.out ((Below.refl _ w1).alloc (Nat.le_refl _) (.cells #[.slice ao na ca, .slice bo nb cb] 23)) (Nat.le_refl _)).2 ad rfl m (by omega); rw [ht1] at d1; have HL := hid hgl; have hmm : (m : Int) < (m : Int) + 1 := (by omega); have hm13 : m ≤ 13 := (by omega); clear hg hr1 hm ht1 hgl)
      | (go_at_call 14; refine (cS2 _ hB1).mono ?_; rintro e w2 ⟨rfl, hw⟩; subst w2; clear cS2)
      | (go_at_call 17; refine (cGA _ hbA (irow_below H1.out ((Below.refl _ w1).alloc (Nat.le_refl _) _) (Nat.le_refl _))).mono ?_; rintro e w3 ⟨rfl, hB3⟩; clear cGA; have R3 := hid (irow_below H1.out (below_trans ((Below.refl _ w1).alloc (Nat.le_refl _) _) hB3) (Nat.le_refl _)); have hB3' := below_trans hbA hB3)
      | (go_at_call 17; refine (cGB _ hB3' R3.out).mono ?_; rintro e w4 ⟨rfl, hB4⟩; clear cGB; have R4 := hid (irow_below R3.out hB4 (Nat.le_refl _)); have hB4' := below_trans hB3' hB4)
      | (go_at_call 14; refine (cS1 _ hB4').mono ?_; rintro e w2 ⟨rfl, hw⟩; subst w2; have R5 := hid (irow_below R4.out ((Below.refl _ w4).alloc (Nat.le_refl _) (.cells #[.slice do_ nd cd] 23)) (Nat.le_refl _)); have hB5' := al hB4' (.cells #[.slice do_ nd cd] 23))
      | (go_at_call 17; refine (cDA _ hB5').mono ?_; rintro e w6 ⟨rfl, hB6⟩; clear cDA; have R6 := hid (irow_below R5.out hB6 (Nat.le_refl _)); have hB6' := below_trans hB5' hB6)
)
    go_ret
    exact ⟨rfl, hB6'⟩
  · have hz2 : ((na : Int) == 0) = false := by simp; omega
    clear hab
    go_enter Try.func5, Try.ntmps5
    go_wp2_with (first
      | (go_at_call 16; refine cG.mono ?_; rintro e w1 ⟨⟨g, hg, hgl, o1, c1, rfl, hc1, hr1⟩, hB1⟩; have HGI := hid hg; have H1 := hid hr1; obtain ⟨m, hm⟩ : ∃ m, g.length = m + 1 := ⟨g.length - 1, by have := pos_of_ne (HG.out g hg); omega⟩; have HM := hid hm; have hbA := al hB1 (.cells #[.slice ao na ca, .slice bo nb cb] 23); have ht1 := hg.2.2 (HG.out g hg); rw [show g.length - 1 = m by omega] at ht1; have cGA := cGA'.out g o1 c1 hg hgl (HG.out g hg); have cGB := cGB'.out g o1 c1 hg hgl (HG.out g hg); simp only [hm] at cGA cGB; rw [hm]; obtain ⟨ad, rfl⟩ : ∃ ad, o1 = some ad := (by
          cases o1 with
          | none => exact (irow_none H1.out (j := m) (by omega)).elim
          | some ad => exact ⟨ad, rfl⟩); have d1 := (irow_below H1.out ((Below.refl _ w1).alloc (Nat.le_refl _) (.cells #[.slice ao na ca, .slice bo nb cb] 23)) (Nat.le_refl _)).2 ad rfl m (by omega); rw [ht1] at d1; have HL := hid hgl; have hmm : (m : Int) < (m : Int) + 1 := (by omega); have hm13 : m ≤ 13 := (by omega); clear hg hr1 hm ht1 hgl)
      | (go_at_call 14; refine (cS2 _ hB1).mono ?_; rintro e w2 ⟨rfl, hw⟩; subst w2; clear cS2)
      | (go_at_call 17; refine (cGA _ hbA (irow_below H1.out ((Below.refl _ w1).alloc (Nat.le_refl _) _) (Nat.le_refl _))).mono ?_; rintro e w3 ⟨rfl, hB3⟩; clear cGA; have R3 := hid (irow_below H1.out (below_trans ((Below.refl _ w1).alloc (Nat.le_refl _) _) hB3) (Nat.le_refl _)); have hB3' := below_trans hbA hB3)
      | (go_at_call 17; refine (cGB _ hB3' R3.out).mono ?_; rintro e w4 ⟨rfl, hB4⟩; clear cGB; have R4 := hid (irow_below R3.out hB4 (Nat.le_refl _)); have hB4' := below_trans hB3' hB4)
      | (go_at_call 14; refine (cS1 _ hB4').mono ?_; rintro e w2 ⟨rfl, hw⟩; subst w2; have R5 := hid (irow_below R4.out ((Below.refl _ w4).alloc (Nat.le_refl _) (.cells #[.slice do_ nd cd] 23)) (Nat.le_refl _)); have hB5' := al hB4' (.cells #[.slice do_ nd cd] 23))
      | (go_at_call 17; refine (cDA _ hB5').mono ?_; rintro e w6 ⟨rfl, hB6⟩; clear cDA; have R6 := hid (irow_below R5.out hB6 (Nat.le_refl _)); have hB6' := below_trans hB5' hB6)
)
    go_ret
    exact ⟨rfl, hB6'⟩

set_option maxRecDepth 100000 in
set_option maxHeartbeats 1000000 in
theorem main_b (P : Nat) (hP : Pr P) (hP2 : P ≤ 251) (ao bo do_ : Option Addr) (ca cb cd : Nat) (a b d : List Int) (ha : a.length ≤ 13) (hb : b.length ≤ 13) (hca : Cn P a) (hcb : Cn P b) (md : d.length ≤ 9223372036854775807) (hne : ¬ (a = [] ∧ b = [])) (w : World) (ra : IRow w ao a) (rb : IRow w bo b) (rd : IRow w do_ d) (hd : d.length ≤ 13) (hcd : Cn P d) (nd0 : d ≠ []) (t1 : Dv P d a) (t2 : ¬ Dv P d b) :
    Calls Try.prog 5 #[.int .i64 (P : Int), .slice ao a.length ca, .slice bo b.length cb, .slice do_ d.length cd] w fun e w' => e = .returned (.bool true) ∧ Below w.heap.size w w' := by
  have hp1 : 1 ≤ P := by have := hP.1; omega
  have cG := Gcd_yes P hP hP2 ao bo ca cb a b ha hb hca hcb w ra rb
  have cS2 := fun w' (hB : Below w.heap.size w w') => sound2 (P : Int) ao bo ca cb a b (by omega) (by omega) 0 0 (PC.of hP hP2 ha hca) (PC.of hP hP2 hb hcb) true (by simp [cd2]) w' (irow_below ra hB (Nat.le_refl _)) (irow_below rb hB (Nat.le_refl _))
  have hd0 : ((d.length : Int) == 0) = false := by have := pos_of_ne nd0; simp; omega
  have cS1 := fun w' (hB : Below w.heap.size w w') => sound1 (P : Int) do_ cd d md 0 (PC.of hP hP2 hd hcd) true (by simp) w' (irow_below rd hB (Nat.le_refl _))
  have cDA := fun w' (hB : Below w.heap.size w w') => divides_yes P hP hP2 ao do_ ca cd a d ha hd nd0 hca hcd true (by simp [t1]) w' (irow_below ra hB (Nat.le_refl _)) (irow_below rd hB (Nat.le_refl _))
  have cDB := fun w' (hB : Below w.heap.size w w') => divides_yes P hP hP2 bo do_ cb cd b d hb hd nd0 hcb hcd false (by simp [t2]) w' (irow_below rb hB (Nat.le_refl _)) (irow_below rd hB (Nat.le_refl _))
  have cGA := fun (g : List Int) (o1 : Option Addr) (c1 : Nat) (hg : GcdIs P a b g) (hl : g.length ≤ 13) (ng : g ≠ []) w' (hB : Below w.heap.size w w') (rg : IRow w' o1 g) => divides_yes P hP hP2 ao o1 ca c1 a g ha hl ng hca hg.1 true (by simp [((hg.2.1 g).1 (Dv.self P g)).1]) w' (irow_below ra hB (Nat.le_refl _)) rg
  have cGB := fun (g : List Int) (o1 : Option Addr) (c1 : Nat) (hg : GcdIs P a b g) (hl : g.length ≤ 13) (ng : g ≠ []) w' (hB : Below w.heap.size w w') (rg : IRow w' o1 g) => divides_yes P hP hP2 bo o1 cb c1 b g hb hl ng hcb hg.1 true (by simp [((hg.2.1 g).1 (Dv.self P g)).2]) w' (irow_below rb hB (Nat.le_refl _)) rg
  have HG : Hid (∀ g, GcdIs P a b g → g ≠ []) := fun g hg e => hne ((hg.nil_iff hp1 hca hcb).1 e)
  obtain ⟨na, hna⟩ : ∃ na, na = a.length := ⟨_, rfl⟩
  obtain ⟨nb, hnb⟩ : ∃ nb, nb = b.length := ⟨_, rfl⟩
  obtain ⟨nd, hnd⟩ : ∃ nd, nd = d.length := ⟨_, rfl⟩
  have hab : na ≠ 0 ∨ nb ≠ 0 := by
    rcases Nat.eq_zero_or_pos na with h1 | h1
    · rcases Nat.eq_zero_or_pos nb with h2 | h2
      · exact absurd ⟨List.length_eq_zero_iff.1 (by omega), List.length_eq_zero_iff.1 (by omega)⟩ hne
      · exact .inr (by omega)
    · exact .inl (by omega)
  simp only [← hna, ← hnb, ← hnd] at *
  clear hna hnb hnd hne ra rb rd hca hcb
  have cGA' := hid cGA
  have cGB' := hid cGB
  clear cGA cGB
  rcases Nat.eq_zero_or_pos na with hz | hz
  · have hz1 : ((na : Int) == 0) = true := by simp; omega
    have hz2 : ((nb : Int) == 0) = false := by simp; omega
    clear hz hab
    go_enter Try.func5, Try.ntmps5
    go_wp2_with (first
      | (go_at_call 16; refine cG.mono ?_; rintro e w1 ⟨⟨g, hg, hgl, o1, c1, rfl, hc1, hr1⟩, hB1⟩; have HGI := hid hg; have H1 := hid hr1; obtain ⟨m, hm⟩ : ∃ m, g.length = m + 1 := ⟨g.length - 1, by have := pos_of_ne (HG.out g hg); omega⟩; have HM := hid hm; have hbA := al hB1 (.cells #[.slice ao na ca, .slice bo nb cb] 23); have ht1 := hg.2.2 (HG.out g hg); rw [show g.length - 1 = m by omega] at ht1; have cGA := cGA'.out g o1 c1 hg hgl (HG.out g hg); have cGB := cGB'.out g o1 c1 hg hgl (HG.out g hg); simp only [hm] at cGA cGB; rw [hm]; obtain ⟨ad, rfl⟩ : ∃ ad, o1 = some ad := (by
          cases o1 with
          | none => exact (irow_none H1.out (j := m) (by omega)).elim
          | some ad => exact ⟨ad, rfl⟩); have d1 := (irow_below H1.out ((Below.refl _ w1).alloc (Nat.le_refl _) (.cells #[.slice ao na ca, .slice bo nb cb] 23)) (Nat.le_refl _)).2 ad rfl m (by omega); rw [ht1] at d1; have HL := hid hgl; have hmm : (m : Int) < (m : Int) + 1 := (by omega); have hm13 : m ≤ 13 := (by omega); clear hg hr1 hm ht1 hgl)
      | (go_at_call 14; refine (cS2 _ hB1).mono ?_; rintro e w2 ⟨rfl, hw⟩; subst w2; clear cS2)
      | (go_at_call 17; refine (cGA _ hbA (irow_below H1.out ((Below.refl _ w1).alloc (Nat.le_refl _) _) (Nat.le_refl _))).mono ?_; rintro e w3 ⟨rfl, hB3⟩; clear cGA; have R3 := hid (irow_below H1.out (below_trans ((Below.refl _ w1).alloc (Nat.le_refl _) _) hB3) (Nat.le_refl _)); have hB3' := below_trans hbA hB3)
      | (go_at_call 17; refine (cGB _ hB3' R3.out).mono ?_; rintro e w4 ⟨rfl, hB4⟩; clear cGB; have R4 := hid (irow_below R3.out hB4 (Nat.le_refl _)); have hB4' := below_trans hB3' hB4)
      | (go_at_call 14; refine (cS1 _ hB4').mono ?_; rintro e w2 ⟨rfl, hw⟩; subst w2; have R5 := hid (irow_below R4.out ((Below.refl _ w4).alloc (Nat.le_refl _) (.cells #[.slice do_ nd cd] 23)) (Nat.le_refl _)); have hB5' := al hB4' (.cells #[.slice do_ nd cd] 23))
      | (go_at_call 17; refine (cDA _ hB5').mono ?_; rintro e w6 ⟨rfl, hB6⟩; clear cDA; have R6 := hid (irow_below R5.out hB6 (Nat.le_refl _)); have hB6' := below_trans hB5' hB6)
      | (go_at_call 17; refine (cDB _ hB6').mono ?_; rintro e w7 ⟨rfl, hB7⟩; clear cDB; have R7 := hid (irow_below R6.out hB7 (Nat.le_refl _)); have hB7' := below_trans hB6' hB7)
)
    go_ret
    exact ⟨rfl, hB7'⟩
  · have hz2 : ((na : Int) == 0) = false := by simp; omega
    clear hab
    go_enter Try.func5, Try.ntmps5
    go_wp2_with (first
      | (go_at_call 16; refine cG.mono ?_; rintro e w1 ⟨⟨g, hg, hgl, o1, c1, rfl, hc1, hr1⟩, hB1⟩; have HGI := hid hg; have H1 := hid hr1; obtain ⟨m, hm⟩ : ∃ m, g.length = m + 1 := ⟨g.length - 1, by have := pos_of_ne (HG.out g hg); omega⟩; have HM := hid hm; have hbA := al hB1 (.cells #[.slice ao na ca, .slice bo nb cb] 23); have ht1 := hg.2.2 (HG.out g hg); rw [show g.length - 1 = m by omega] at ht1; have cGA := cGA'.out g o1 c1 hg hgl (HG.out g hg); have cGB := cGB'.out g o1 c1 hg hgl (HG.out g hg); simp only [hm] at cGA cGB; rw [hm]; obtain ⟨ad, rfl⟩ : ∃ ad, o1 = some ad := (by
          cases o1 with
          | none => exact (irow_none H1.out (j := m) (by omega)).elim
          | some ad => exact ⟨ad, rfl⟩); have d1 := (irow_below H1.out ((Below.refl _ w1).alloc (Nat.le_refl _) (.cells #[.slice ao na ca, .slice bo nb cb] 23)) (Nat.le_refl _)).2 ad rfl m (by omega); rw [ht1] at d1; have HL := hid hgl; have hmm : (m : Int) < (m : Int) + 1 := (by omega); have hm13 : m ≤ 13 := (by omega); clear hg hr1 hm ht1 hgl)
      | (go_at_call 14; refine (cS2 _ hB1).mono ?_; rintro e w2 ⟨rfl, hw⟩; subst w2; clear cS2)
      | (go_at_call 17; refine (cGA _ hbA (irow_below H1.out ((Below.refl _ w1).alloc (Nat.le_refl _) _) (Nat.le_refl _))).mono ?_; rintro e w3 ⟨rfl, hB3⟩; clear cGA; have R3 := hid (irow_below H1.out (below_trans ((Below.refl _ w1).alloc (Nat.le_refl _) _) hB3) (Nat.le_refl _)); have hB3' := below_trans hbA hB3)
      | (go_at_call 17; refine (cGB _ hB3' R3.out).mono ?_; rintro e w4 ⟨rfl, hB4⟩; clear cGB; have R4 := hid (irow_below R3.out hB4 (Nat.le_refl _)); have hB4' := below_trans hB3' hB4)
      | (go_at_call 14; refine (cS1 _ hB4').mono ?_; rintro e w2 ⟨rfl, hw⟩; subst w2; have R5 := hid (irow_below R4.out ((Below.refl _ w4).alloc (Nat.le_refl _) (.cells #[.slice do_ nd cd] 23)) (Nat.le_refl _)); have hB5' := al hB4' (.cells #[.slice do_ nd cd] 23))
      | (go_at_call 17; refine (cDA _ hB5').mono ?_; rintro e w6 ⟨rfl, hB6⟩; clear cDA; have R6 := hid (irow_below R5.out hB6 (Nat.le_refl _)); have hB6' := below_trans hB5' hB6)
      | (go_at_call 17; refine (cDB _ hB6').mono ?_; rintro e w7 ⟨rfl, hB7⟩; clear cDB; have R7 := hid (irow_below R6.out hB7 (Nat.le_refl _)); have hB7' := below_trans hB6' hB7)
)
    go_ret
    exact ⟨rfl, hB7'⟩

set_option maxRecDepth 100000 in
set_option maxHeartbeats 1000000 in
theorem main_c (P : Nat) (hP : Pr P) (hP2 : P ≤ 251) (ao bo do_ : Option Addr) (ca cb cd : Nat) (a b d : List Int) (ha : a.length ≤ 13) (hb : b.length ≤ 13) (hca : Cn P a) (hcb : Cn P b) (md : d.length ≤ 9223372036854775807) (hne : ¬ (a = [] ∧ b = [])) (w : World) (ra : IRow w ao a) (rb : IRow w bo b) (rd : IRow w do_ d) (hd : d.length ≤ 13) (hcd : Cn P d) (nd0 : d ≠ []) (t1 : Dv P d a) (t2 : Dv P d b) :
    Calls Try.prog 5 #[.int .i64 (P : Int), .slice ao a.length ca, .slice bo b.length cb, .slice do_ d.length cd] w fun e w' => e = .returned (.bool true) ∧ Below w.heap.size w w' := by
  have hp1 : 1 ≤ P := by have := hP.1; omega
  have cG := Gcd_yes P hP hP2 ao bo ca cb a b ha hb hca hcb w ra rb
  have cS2 := fun w' (hB : Below w.heap.size w w') => sound2 (P : Int) ao bo ca cb a b (by omega) (by omega) 0 0 (PC.of hP hP2 ha hca) (PC.of hP hP2 hb hcb) true (by simp [cd2]) w' (irow_below ra hB (Nat.le_refl _)) (irow_below rb hB (Nat.le_refl _))
  have hd0 : ((d.length : Int) == 0) = false := by have := pos_of_ne nd0; simp; omega
  have cS1 := fun w' (hB : Below w.heap.size w w') => sound1 (P : Int) do_ cd d md 0 (PC.of hP hP2 hd hcd) true (by simp) w' (irow_below rd hB (Nat.le_refl _))
  have cDA := fun w' (hB : Below w.heap.size w w') => divides_yes P hP hP2 ao do_ ca cd a d ha hd nd0 hca hcd true (by simp [t1]) w' (irow_below ra hB (Nat.le_refl _)) (irow_below rd hB (Nat.le_refl _))
  have cDB := fun w' (hB : Below w.heap.size w w') => divides_yes P hP hP2 bo do_ cb cd b d hb hd nd0 hcb hcd true (by simp [t2]) w' (irow_below rb hB (Nat.le_refl _)) (irow_below rd hB (Nat.le_refl _))
  have cDG : ∀ (g : List Int) (o1 : Option Addr) (c1 : Nat), GcdIs P a b g → g.length ≤ 13 → ∀ m, g.length = m + 1 → ∀ w', Below w.heap.size w w' → IRow w' o1 g → Calls Try.prog 17 #[.int .i64 (P : Int), .slice do_ d.length cd, .slice o1 (m + 1) c1] w' fun e w'' => e = .returned (.bool true) ∧ Below w'.heap.size w' w'' := fun g o1 c1 hg hl m hm w' hB rg => by
    rw [← hm]
    exact divides_yes P hP hP2 o1 do_ c1 cd g d hl hd nd0 hg.1 hcd true (by simp [(hg.2.1 d).2 ⟨t1, t2⟩]) w' rg (irow_below rd hB (Nat.le_refl _))
  have cGA := fun (g : List Int) (o1 : Option Addr) (c1 : Nat) (hg : GcdIs P a b g) (hl : g.length ≤ 13) (ng : g ≠ []) w' (hB : Below w.heap.size w w') (rg : IRow w' o1 g) => divides_yes P hP hP2 ao o1 ca c1 a g ha hl ng hca hg.1 true (by simp [((hg.2.1 g).1 (Dv.self P g)).1]) w' (irow_below ra hB (Nat.le_refl _)) rg
  have cGB := fun (g : List Int) (o1 : Option Addr) (c1 : Nat) (hg : GcdIs P a b g) (hl : g.length ≤ 13) (ng : g ≠ []) w' (hB : Below w.heap.size w w') (rg : IRow w' o1 g) => divides_yes P hP hP2 bo o1 cb c1 b g hb hl ng hcb hg.1 true (by simp [((hg.2.1 g).1 (Dv.self P g)).2]) w' (irow_below rb hB (Nat.le_refl _)) rg
  have HG : Hid (∀ g, GcdIs P a b g → g ≠ []) := fun g hg e => hne ((hg.nil_iff hp1 hca hcb).1 e)
  obtain ⟨na, hna⟩ : ∃ na, na = a.length := ⟨_, rfl⟩
  obtain ⟨nb, hnb⟩ : ∃ nb, nb = b.length := ⟨_, rfl⟩
  obtain ⟨nd, hnd⟩ : ∃ nd, nd = d.length := ⟨_, rfl⟩
  have hab : na ≠ 0 ∨ nb ≠ 0 := by
    rcases Nat.eq_zero_or_pos na with h1 | h1
    · rcases Nat.eq_zero_or_pos nb with h2 | h2
      · exact absurd ⟨List.length_eq_zero_iff.1 (by omega), List.length_eq_zero_iff.1 (by omega)⟩ hne
      · exact .inr (by omega)
    · exact .inl (by omega)
  simp only [← hna, ← hnb, ← hnd] at *
  clear hna hnb hnd hne ra rb rd hca hcb
  have cGA' := hid cGA
  have cGB' := hid cGB
  clear cGA cGB
  rcases Nat.eq_zero_or_pos na with hz | hz
  · have hz1 : ((na : Int) == 0) = true := by simp; omega
    have hz2 : ((nb : Int) == 0) = false := by simp; omega
    clear hz hab
    go_enter Try.func5, Try.ntmps5
    go_wp2_with (first
      | (go_at_call 16; refine cG.mono ?_; rintro e w1 ⟨⟨g, hg, hgl, o1, c1, rfl, hc1, hr1⟩, hB1⟩; have HGI := hid hg; have H1 := hid hr1; obtain ⟨m, hm⟩ : ∃ m, g.length = m + 1 := ⟨g.length - 1, by have := pos_of_ne (HG.out g hg); omega⟩; have HM := hid hm; have hbA := al hB1 (.cells #[.slice ao na ca, .slice bo nb cb] 23); have ht1 := hg.2.2 (HG.out g hg); rw [show g.length - 1 = m by omega] at ht1; have cGA := cGA'.out g o1 c1 hg hgl (HG.out g hg); have cGB := cGB'.out g o1 c1 hg hgl (HG.out g hg); simp only [hm] at cGA cGB; rw [hm]; obtain ⟨ad, rfl⟩ : ∃ ad, o1 = some ad := (by
          cases o1 with
          | none => exact (irow_none H1.out (j := m) (by omega)).elim
          | some ad => exact ⟨ad, rfl⟩); have d1 := (irow_below H1.out ((Below.refl _ w1).alloc (Nat.le_refl _) (.cells #[.slice ao na ca, .slice bo nb cb] 23)) (Nat.le_refl _)).2 ad rfl m (by omega); rw [ht1] at d1; have HL := hid hgl; have hmm : (m : Int) < (m : Int) + 1 := (by omega); have hm13 : m ≤ 13 := (by omega); clear hg hr1 hm ht1 hgl)
      | (go_at_call 14; refine (cS2 _ hB1).mono ?_; rintro e w2 ⟨rfl, hw⟩; subst w2; clear cS2)
      | (go_at_call 17; refine (cGA _ hbA (irow_below H1.out ((Below.refl _ w1).alloc (Nat.le_refl _) _) (Nat.le_refl _))).mono ?_; rintro e w3 ⟨rfl, hB3⟩; clear cGA; have R3 := hid (irow_below H1.out (below_trans ((Below.refl _ w1).alloc (Nat.le_refl _) _) hB3) (Nat.le_refl _)); have hB3' := below_trans hbA hB3)
      | (go_at_call 17; refine (cGB _ hB3' R3.out).mono ?_; rintro e w4 ⟨rfl, hB4⟩; clear cGB; have R4 := hid (irow_below R3.out hB4 (Nat.le_refl _)); have hB4' := below_trans hB3' hB4)
      | (go_at_call 14; refine (cS1 _ hB4').mono ?_; rintro e w2 ⟨rfl, hw⟩; subst w2; have R5 := hid (irow_below R4.out ((Below.refl _ w4).alloc (Nat.le_refl _) (.cells #[.slice do_ nd cd] 23)) (Nat.le_refl _)); have hB5' := al hB4' (.cells #[.slice do_ nd cd] 23))
      | (go_at_call 17; refine (cDA _ hB5').mono ?_; rintro e w6 ⟨rfl, hB6⟩; clear cDA; have R6 := hid (irow_below R5.out hB6 (Nat.le_refl _)); have hB6' := below_trans hB5' hB6)
      | (go_at_call 17; refine (cDB _ hB6').mono ?_; rintro e w7 ⟨rfl, hB7⟩; clear cDB; have R7 := hid (irow_below R6.out hB7 (Nat.le_refl _)); have hB7' := below_trans hB6' hB7)
      | (go_at_call 17; refine (cDG g (some ad) c1 HGI.out HL.out m HM.out _ hB7' R7.out).mono ?_; rintro e w8 ⟨rfl, hB8⟩; have hB8' := below_trans hB7' hB8)
)
    go_ret
    exact ⟨rfl, hB8'⟩
  · have hz2 : ((na : Int) == 0) = false := by simp; omega
    clear hab
    go_enter Try.func5, Try.ntmps5
    go_wp2_with (first
      | (go_at_call 16; refine cG.mono ?_; rintro e w1 ⟨⟨g, hg, hgl, o1, c1, rfl, hc1, hr1⟩, hB1⟩; have HGI := hid hg; have H1 := hid hr1; obtain ⟨m, hm⟩ : ∃ m, g.length = m + 1 := ⟨g.length - 1, by have := pos_of_ne (HG.out g hg); omega⟩; have HM := hid hm; have hbA := al hB1 (.cells #[.slice ao na ca, .slice bo nb cb] 23); have ht1 := hg.2.2 (HG.out g hg); rw [show g.length - 1 = m by omega] at ht1; have cGA := cGA'.out g o1 c1 hg hgl (HG.out g hg); have cGB := cGB'.out g o1 c1 hg hgl (HG.out g hg); simp only [hm] at cGA cGB; rw [hm]; obtain ⟨ad, rfl⟩ : ∃ ad, o1 = some ad := (by
          cases o1 with
          | none => exact (irow_none H1.out (j := m) (by omega)).elim
          | some ad => exact ⟨ad, rfl⟩); have d1 := (irow_below H1.out ((Below.refl _ w1).alloc (Nat.le_refl _) (.cells #[.slice ao na ca, .slice bo nb cb] 23)) (Nat.le_refl _)).2 ad rfl m (by omega); rw [ht1] at d1; have HL := hid hgl; have hmm : (m : Int) < (m : Int) + 1 := (by omega); have hm13 : m ≤ 13 := (by omega); clear hg hr1 hm ht1 hgl)
      | (go_at_call 14; refine (cS2 _ hB1).mono ?_; rintro e w2 ⟨rfl, hw⟩; subst w2; clear cS2)
      | (go_at_call 17; refine (cGA _ hbA (irow_below H1.out ((Below.refl _ w1).alloc (Nat.le_refl _) _) (Nat.le_refl _))).mono ?_; rintro e w3 ⟨rfl, hB3⟩; clear cGA; have R3 := hid (irow_below H1.out (below_trans ((Below.refl _ w1).alloc (Nat.le_refl _) _) hB3) (Nat.le_refl _)); have hB3' := below_trans hbA hB3)
      | (go_at_call 17; refine (cGB _ hB3' R3.out).mono ?_; rintro e w4 ⟨rfl, hB4⟩; clear cGB; have R4 := hid (irow_below R3.out hB4 (Nat.le_refl _)); have hB4' := below_trans hB3' hB4)
      | (go_at_call 14; refine (cS1 _ hB4').mono ?_; rintro e w2 ⟨rfl, hw⟩; subst w2; have R5 := hid (irow_below R4.out ((Below.refl _ w4).alloc (Nat.le_refl _) (.cells #[.slice do_ nd cd] 23)) (Nat.le_refl _)); have hB5' := al hB4' (.cells #[.slice do_ nd cd] 23))
      | (go_at_call 17; refine (cDA _ hB5').mono ?_; rintro e w6 ⟨rfl, hB6⟩; clear cDA; have R6 := hid (irow_below R5.out hB6 (Nat.le_refl _)); have hB6' := below_trans hB5' hB6)
      | (go_at_call 17; refine (cDB _ hB6').mono ?_; rintro e w7 ⟨rfl, hB7⟩; clear cDB; have R7 := hid (irow_below R6.out hB7 (Nat.le_refl _)); have hB7' := below_trans hB6' hB7)
      | (go_at_call 17; refine (cDG g (some ad) c1 HGI.out HL.out m HM.out _ hB7' R7.out).mono ?_; rintro e w8 ⟨rfl, hB8⟩; have hB8' := below_trans hB7' hB8)
)
    go_ret
    exact ⟨rfl, hB8'⟩

theorem walk (p : Int) (ao : Option Addr) (ca : Nat) (a : List Int) (ka : a.length ≤ ca) (ma : a.length ≤ 9223372036854775807) (bo : Option Addr) (cb : Nat) (b : List Int) (kb : b.length ≤ cb) (mb : b.length ≤ 9223372036854775807) (do_ : Option Addr) (cd : Nat) (d : List Int) (kd : d.length ≤ cd) (md : d.length ≤ 9223372036854775807) (w : World) (ra : IRow w ao a) (rb : IRow w bo b) (rd : IRow w do_ d) :
    Calls Try.prog 5 #[.int .i64 p, .slice ao a.length ca, .slice bo b.length cb, .slice do_ d.length cd] w fun e w' => e = .returned (.bool true) ∧ Below w.heap.size w w' := by
  obtain ⟨c, hc⟩ := pc_ex p a
  obtain ⟨c2, hc2⟩ := pc_ex p b
  by_cases h0 : cd2 c c2 = 0
  · obtain ⟨P, rfl, hP, hP2, ha, hca, hb, hcb⟩ := both_ok hc hc2 h0
    rcases Classical.em (a = [] ∧ b = []) with he | hne
    · obtain ⟨rfl, rfl⟩ := he
      have cG := Gcd_yes P hP hP2 ao bo ca cb [] [] ha hb hca hcb w ra rb
      have cS2 := fun w' (hB : Below w.heap.size w w') => sound2 (P : Int) ao bo ca cb [] [] (by omega) (by omega) 0 0 (PC.of hP hP2 ha hca) (PC.of hP hP2 hb hcb) true (by simp [cd2]) w' (irow_below ra hB (Nat.le_refl _)) (irow_below rb hB (Nat.le_refl _))
      have HG : Hid (∀ g, GcdIs P [] [] g → g = []) := fun g hg => (hg.nil_iff (by have := hP.1; omega) hca hcb).2 ⟨rfl, rfl⟩
      rw [show ([] : List Int).length = 0 from rfl] at cG ⊢
      simp only [show ([] : List Int).length = 0 from rfl] at cS2
      generalize d.length = nd at *
      clear hc hc2 ra rb rd hca hcb h0
      go_enter Try.func5, Try.ntmps5
      go_wp2_with (first
        | (go_at_call 16; refine cG.mono ?_; rintro e w1 ⟨⟨g, hg, hgl, o1, c1, rfl, hc1, hr1⟩, hB1⟩; have hg0 := HG.out g hg; subst hg0; clear hg hr1)
        | (go_at_call 14; refine (cS2 _ hB1).mono ?_; rintro e w2 ⟨rfl, hw⟩; subst w2))
      go_ret
      exact ⟨rfl, al hB1 _⟩
    · obtain ⟨c3, hc3⟩ := pc_ex (P : Int) d
      by_cases h3 : c3 = 0
      · subst h3
        obtain ⟨P', e, _, _, hd, hcd⟩ := hc3.ok
        obtain rfl : P' = P := by omega
        rcases Classical.em (d = []) with nd0 | nd0
        · exact main_nil P' hP hP2 ao bo do_ ca cb cd a b d ha hb hca hcb md hne w ra rb rd nd0
        · rcases Classical.em (Dv P' d a) with t1 | t1
          · rcases Classical.em (Dv P' d b) with t2 | t2
            · exact main_c P' hP hP2 ao bo do_ ca cb cd a b d ha hb hca hcb md hne w ra rb rd hd hcd nd0 t1 t2
            · exact main_b P' hP hP2 ao bo do_ ca cb cd a b d ha hb hca hcb md hne w ra rb rd hd hcd nd0 t1 t2
          · exact main_a P' hP hP2 ao bo do_ ca cb cd a b d ha hb hca hcb md hne w ra rb rd hd hcd nd0 t1
      · exact main_bad P hP hP2 ao bo do_ ca cb cd a b d ha hb hca hcb md hne w ra rb rd c3 hc3 h3
  · have cG := Gcd_bad p ao bo ca cb a b ma mb c c2 hc hc2 h0 w ra rb
    have cS2 := fun w' (hB : Below w.heap.size w w') => sound2 p ao bo ca cb a b ma mb c c2 hc hc2 false (by simp [h0]) w' (irow_below ra hB (Nat.le_refl _)) (irow_below rb hB (Nat.le_refl _))
    generalize cd2 c c2 = x at *
    generalize a.length = na at *
    generalize b.length = nb at *
    generalize d.length = nd at *
    have h1 : (x != 0) = true := by simpa using h0
    have h2 : (x == 0) = false := by simpa using h0
    clear hc hc2 ra rb rd
    go_enter Try.func5, Try.ntmps5
    go_wp2_with (first
      | (go_at_call 16; refine cG.mono ?_; rintro e w1 ⟨rfl, hB1⟩)
      | (go_at_call 14; refine (cS2 _ hB1).mono ?_; rintro e w2 ⟨rfl, hw⟩; subst w2))
    go_ret
    exact ⟨rfl, al hB1 _⟩

set_option maxRecDepth 100000 in
theorem lifted (os : Os) (started : os.Started) (H : Type) (enc : TypeId × Value → H) :
    ReturnsInHanded {} Try.checked os 5 .any (Rows.polyGreatestSpec.pre6 enc Try.prog Try.f5 Rows.polyGreatestRow.domain false) (Rows.polyGreatestSpec.post enc Try.prog Try.f5 false true false false) := by
  refine returnsInHanded_of_change (C := Try.checked) own started (by kernel_rfl) Try.func5
    (ChangeSpec.witness6 (enc := enc) (C := Try.checked) false ⟨#[], #[.int .i64 0, .slice none 0 0, .slice none 0 0, .slice none 0 0], []⟩ 8 (by kernel_rfl) (by kernel_rfl) (by kernel_rfl) (by kernel_rfl)) ?_
  intro W base args ds gs before hval0 hW hcnd _
  have hval : ∀ (j : Nat) t v, Try.f5.params[j]? = some t → args[j]? = some v → Value.okWide Try.prog W .any base t v := hval0
  have hW' := hW
  obtain ⟨p, q, hA0, hV, rfl, _, _⟩ := hW
  have hA : DataW.TrodAll enc Try.prog W 0 (fun _ => true) true Try.f5.params.toList args.toList ds p := hA0
  rw [Try.params5] at hA hval
  obtain ⟨v0, v1, v2, v3, d0, d1, d2, d3, p0, p1, p2, p3, rfl, rfl, rfl, h0, h1, h2, h3⟩ := trodAll_four hA
  obtain ⟨rfl, rfl⟩ := trodVars_none hV
  obtain ⟨a0, rfl, rfl, rfl, w0⟩ := open_int Try.underlying2 (hval 0 2 v0 rfl rfl) h0
  have hsl1 := okWide_slice Try.underlying23 (hval 1 23 v1 rfl rfl)
  have hsl2 := okWide_slice Try.underlying23 (hval 2 23 v2 rfl rfl)
  have hsl3 := okWide_slice Try.underlying23 (hval 3 23 v3 rfl rfl)
  clear hA0 hval0
  simp only [List.append_nil, List.nil_append] at hW'
  have hlt1 : ∀ x ∈ p1, x.block < W.heap.size := fun x hx => by simpa using hW'.lt x (by simp [hx])
  have harg1 : ∀ (W' : World), Below W.heap.size W W' → DataW.Trod enc Try.prog W' 0 (fun b => decide (b < W.heap.size)) true 23 v1 d1 p1 :=
    fun W' hn => Below.trod laidOut (by kernel_rfl) (of_decide_eq_true (by kernel_rfl)) h1 hn hlt1
  obtain ⟨o1, c1, l1, rfl, r1, k1, m1⟩ := longs_view Try.underlying23 cells2 Try.underlying2 h1 hsl1
  have hlt2 : ∀ x ∈ p2, x.block < W.heap.size := fun x hx => by simpa using hW'.lt x (by simp [hx])
  have harg2 : ∀ (W' : World), Below W.heap.size W W' → DataW.Trod enc Try.prog W' 0 (fun b => decide (b < W.heap.size)) true 23 v2 d2 p2 :=
    fun W' hn => Below.trod laidOut (by kernel_rfl) (of_decide_eq_true (by kernel_rfl)) h2 hn hlt2
  obtain ⟨o2, c2, l2, rfl, r2, k2, m2⟩ := longs_view Try.underlying23 cells2 Try.underlying2 h2 hsl2
  have hlt3 : ∀ x ∈ p3, x.block < W.heap.size := fun x hx => by simpa using hW'.lt x (by simp [hx])
  have harg3 : ∀ (W' : World), Below W.heap.size W W' → DataW.Trod enc Try.prog W' 0 (fun b => decide (b < W.heap.size)) true 23 v3 d3 p3 :=
    fun W' hn => Below.trod laidOut (by kernel_rfl) (of_decide_eq_true (by kernel_rfl)) h3 hn hlt3
  obtain ⟨o3, c3, l3, rfl, r3, k3, m3⟩ := longs_view Try.underlying23 cells2 Try.underlying2 h3 hsl3
  refine (walk a0 o1 c1 l1 k1 m1 o2 c2 l2 k2 m2 o3 c3 l3 k3 m3 W r1 r2 r3).mono fun e W' ⟨he, hg⟩ => ?_
  subst he
  refine ⟨_, rfl, _, _, _, [], ([] : List MemPlace) ++ (p1 ++ (p2 ++ (p3))), [], hW', ?_, ?_, rfl, hg.frame _, fun h => by cases h⟩
  · exact trodAll_mk1 (shut_bool Try.underlying4 true)
  · exact trodAll_mk4 (shut_int Try.underlying2 w0) (harg1 _ hg) (harg2 _ hg) (harg3 _ hg)

theorem over : Rows.polyGreatestRow.holds Try.pinned (OpenSpec.ofChange Rows.polyGreatestSpec) :=
  OpenClaim.holds_of_wide 5 Try.f5 rfl rfl rfl rfl rfl rfl rfl ⟨rfl, rfl, rfl, rfl, rfl⟩ rfl rfl rfl rfl rfl (by kernel_rfl) Try.func5 (by kernel_rfl)
    (of_decide_eq_true (by kernel_rfl)) (by unfold Func.isWrapper; first | (rw [if_pos (by decide +kernel)]; kernel_rfl) | (rw [if_neg (by decide +kernel)]; exact ⟨rfl, rfl⟩))
    (fun os started H enc _ => lifted os started H enc)

/-- ████ THE STATEMENT ████ -/
theorem proved : Rows.PolyGreatestSaid :=
  over

end Go.Proofs.Ytiaabkadonimjab.polyGreatest
