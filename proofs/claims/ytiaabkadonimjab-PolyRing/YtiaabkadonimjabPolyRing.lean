/-
  For any three polynomials: sums and products don't hang on order and brackets; and a product with a sum is the sum of products: with no condition.
-/
import Derived.Test.YtiaabkadonimjabRows
import Derived.Test.YtiaabkadonimjabCalls61
import Derived.Test.YtiaabkadonimjabCalls68
import Derived.WalkKit
import Derived.ProofKit
import Derived.OpenShut
import Derived.Carry
namespace Go.Proofs.Ytiaabkadonimjab.polyRing
open Go.ChangeShapes Go.WideShapes Go.ChangeAt Go.RowKit Go.Deep Go.Proofs.Ytiaabkadonimjab.Base Go.Proofs.Ytiaabkadonimjab.Base2 Go.Proofs.Ytiaabkadonimjab.Num Go.Proofs.Ytiaabkadonimjab.Num7 Go.Proofs.Ytiaabkadonimjab.Num13 Go.Proofs.Ytiaabkadonimjab.Num16 Go.Proofs.Ytiaabkadonimjab.Num17 Go.Proofs.Ytiaabkadonimjab.Num34 Go.Proofs.Ytiaabkadonimjab.Num35 Go.Proofs.Ytiaabkadonimjab.Base4 Go.Proofs.Ytiaabkadonimjab.Calls56 Go.Proofs.Ytiaabkadonimjab.Calls57 Go.Proofs.Ytiaabkadonimjab.Calls58 Go.Proofs.Ytiaabkadonimjab.Calls59 Go.Proofs.Ytiaabkadonimjab.Calls61 Go.Proofs.Ytiaabkadonimjab.Calls62 Go.Proofs.Ytiaabkadonimjab.Calls68
set_option linter.unusedVariables false

theorem own : ownKnob Try.prog.godebug = none := by kernel_rfl

theorem laidOut : laidOutB Try.prog = true := by kernel_rfl

theorem cells2 : Try.prog.cellsOf 2 = 1 := by kernel_rfl

theorem al {w W : World} (h : Below w.heap.size w W) (o : Obj) : Below w.heap.size w (W.alloc o) := h.alloc h.size o

theorem ir {W : World} {ao : Option Addr} {l : List Int} (h : IRow W ao l) (o : Obj) : IRow (W.alloc o) ao l := irow_below h ((Below.refl _ W).alloc (Nat.le_refl _) _) (Nat.le_refl _)

theorem ib {W W' : World} {ao : Option Addr} {l : List Int} (h : IRow W ao l) (hB : Below W.heap.size W W') : IRow W' ao l := irow_below h hB (Nat.le_refl _)

theorem ring_assoc {p : Nat} (hp : 1 ≤ p) (a b c : List Int) : nm p (pmul a (nm p (pmul b c))) = nm p (pmul (nm p (pmul a b)) c) :=
  nm_eq hp (((Q.refl p a).pmul (nm_q hp _)).trans ((Eqv.q (pmul_assoc a b c)).symm.trans ((nm_q hp _).symm.pmul (Q.refl p c))))

theorem ring_distr {p : Nat} (hp : 1 ≤ p) (a b c : List Int) : nm p (padd (nm p (pmul a c)) (nm p (pmul b c))) = nm p (pmul (nm p (padd a b)) c) :=
  nm_eq hp (((nm_q hp _).padd (nm_q hp _)).trans ((Eqv.q (pmul_padd a b c)).symm.trans ((nm_q hp _).symm.pmul (Q.refl p c))))

set_option maxRecDepth 100000 in
set_option maxHeartbeats 2000000 in
theorem r_A_bad (P : Nat) (hP : Pr P) (hP2 : P ≤ 251) (ao bo co_ : Option Addr) (ca cb cc : Nat) (a b c : List Int) (ha : a.length ≤ 13) (hb : b.length ≤ 13) (hca : Cn P a) (hcb : Cn P b) (mc : c.length ≤ 9223372036854775807) (w : World) (ra : IRow w ao a) (rb : IRow w bo b) (rc : IRow w co_ c) (hz : a.length = 0) (cd : Int) (hc : PC (P : Int) c cd) (h0 : cd ≠ 0)  :
    Calls Try.prog 4 #[.int .i64 (P : Int), .slice ao a.length ca, .slice bo b.length cb, .slice co_ c.length cc] w fun e w' => e = .returned (.bool true) ∧ Below w.heap.size w w' := by
  have hp1 : 1 ≤ P := by have := hP.1; omega
  have cAB := fun w' (r1 : IRow w' ao a) (r2 : IRow w' bo b) => Mul_yes P hP hP2 ao bo ca cb a b ha hb hca hcb w' r1 r2
  have cBA := fun w' (r1 : IRow w' ao a) (r2 : IRow w' bo b) => Mul_yes P hP hP2 bo ao cb ca b a hb ha hcb hca w' r2 r1
  have cS := fun w' (r1 : IRow w' ao a) (r2 : IRow w' bo b) => Add_yes P hP hP2 ao bo ca cb a b ha hb hca hcb w' r1 r2
  have cZ := fun w' (r1 : IRow w' ao a) (r2 : IRow w' bo b) => Add_yes P hP hP2 bo ao cb ca b a hb ha hcb hca w' r2 r1
  have cSd2 := fun w' (r1 : IRow w' ao a) (r2 : IRow w' bo b) => sound2 (P : Int) ao bo ca cb a b (by omega) (by omega) 0 0 (PC.of hP hP2 ha hca) (PC.of hP hP2 hb hcb) true (by simp [cd2]) w' r1 r2
  rw [nm_eq hp1 (Eqv.q (pmul_comm b a))] at cBA
  rw [nm_eq hp1 (Eqv.q (padd_comm b a))] at cZ
  have lab := mul_nm_len hp1 a b
  have ls : (nm P (padd a b)).length ≤ 13 := by have := nm_length P (padd a b); rw [padd_length] at this; omega
  have cL1 := fun w' (o1 o2 : Option Addr) (c1 c2 : Nat) (h1 : IRow w' o1 (nm P (pmul a b))) (h2 : IRow w' o2 (nm P (pmul a b))) => Longs_same o1 o2 c1 c2 (nm P (pmul a b)) (by omega) w' h1 h2
  have cL2 := fun w' (o1 o2 : Option Addr) (c1 c2 : Nat) (h1 : IRow w' o1 (nm P (padd a b))) (h2 : IRow w' o2 (nm P (padd a b))) => Longs_same o1 o2 c1 c2 (nm P (padd a b)) (by omega) w' h1 h2
  have cSd1 := fun w' (r : IRow w' co_ c) => sound1 (P : Int) co_ cc c mc cd hc false (by simp [h0]) w' r
  have RA := hid ra
  have RB := hid rb
  have RC := hid rc
  have HB := hid (Below.refl w.heap.size w)
  clear hca hcb ra rb rc hc
  generalize nm P (pmul a b) = ab at *
  generalize nm P (padd a b) = s at *
  obtain ⟨nab, hnab⟩ : ∃ nab, nab = ab.length := ⟨_, rfl⟩
  obtain ⟨ns, hns⟩ : ∃ ns, ns = s.length := ⟨_, rfl⟩
  obtain ⟨na, hna⟩ : ∃ na, na = a.length := ⟨_, rfl⟩
  obtain ⟨nb, hnb⟩ : ∃ nb, nb = b.length := ⟨_, rfl⟩
  obtain ⟨nc, hnc⟩ : ∃ nc, nc = c.length := ⟨_, rfl⟩
  simp only [← hnab, ← hns, ← hna, ← hnb, ← hnc] at cAB cBA cS cZ cSd2 cSd1 cL1 cL2 lab ls ha hb mc hz ⊢
  have HNab := hid hnab
  have HNs := hid hns
  clear hnab hns hna hnb hnc
  have z1 : decide ((0 : Int) < (na : Int)) = false := by simp; omega
  have z1b : decide (0 < na) = false := by simp; omega
  have z1c : ¬ 0 < na := by omega
  clear hz
  go_enter Try.func4, Try.ntmps4
  go_wp2_with (first
    | (go_at_call 13; refine (cAB _ RA.out RB.out).mono ?_; rintro e w1 ⟨⟨o1, c1, rfl, hc1, hr1⟩, hB1⟩; replace RA := hid (ib RA.out hB1); replace RB := hid (ib RB.out hB1); replace RC := hid (ib RC.out hB1); replace HB := hid (below_trans HB.out hB1); have RAB := hid hr1; clear hr1 hB1 cAB; rw [← HNab.out])
    | (go_at_call 14; refine (cSd2 _ RA.out RB.out).mono ?_; rintro e ws ⟨rfl, hw⟩; subst ws; clear cSd2; replace RA := hid (ir RA.out (.cells #[.slice ao na ca, .slice bo nb cb] 23)); replace RB := hid (ir RB.out (.cells #[.slice ao na ca, .slice bo nb cb] 23)); replace RC := hid (ir RC.out (.cells #[.slice ao na ca, .slice bo nb cb] 23)); replace RAB := hid (ir RAB.out (.cells #[.slice ao na ca, .slice bo nb cb] 23)); replace HB := hid (al HB.out (.cells #[.slice ao na ca, .slice bo nb cb] 23)))
    | (go_at_call 13; refine (cBA _ RA.out RB.out).mono ?_; rintro e w2 ⟨⟨o2, c2, rfl, hc2, hr2⟩, hB2⟩; replace RA := hid (ib RA.out hB2); replace RB := hid (ib RB.out hB2); replace RC := hid (ib RC.out hB2); replace RAB := hid (ib RAB.out hB2); replace HB := hid (below_trans HB.out hB2); have RBA := hid hr2; clear hr2 hB2 cBA; rw [← HNab.out])
    | (go_at_call 15; refine (cS _ RA.out RB.out).mono ?_; rintro e w3 ⟨⟨o3, c3, rfl, hc3, hr3⟩, hB3⟩; replace RA := hid (ib RA.out hB3); replace RB := hid (ib RB.out hB3); replace RC := hid (ib RC.out hB3); replace RAB := hid (ib RAB.out hB3); replace RBA := hid (ib RBA.out hB3); replace HB := hid (below_trans HB.out hB3); have RS := hid hr3; clear hr3 hB3 cS; rw [← HNs.out])
    | (go_at_call 15; refine (cZ _ RA.out RB.out).mono ?_; rintro e w4 ⟨⟨o4, c4, rfl, hc4, hr4⟩, hB4⟩; replace RA := hid (ib RA.out hB4); replace RB := hid (ib RB.out hB4); replace RC := hid (ib RC.out hB4); replace RAB := hid (ib RAB.out hB4); replace RBA := hid (ib RBA.out hB4); replace RS := hid (ib RS.out hB4); replace HB := hid (below_trans HB.out hB4); have RZ := hid hr4; clear hr4 hB4 cZ; rw [← HNs.out])
    | (go_at_call 11; refine (cL1 _ _ _ _ _ RAB.out RBA.out).mono ?_; rintro e w5 ⟨rfl, hB5⟩; replace RA := hid (ib RA.out hB5); replace RB := hid (ib RB.out hB5); replace RC := hid (ib RC.out hB5); replace RAB := hid (ib RAB.out hB5); replace RS := hid (ib RS.out hB5); replace RZ := hid (ib RZ.out hB5); replace HB := hid (below_trans HB.out hB5); clear cL1 hB5)
    | (go_at_call 11; refine (cL2 _ _ _ _ _ RS.out RZ.out).mono ?_; rintro e w6 ⟨rfl, hB6⟩; replace RA := hid (ib RA.out hB6); replace RB := hid (ib RB.out hB6); replace RC := hid (ib RC.out hB6); replace RAB := hid (ib RAB.out hB6); replace RS := hid (ib RS.out hB6); replace HB := hid (below_trans HB.out hB6); clear cL2 hB6)
    | (go_at_call 14; refine (cSd1 _ RC.out).mono ?_; rintro e ws ⟨rfl, hw⟩; subst ws; clear cSd1; replace RA := hid (ir RA.out (.cells #[.slice co_ nc cc] 23)); replace RB := hid (ir RB.out (.cells #[.slice co_ nc cc] 23)); replace RC := hid (ir RC.out (.cells #[.slice co_ nc cc] 23)); replace RAB := hid (ir RAB.out (.cells #[.slice co_ nc cc] 23)); replace RS := hid (ir RS.out (.cells #[.slice co_ nc cc] 23)); replace HB := hid (al HB.out (.cells #[.slice co_ nc cc] 23))))
  go_ret
  exact ⟨rfl, HB.out⟩

set_option maxRecDepth 100000 in
set_option maxHeartbeats 2000000 in
theorem r_A_bc (P : Nat) (hP : Pr P) (hP2 : P ≤ 251) (ao bo co_ : Option Addr) (ca cb cc : Nat) (a b c : List Int) (ha : a.length ≤ 13) (hb : b.length ≤ 13) (hca : Cn P a) (hcb : Cn P b) (mc : c.length ≤ 9223372036854775807) (w : World) (ra : IRow w ao a) (rb : IRow w bo b) (rc : IRow w co_ c) (hz : a.length = 0) (hlc : c.length ≤ 13) (hcc : Cn P c) (k1 : (nm P (pmul a b)).length ≤ 13) (k2 : 13 < (nm P (pmul b c)).length) :
    Calls Try.prog 4 #[.int .i64 (P : Int), .slice ao a.length ca, .slice bo b.length cb, .slice co_ c.length cc] w fun e w' => e = .returned (.bool true) ∧ Below w.heap.size w w' := by
  have hp1 : 1 ≤ P := by have := hP.1; omega
  have cAB := fun w' (r1 : IRow w' ao a) (r2 : IRow w' bo b) => Mul_yes P hP hP2 ao bo ca cb a b ha hb hca hcb w' r1 r2
  have cBA := fun w' (r1 : IRow w' ao a) (r2 : IRow w' bo b) => Mul_yes P hP hP2 bo ao cb ca b a hb ha hcb hca w' r2 r1
  have cS := fun w' (r1 : IRow w' ao a) (r2 : IRow w' bo b) => Add_yes P hP hP2 ao bo ca cb a b ha hb hca hcb w' r1 r2
  have cZ := fun w' (r1 : IRow w' ao a) (r2 : IRow w' bo b) => Add_yes P hP hP2 bo ao cb ca b a hb ha hcb hca w' r2 r1
  have cSd2 := fun w' (r1 : IRow w' ao a) (r2 : IRow w' bo b) => sound2 (P : Int) ao bo ca cb a b (by omega) (by omega) 0 0 (PC.of hP hP2 ha hca) (PC.of hP hP2 hb hcb) true (by simp [cd2]) w' r1 r2
  rw [nm_eq hp1 (Eqv.q (pmul_comm b a))] at cBA
  rw [nm_eq hp1 (Eqv.q (padd_comm b a))] at cZ
  have lab := mul_nm_len hp1 a b
  have ls : (nm P (padd a b)).length ≤ 13 := by have := nm_length P (padd a b); rw [padd_length] at this; omega
  have cL1 := fun w' (o1 o2 : Option Addr) (c1 c2 : Nat) (h1 : IRow w' o1 (nm P (pmul a b))) (h2 : IRow w' o2 (nm P (pmul a b))) => Longs_same o1 o2 c1 c2 (nm P (pmul a b)) (by omega) w' h1 h2
  have cL2 := fun w' (o1 o2 : Option Addr) (c1 c2 : Nat) (h1 : IRow w' o1 (nm P (padd a b))) (h2 : IRow w' o2 (nm P (padd a b))) => Longs_same o1 o2 c1 c2 (nm P (padd a b)) (by omega) w' h1 h2
  have cSd1 := fun w' (r : IRow w' co_ c) => sound1 (P : Int) co_ cc c mc 0 (PC.of hP hP2 hlc hcc) true (by simp) w' r
  have cBC := fun w' (r1 : IRow w' bo b) (r2 : IRow w' co_ c) => Mul_yes P hP hP2 bo co_ cb cc b c hb hlc hcb hcc w' r1 r2
  have cAC := fun w' (r1 : IRow w' ao a) (r2 : IRow w' co_ c) => Mul_yes P hP hP2 ao co_ ca cc a c ha hlc hca hcc w' r1 r2
  have RA := hid ra
  have RB := hid rb
  have RC := hid rc
  have HB := hid (Below.refl w.heap.size w)
  clear hca hcb ra rb rc hcc
  generalize nm P (pmul a b) = ab at *
  generalize nm P (padd a b) = s at *
  generalize nm P (pmul b c) = bc at *
  generalize nm P (pmul a c) = ac at *
  obtain ⟨nab, hnab⟩ : ∃ nab, nab = ab.length := ⟨_, rfl⟩
  obtain ⟨ns, hns⟩ : ∃ ns, ns = s.length := ⟨_, rfl⟩
  obtain ⟨nbc, hnbc⟩ : ∃ nbc, nbc = bc.length := ⟨_, rfl⟩
  obtain ⟨nac, hnac⟩ : ∃ nac, nac = ac.length := ⟨_, rfl⟩
  obtain ⟨na, hna⟩ : ∃ na, na = a.length := ⟨_, rfl⟩
  obtain ⟨nb, hnb⟩ : ∃ nb, nb = b.length := ⟨_, rfl⟩
  obtain ⟨nc, hnc⟩ : ∃ nc, nc = c.length := ⟨_, rfl⟩
  simp only [← hnab, ← hns, ← hnbc, ← hna, ← hnb, ← hnc] at cAB cBA cS cZ cSd2 cSd1 cL1 cL2 lab ls ha hb mc hz hlc k1 cBC cAC k2 ⊢
  have HNab := hid hnab
  have HNs := hid hns
  have HNbc := hid hnbc
  have HNac := hid hnac
  clear hnab hns hnbc hnac hna hnb hnc
  have z1 : decide ((0 : Int) < (na : Int)) = false := by simp; omega
  have z1b : decide (0 < na) = false := by simp; omega
  have z1c : ¬ 0 < na := by omega
  clear hz
  have k1' : decide ((13 : Int) < (nab : Int)) = false := by simp; omega
  have k2' : (13 : Int) < (nbc : Int) := by omega
  go_enter Try.func4, Try.ntmps4
  go_wp2_with (first
    | (go_at_call 13; refine (cAB _ RA.out RB.out).mono ?_; rintro e w1 ⟨⟨o1, c1, rfl, hc1, hr1⟩, hB1⟩; replace RA := hid (ib RA.out hB1); replace RB := hid (ib RB.out hB1); replace RC := hid (ib RC.out hB1); replace HB := hid (below_trans HB.out hB1); have RAB := hid hr1; clear hr1 hB1 cAB; rw [← HNab.out])
    | (go_at_call 14; refine (cSd2 _ RA.out RB.out).mono ?_; rintro e ws ⟨rfl, hw⟩; subst ws; clear cSd2; replace RA := hid (ir RA.out (.cells #[.slice ao na ca, .slice bo nb cb] 23)); replace RB := hid (ir RB.out (.cells #[.slice ao na ca, .slice bo nb cb] 23)); replace RC := hid (ir RC.out (.cells #[.slice ao na ca, .slice bo nb cb] 23)); replace RAB := hid (ir RAB.out (.cells #[.slice ao na ca, .slice bo nb cb] 23)); replace HB := hid (al HB.out (.cells #[.slice ao na ca, .slice bo nb cb] 23)))
    | (go_at_call 13; refine (cBA _ RA.out RB.out).mono ?_; rintro e w2 ⟨⟨o2, c2, rfl, hc2, hr2⟩, hB2⟩; replace RA := hid (ib RA.out hB2); replace RB := hid (ib RB.out hB2); replace RC := hid (ib RC.out hB2); replace RAB := hid (ib RAB.out hB2); replace HB := hid (below_trans HB.out hB2); have RBA := hid hr2; clear hr2 hB2 cBA; rw [← HNab.out])
    | (go_at_call 15; refine (cS _ RA.out RB.out).mono ?_; rintro e w3 ⟨⟨o3, c3, rfl, hc3, hr3⟩, hB3⟩; replace RA := hid (ib RA.out hB3); replace RB := hid (ib RB.out hB3); replace RC := hid (ib RC.out hB3); replace RAB := hid (ib RAB.out hB3); replace RBA := hid (ib RBA.out hB3); replace HB := hid (below_trans HB.out hB3); have RS := hid hr3; clear hr3 hB3 cS; rw [← HNs.out])
    | (go_at_call 15; refine (cZ _ RA.out RB.out).mono ?_; rintro e w4 ⟨⟨o4, c4, rfl, hc4, hr4⟩, hB4⟩; replace RA := hid (ib RA.out hB4); replace RB := hid (ib RB.out hB4); replace RC := hid (ib RC.out hB4); replace RAB := hid (ib RAB.out hB4); replace RBA := hid (ib RBA.out hB4); replace RS := hid (ib RS.out hB4); replace HB := hid (below_trans HB.out hB4); have RZ := hid hr4; clear hr4 hB4 cZ; rw [← HNs.out])
    | (go_at_call 11; refine (cL1 _ _ _ _ _ RAB.out RBA.out).mono ?_; rintro e w5 ⟨rfl, hB5⟩; replace RA := hid (ib RA.out hB5); replace RB := hid (ib RB.out hB5); replace RC := hid (ib RC.out hB5); replace RAB := hid (ib RAB.out hB5); replace RS := hid (ib RS.out hB5); replace RZ := hid (ib RZ.out hB5); replace HB := hid (below_trans HB.out hB5); clear cL1 hB5)
    | (go_at_call 11; refine (cL2 _ _ _ _ _ RS.out RZ.out).mono ?_; rintro e w6 ⟨rfl, hB6⟩; replace RA := hid (ib RA.out hB6); replace RB := hid (ib RB.out hB6); replace RC := hid (ib RC.out hB6); replace RAB := hid (ib RAB.out hB6); replace RS := hid (ib RS.out hB6); replace HB := hid (below_trans HB.out hB6); clear cL2 hB6)
    | (go_at_call 14; refine (cSd1 _ RC.out).mono ?_; rintro e ws ⟨rfl, hw⟩; subst ws; clear cSd1; replace RA := hid (ir RA.out (.cells #[.slice co_ nc cc] 23)); replace RB := hid (ir RB.out (.cells #[.slice co_ nc cc] 23)); replace RC := hid (ir RC.out (.cells #[.slice co_ nc cc] 23)); replace RAB := hid (ir RAB.out (.cells #[.slice co_ nc cc] 23)); replace RS := hid (ir RS.out (.cells #[.slice co_ nc cc] 23)); replace HB := hid (al HB.out (.cells #[.slice co_ nc cc] 23)))
    | (go_at_call 13; refine (cBC _ RB.out RC.out).mono ?_; rintro e w7 ⟨⟨o7, c7, rfl, hc7, hr7⟩, hB7⟩; replace RA := hid (ib RA.out hB7); replace RB := hid (ib RB.out hB7); replace RC := hid (ib RC.out hB7); replace RAB := hid (ib RAB.out hB7); replace RS := hid (ib RS.out hB7); replace HB := hid (below_trans HB.out hB7); have RBC := hid hr7; clear hr7 hB7 cBC; rw [← HNbc.out])
    | (go_at_call 13; refine (cAC _ RA.out RC.out).mono ?_; rintro e w8 ⟨⟨o8, c8, rfl, hc8, hr8⟩, hB8⟩; replace RA := hid (ib RA.out hB8); replace RB := hid (ib RB.out hB8); replace RC := hid (ib RC.out hB8); replace RAB := hid (ib RAB.out hB8); replace RS := hid (ib RS.out hB8); replace RBC := hid (ib RBC.out hB8); replace HB := hid (below_trans HB.out hB8); have RAC := hid hr8; clear hr8 hB8 cAC; rw [← HNac.out]))
  go_ret
  exact ⟨rfl, HB.out⟩

set_option maxRecDepth 100000 in
set_option maxHeartbeats 2000000 in
theorem r_A_ac (P : Nat) (hP : Pr P) (hP2 : P ≤ 251) (ao bo co_ : Option Addr) (ca cb cc : Nat) (a b c : List Int) (ha : a.length ≤ 13) (hb : b.length ≤ 13) (hca : Cn P a) (hcb : Cn P b) (mc : c.length ≤ 9223372036854775807) (w : World) (ra : IRow w ao a) (rb : IRow w bo b) (rc : IRow w co_ c) (hz : a.length = 0) (hlc : c.length ≤ 13) (hcc : Cn P c) (k1 : (nm P (pmul a b)).length ≤ 13) (k2 : (nm P (pmul b c)).length ≤ 13) (k3 : 13 < (nm P (pmul a c)).length) :
    Calls Try.prog 4 #[.int .i64 (P : Int), .slice ao a.length ca, .slice bo b.length cb, .slice co_ c.length cc] w fun e w' => e = .returned (.bool true) ∧ Below w.heap.size w w' := by
  have hp1 : 1 ≤ P := by have := hP.1; omega
  have cAB := fun w' (r1 : IRow w' ao a) (r2 : IRow w' bo b) => Mul_yes P hP hP2 ao bo ca cb a b ha hb hca hcb w' r1 r2
  have cBA := fun w' (r1 : IRow w' ao a) (r2 : IRow w' bo b) => Mul_yes P hP hP2 bo ao cb ca b a hb ha hcb hca w' r2 r1
  have cS := fun w' (r1 : IRow w' ao a) (r2 : IRow w' bo b) => Add_yes P hP hP2 ao bo ca cb a b ha hb hca hcb w' r1 r2
  have cZ := fun w' (r1 : IRow w' ao a) (r2 : IRow w' bo b) => Add_yes P hP hP2 bo ao cb ca b a hb ha hcb hca w' r2 r1
  have cSd2 := fun w' (r1 : IRow w' ao a) (r2 : IRow w' bo b) => sound2 (P : Int) ao bo ca cb a b (by omega) (by omega) 0 0 (PC.of hP hP2 ha hca) (PC.of hP hP2 hb hcb) true (by simp [cd2]) w' r1 r2
  rw [nm_eq hp1 (Eqv.q (pmul_comm b a))] at cBA
  rw [nm_eq hp1 (Eqv.q (padd_comm b a))] at cZ
  have lab := mul_nm_len hp1 a b
  have ls : (nm P (padd a b)).length ≤ 13 := by have := nm_length P (padd a b); rw [padd_length] at this; omega
  have cL1 := fun w' (o1 o2 : Option Addr) (c1 c2 : Nat) (h1 : IRow w' o1 (nm P (pmul a b))) (h2 : IRow w' o2 (nm P (pmul a b))) => Longs_same o1 o2 c1 c2 (nm P (pmul a b)) (by omega) w' h1 h2
  have cL2 := fun w' (o1 o2 : Option Addr) (c1 c2 : Nat) (h1 : IRow w' o1 (nm P (padd a b))) (h2 : IRow w' o2 (nm P (padd a b))) => Longs_same o1 o2 c1 c2 (nm P (padd a b)) (by omega) w' h1 h2
  have cSd1 := fun w' (r : IRow w' co_ c) => sound1 (P : Int) co_ cc c mc 0 (PC.of hP hP2 hlc hcc) true (by simp) w' r
  have cBC := fun w' (r1 : IRow w' bo b) (r2 : IRow w' co_ c) => Mul_yes P hP hP2 bo co_ cb cc b c hb hlc hcb hcc w' r1 r2
  have cAC := fun w' (r1 : IRow w' ao a) (r2 : IRow w' co_ c) => Mul_yes P hP hP2 ao co_ ca cc a c ha hlc hca hcc w' r1 r2
  have RA := hid ra
  have RB := hid rb
  have RC := hid rc
  have HB := hid (Below.refl w.heap.size w)
  clear hca hcb ra rb rc hcc
  generalize nm P (pmul a b) = ab at *
  generalize nm P (padd a b) = s at *
  generalize nm P (pmul b c) = bc at *
  generalize nm P (pmul a c) = ac at *
  obtain ⟨nab, hnab⟩ : ∃ nab, nab = ab.length := ⟨_, rfl⟩
  obtain ⟨ns, hns⟩ : ∃ ns, ns = s.length := ⟨_, rfl⟩
  obtain ⟨nbc, hnbc⟩ : ∃ nbc, nbc = bc.length := ⟨_, rfl⟩
  obtain ⟨nac, hnac⟩ : ∃ nac, nac = ac.length := ⟨_, rfl⟩
  obtain ⟨na, hna⟩ : ∃ na, na = a.length := ⟨_, rfl⟩
  obtain ⟨nb, hnb⟩ : ∃ nb, nb = b.length := ⟨_, rfl⟩
  obtain ⟨nc, hnc⟩ : ∃ nc, nc = c.length := ⟨_, rfl⟩
  simp only [← hnab, ← hns, ← hnbc, ← hnac, ← hna, ← hnb, ← hnc] at cAB cBA cS cZ cSd2 cSd1 cL1 cL2 lab ls ha hb mc hz hlc k1 cBC cAC k2 k3 ⊢
  have HNab := hid hnab
  have HNs := hid hns
  have HNbc := hid hnbc
  have HNac := hid hnac
  clear hnab hns hnbc hnac hna hnb hnc
  have z1 : decide ((0 : Int) < (na : Int)) = false := by simp; omega
  have z1b : decide (0 < na) = false := by simp; omega
  have z1c : ¬ 0 < na := by omega
  clear hz
  have k1' : decide ((13 : Int) < (nab : Int)) = false := by simp; omega
  have k2' : decide ((13 : Int) < (nbc : Int)) = false := by simp; omega
  have k3' : (13 : Int) < (nac : Int) := by omega
  go_enter Try.func4, Try.ntmps4
  go_wp2_with (first
    | (go_at_call 13; refine (cAB _ RA.out RB.out).mono ?_; rintro e w1 ⟨⟨o1, c1, rfl, hc1, hr1⟩, hB1⟩; replace RA := hid (ib RA.out hB1); replace RB := hid (ib RB.out hB1); replace RC := hid (ib RC.out hB1); replace HB := hid (below_trans HB.out hB1); have RAB := hid hr1; clear hr1 hB1 cAB; rw [← HNab.out])
    | (go_at_call 14; refine (cSd2 _ RA.out RB.out).mono ?_; rintro e ws ⟨rfl, hw⟩; subst ws; clear cSd2; replace RA := hid (ir RA.out (.cells #[.slice ao na ca, .slice bo nb cb] 23)); replace RB := hid (ir RB.out (.cells #[.slice ao na ca, .slice bo nb cb] 23)); replace RC := hid (ir RC.out (.cells #[.slice ao na ca, .slice bo nb cb] 23)); replace RAB := hid (ir RAB.out (.cells #[.slice ao na ca, .slice bo nb cb] 23)); replace HB := hid (al HB.out (.cells #[.slice ao na ca, .slice bo nb cb] 23)))
    | (go_at_call 13; refine (cBA _ RA.out RB.out).mono ?_; rintro e w2 ⟨⟨o2, c2, rfl, hc2, hr2⟩, hB2⟩; replace RA := hid (ib RA.out hB2); replace RB := hid (ib RB.out hB2); replace RC := hid (ib RC.out hB2); replace RAB := hid (ib RAB.out hB2); replace HB := hid (below_trans HB.out hB2); have RBA := hid hr2; clear hr2 hB2 cBA; rw [← HNab.out])
    | (go_at_call 15; refine (cS _ RA.out RB.out).mono ?_; rintro e w3 ⟨⟨o3, c3, rfl, hc3, hr3⟩, hB3⟩; replace RA := hid (ib RA.out hB3); replace RB := hid (ib RB.out hB3); replace RC := hid (ib RC.out hB3); replace RAB := hid (ib RAB.out hB3); replace RBA := hid (ib RBA.out hB3); replace HB := hid (below_trans HB.out hB3); have RS := hid hr3; clear hr3 hB3 cS; rw [← HNs.out])
    | (go_at_call 15; refine (cZ _ RA.out RB.out).mono ?_; rintro e w4 ⟨⟨o4, c4, rfl, hc4, hr4⟩, hB4⟩; replace RA := hid (ib RA.out hB4); replace RB := hid (ib RB.out hB4); replace RC := hid (ib RC.out hB4); replace RAB := hid (ib RAB.out hB4); replace RBA := hid (ib RBA.out hB4); replace RS := hid (ib RS.out hB4); replace HB := hid (below_trans HB.out hB4); have RZ := hid hr4; clear hr4 hB4 cZ; rw [← HNs.out])
    | (go_at_call 11; refine (cL1 _ _ _ _ _ RAB.out RBA.out).mono ?_; rintro e w5 ⟨rfl, hB5⟩; replace RA := hid (ib RA.out hB5); replace RB := hid (ib RB.out hB5); replace RC := hid (ib RC.out hB5); replace RAB := hid (ib RAB.out hB5); replace RS := hid (ib RS.out hB5); replace RZ := hid (ib RZ.out hB5); replace HB := hid (below_trans HB.out hB5); clear cL1 hB5)
    | (go_at_call 11; refine (cL2 _ _ _ _ _ RS.out RZ.out).mono ?_; rintro e w6 ⟨rfl, hB6⟩; replace RA := hid (ib RA.out hB6); replace RB := hid (ib RB.out hB6); replace RC := hid (ib RC.out hB6); replace RAB := hid (ib RAB.out hB6); replace RS := hid (ib RS.out hB6); replace HB := hid (below_trans HB.out hB6); clear cL2 hB6)
    | (go_at_call 14; refine (cSd1 _ RC.out).mono ?_; rintro e ws ⟨rfl, hw⟩; subst ws; clear cSd1; replace RA := hid (ir RA.out (.cells #[.slice co_ nc cc] 23)); replace RB := hid (ir RB.out (.cells #[.slice co_ nc cc] 23)); replace RC := hid (ir RC.out (.cells #[.slice co_ nc cc] 23)); replace RAB := hid (ir RAB.out (.cells #[.slice co_ nc cc] 23)); replace RS := hid (ir RS.out (.cells #[.slice co_ nc cc] 23)); replace HB := hid (al HB.out (.cells #[.slice co_ nc cc] 23)))
    | (go_at_call 13; refine (cBC _ RB.out RC.out).mono ?_; rintro e w7 ⟨⟨o7, c7, rfl, hc7, hr7⟩, hB7⟩; replace RA := hid (ib RA.out hB7); replace RB := hid (ib RB.out hB7); replace RC := hid (ib RC.out hB7); replace RAB := hid (ib RAB.out hB7); replace RS := hid (ib RS.out hB7); replace HB := hid (below_trans HB.out hB7); have RBC := hid hr7; clear hr7 hB7 cBC; rw [← HNbc.out])
    | (go_at_call 13; refine (cAC _ RA.out RC.out).mono ?_; rintro e w8 ⟨⟨o8, c8, rfl, hc8, hr8⟩, hB8⟩; replace RA := hid (ib RA.out hB8); replace RB := hid (ib RB.out hB8); replace RC := hid (ib RC.out hB8); replace RAB := hid (ib RAB.out hB8); replace RS := hid (ib RS.out hB8); replace RBC := hid (ib RBC.out hB8); replace HB := hid (below_trans HB.out hB8); have RAC := hid hr8; clear hr8 hB8 cAC; rw [← HNac.out]))
  go_ret
  exact ⟨rfl, HB.out⟩

set_option maxRecDepth 100000 in
set_option maxHeartbeats 2000000 in
theorem r_A_end (P : Nat) (hP : Pr P) (hP2 : P ≤ 251) (ao bo co_ : Option Addr) (ca cb cc : Nat) (a b c : List Int) (ha : a.length ≤ 13) (hb : b.length ≤ 13) (hca : Cn P a) (hcb : Cn P b) (mc : c.length ≤ 9223372036854775807) (w : World) (ra : IRow w ao a) (rb : IRow w bo b) (rc : IRow w co_ c) (hz : a.length = 0) (hlc : c.length ≤ 13) (hcc : Cn P c) (k1 : (nm P (pmul a b)).length ≤ 13) (k2 : (nm P (pmul b c)).length ≤ 13) (k3 : (nm P (pmul a c)).length ≤ 13) :
    Calls Try.prog 4 #[.int .i64 (P : Int), .slice ao a.length ca, .slice bo b.length cb, .slice co_ c.length cc] w fun e w' => e = .returned (.bool true) ∧ Below w.heap.size w w' := by
  have hp1 : 1 ≤ P := by have := hP.1; omega
  have cAB := fun w' (r1 : IRow w' ao a) (r2 : IRow w' bo b) => Mul_yes P hP hP2 ao bo ca cb a b ha hb hca hcb w' r1 r2
  have cBA := fun w' (r1 : IRow w' ao a) (r2 : IRow w' bo b) => Mul_yes P hP hP2 bo ao cb ca b a hb ha hcb hca w' r2 r1
  have cS := fun w' (r1 : IRow w' ao a) (r2 : IRow w' bo b) => Add_yes P hP hP2 ao bo ca cb a b ha hb hca hcb w' r1 r2
  have cZ := fun w' (r1 : IRow w' ao a) (r2 : IRow w' bo b) => Add_yes P hP hP2 bo ao cb ca b a hb ha hcb hca w' r2 r1
  have cSd2 := fun w' (r1 : IRow w' ao a) (r2 : IRow w' bo b) => sound2 (P : Int) ao bo ca cb a b (by omega) (by omega) 0 0 (PC.of hP hP2 ha hca) (PC.of hP hP2 hb hcb) true (by simp [cd2]) w' r1 r2
  rw [nm_eq hp1 (Eqv.q (pmul_comm b a))] at cBA
  rw [nm_eq hp1 (Eqv.q (padd_comm b a))] at cZ
  have lab := mul_nm_len hp1 a b
  have ls : (nm P (padd a b)).length ≤ 13 := by have := nm_length P (padd a b); rw [padd_length] at this; omega
  have cL1 := fun w' (o1 o2 : Option Addr) (c1 c2 : Nat) (h1 : IRow w' o1 (nm P (pmul a b))) (h2 : IRow w' o2 (nm P (pmul a b))) => Longs_same o1 o2 c1 c2 (nm P (pmul a b)) (by omega) w' h1 h2
  have cL2 := fun w' (o1 o2 : Option Addr) (c1 c2 : Nat) (h1 : IRow w' o1 (nm P (padd a b))) (h2 : IRow w' o2 (nm P (padd a b))) => Longs_same o1 o2 c1 c2 (nm P (padd a b)) (by omega) w' h1 h2
  have cSd1 := fun w' (r : IRow w' co_ c) => sound1 (P : Int) co_ cc c mc 0 (PC.of hP hP2 hlc hcc) true (by simp) w' r
  have cBC := fun w' (r1 : IRow w' bo b) (r2 : IRow w' co_ c) => Mul_yes P hP hP2 bo co_ cb cc b c hb hlc hcb hcc w' r1 r2
  have cAC := fun w' (r1 : IRow w' ao a) (r2 : IRow w' co_ c) => Mul_yes P hP hP2 ao co_ ca cc a c ha hlc hca hcc w' r1 r2
  have cX := fun w' (o1 : Option Addr) (c1 : Nat) (r1 : IRow w' o1 (nm P (pmul a b))) (r2 : IRow w' co_ c) => Mul_yes P hP hP2 o1 co_ c1 cc (nm P (pmul a b)) c k1 hlc (nm_cn hp1 _) hcc w' r1 r2
  have cY := fun w' (o1 : Option Addr) (c1 : Nat) (r1 : IRow w' ao a) (r2 : IRow w' o1 (nm P (pmul b c))) => Mul_yes P hP hP2 ao o1 ca c1 a (nm P (pmul b c)) ha k2 hca (nm_cn hp1 _) w' r1 r2
  have cU := fun w' (o1 : Option Addr) (c1 : Nat) (r1 : IRow w' o1 (nm P (padd a b))) (r2 : IRow w' co_ c) => Mul_yes P hP hP2 o1 co_ c1 cc (nm P (padd a b)) c ls hlc (nm_cn hp1 _) hcc w' r1 r2
  have cV := fun w' (o1 o2 : Option Addr) (c1 c2 : Nat) (r1 : IRow w' o1 (nm P (pmul a c))) (r2 : IRow w' o2 (nm P (pmul b c))) => Add_yes P hP hP2 o1 o2 c1 c2 (nm P (pmul a c)) (nm P (pmul b c)) k3 k2 (nm_cn hp1 _) (nm_cn hp1 _) w' r1 r2
  rw [ring_assoc hp1] at cY
  rw [ring_distr hp1] at cV
  have lx := mul_nm_len hp1 (nm P (pmul a b)) c
  have lu := mul_nm_len hp1 (nm P (padd a b)) c
  have cL3 := fun w' (o1 o2 : Option Addr) (c1 c2 : Nat) (h1 : IRow w' o1 (nm P (pmul (nm P (pmul a b)) c))) (h2 : IRow w' o2 (nm P (pmul (nm P (pmul a b)) c))) => Longs_same o1 o2 c1 c2 (nm P (pmul (nm P (pmul a b)) c)) (by omega) w' h1 h2
  have cL4 := fun w' (o1 o2 : Option Addr) (c1 c2 : Nat) (h1 : IRow w' o1 (nm P (pmul (nm P (padd a b)) c))) (h2 : IRow w' o2 (nm P (pmul (nm P (padd a b)) c))) => Longs_same o1 o2 c1 c2 (nm P (pmul (nm P (padd a b)) c)) (by omega) w' h1 h2
  have RA := hid ra
  have RB := hid rb
  have RC := hid rc
  have HB := hid (Below.refl w.heap.size w)
  clear hca hcb ra rb rc hcc
  generalize nm P (pmul (nm P (pmul a b)) c) = x at *
  generalize nm P (pmul (nm P (padd a b)) c) = u at *
  generalize nm P (pmul a b) = ab at *
  generalize nm P (padd a b) = s at *
  generalize nm P (pmul b c) = bc at *
  generalize nm P (pmul a c) = ac at *
  obtain ⟨nx, hnx⟩ : ∃ nx, nx = x.length := ⟨_, rfl⟩
  obtain ⟨nu, hnu⟩ : ∃ nu, nu = u.length := ⟨_, rfl⟩
  obtain ⟨nab, hnab⟩ : ∃ nab, nab = ab.length := ⟨_, rfl⟩
  obtain ⟨ns, hns⟩ : ∃ ns, ns = s.length := ⟨_, rfl⟩
  obtain ⟨nbc, hnbc⟩ : ∃ nbc, nbc = bc.length := ⟨_, rfl⟩
  obtain ⟨nac, hnac⟩ : ∃ nac, nac = ac.length := ⟨_, rfl⟩
  obtain ⟨na, hna⟩ : ∃ na, na = a.length := ⟨_, rfl⟩
  obtain ⟨nb, hnb⟩ : ∃ nb, nb = b.length := ⟨_, rfl⟩
  obtain ⟨nc, hnc⟩ : ∃ nc, nc = c.length := ⟨_, rfl⟩
  simp only [← hnx, ← hnu, ← hnab, ← hns, ← hnbc, ← hnac, ← hna, ← hnb, ← hnc] at cAB cBA cS cZ cSd2 cSd1 cL1 cL2 lab ls ha hb mc hz hlc k1 cBC cAC k2 k3 cX cY cU cV cL3 cL4 lx lu ⊢
  have HNx := hid hnx
  have HNu := hid hnu
  have HNab := hid hnab
  have HNs := hid hns
  have HNbc := hid hnbc
  have HNac := hid hnac
  clear hnx hnu hnab hns hnbc hnac hna hnb hnc
  have z1 : decide ((0 : Int) < (na : Int)) = false := by simp; omega
  have z1b : decide (0 < na) = false := by simp; omega
  have z1c : ¬ 0 < na := by omega
  clear hz
  have k1' : decide ((13 : Int) < (nab : Int)) = false := by simp; omega
  have k2' : decide ((13 : Int) < (nbc : Int)) = false := by simp; omega
  have k3' : decide ((13 : Int) < (nac : Int)) = false := by simp; omega
  go_enter Try.func4, Try.ntmps4
  go_wp2_with (first
    | (go_at_call 13; refine (cAB _ RA.out RB.out).mono ?_; rintro e w1 ⟨⟨o1, c1, rfl, hc1, hr1⟩, hB1⟩; replace RA := hid (ib RA.out hB1); replace RB := hid (ib RB.out hB1); replace RC := hid (ib RC.out hB1); replace HB := hid (below_trans HB.out hB1); have RAB := hid hr1; clear hr1 hB1 cAB; rw [← HNab.out])
    | (go_at_call 14; refine (cSd2 _ RA.out RB.out).mono ?_; rintro e ws ⟨rfl, hw⟩; subst ws; clear cSd2; replace RA := hid (ir RA.out (.cells #[.slice ao na ca, .slice bo nb cb] 23)); replace RB := hid (ir RB.out (.cells #[.slice ao na ca, .slice bo nb cb] 23)); replace RC := hid (ir RC.out (.cells #[.slice ao na ca, .slice bo nb cb] 23)); replace RAB := hid (ir RAB.out (.cells #[.slice ao na ca, .slice bo nb cb] 23)); replace HB := hid (al HB.out (.cells #[.slice ao na ca, .slice bo nb cb] 23)))
    | (go_at_call 13; refine (cBA _ RA.out RB.out).mono ?_; rintro e w2 ⟨⟨o2, c2, rfl, hc2, hr2⟩, hB2⟩; replace RA := hid (ib RA.out hB2); replace RB := hid (ib RB.out hB2); replace RC := hid (ib RC.out hB2); replace RAB := hid (ib RAB.out hB2); replace HB := hid (below_trans HB.out hB2); have RBA := hid hr2; clear hr2 hB2 cBA; rw [← HNab.out])
    | (go_at_call 15; refine (cS _ RA.out RB.out).mono ?_; rintro e w3 ⟨⟨o3, c3, rfl, hc3, hr3⟩, hB3⟩; replace RA := hid (ib RA.out hB3); replace RB := hid (ib RB.out hB3); replace RC := hid (ib RC.out hB3); replace RAB := hid (ib RAB.out hB3); replace RBA := hid (ib RBA.out hB3); replace HB := hid (below_trans HB.out hB3); have RS := hid hr3; clear hr3 hB3 cS; rw [← HNs.out])
    | (go_at_call 15; refine (cZ _ RA.out RB.out).mono ?_; rintro e w4 ⟨⟨o4, c4, rfl, hc4, hr4⟩, hB4⟩; replace RA := hid (ib RA.out hB4); replace RB := hid (ib RB.out hB4); replace RC := hid (ib RC.out hB4); replace RAB := hid (ib RAB.out hB4); replace RBA := hid (ib RBA.out hB4); replace RS := hid (ib RS.out hB4); replace HB := hid (below_trans HB.out hB4); have RZ := hid hr4; clear hr4 hB4 cZ; rw [← HNs.out])
    | (go_at_call 11; refine (cL1 _ _ _ _ _ RAB.out RBA.out).mono ?_; rintro e w5 ⟨rfl, hB5⟩; replace RA := hid (ib RA.out hB5); replace RB := hid (ib RB.out hB5); replace RC := hid (ib RC.out hB5); replace RAB := hid (ib RAB.out hB5); replace RS := hid (ib RS.out hB5); replace RZ := hid (ib RZ.out hB5); replace HB := hid (below_trans HB.out hB5); clear cL1 hB5)
    | (go_at_call 11; refine (cL2 _ _ _ _ _ RS.out RZ.out).mono ?_; rintro e w6 ⟨rfl, hB6⟩; replace RA := hid (ib RA.out hB6); replace RB := hid (ib RB.out hB6); replace RC := hid (ib RC.out hB6); replace RAB := hid (ib RAB.out hB6); replace RS := hid (ib RS.out hB6); replace HB := hid (below_trans HB.out hB6); clear cL2 hB6)
    | (go_at_call 14; refine (cSd1 _ RC.out).mono ?_; rintro e ws ⟨rfl, hw⟩; subst ws; clear cSd1; replace RA := hid (ir RA.out (.cells #[.slice co_ nc cc] 23)); replace RB := hid (ir RB.out (.cells #[.slice co_ nc cc] 23)); replace RC := hid (ir RC.out (.cells #[.slice co_ nc cc] 23)); replace RAB := hid (ir RAB.out (.cells #[.slice co_ nc cc] 23)); replace RS := hid (ir RS.out (.cells #[.slice co_ nc cc] 23)); replace HB := hid (al HB.out (.cells #[.slice co_ nc cc] 23)))
    | (go_at_call 13; refine (cBC _ RB.out RC.out).mono ?_; rintro e w7 ⟨⟨o7, c7, rfl, hc7, hr7⟩, hB7⟩; replace RA := hid (ib RA.out hB7); replace RB := hid (ib RB.out hB7); replace RC := hid (ib RC.out hB7); replace RAB := hid (ib RAB.out hB7); replace RS := hid (ib RS.out hB7); replace HB := hid (below_trans HB.out hB7); have RBC := hid hr7; clear hr7 hB7 cBC; rw [← HNbc.out])
    | (go_at_call 13; refine (cAC _ RA.out RC.out).mono ?_; rintro e w8 ⟨⟨o8, c8, rfl, hc8, hr8⟩, hB8⟩; replace RA := hid (ib RA.out hB8); replace RB := hid (ib RB.out hB8); replace RC := hid (ib RC.out hB8); replace RAB := hid (ib RAB.out hB8); replace RS := hid (ib RS.out hB8); replace RBC := hid (ib RBC.out hB8); replace HB := hid (below_trans HB.out hB8); have RAC := hid hr8; clear hr8 hB8 cAC; rw [← HNac.out])
    | (go_at_call 13; refine (cX _ _ _ RAB.out RC.out).mono ?_; rintro e w9 ⟨⟨o9, c9, rfl, hc9, hr9⟩, hB9⟩; replace RA := hid (ib RA.out hB9); replace RB := hid (ib RB.out hB9); replace RC := hid (ib RC.out hB9); replace RAB := hid (ib RAB.out hB9); replace RS := hid (ib RS.out hB9); replace RBC := hid (ib RBC.out hB9); replace RAC := hid (ib RAC.out hB9); replace HB := hid (below_trans HB.out hB9); have RX := hid hr9; clear hr9 hB9 cX; rw [← HNx.out])
    | (go_at_call 13; refine (cY _ _ _ RA.out RBC.out).mono ?_; rintro e w10 ⟨⟨o10, c10, rfl, hc10, hr10⟩, hB10⟩; replace RA := hid (ib RA.out hB10); replace RB := hid (ib RB.out hB10); replace RC := hid (ib RC.out hB10); replace RS := hid (ib RS.out hB10); replace RBC := hid (ib RBC.out hB10); replace RAC := hid (ib RAC.out hB10); replace RX := hid (ib RX.out hB10); replace HB := hid (below_trans HB.out hB10); have RY := hid hr10; clear hr10 hB10 cY; rw [← HNx.out])
    | (go_at_call 13; refine (cU _ _ _ RS.out RC.out).mono ?_; rintro e w11 ⟨⟨o11, c11, rfl, hc11, hr11⟩, hB11⟩; replace RA := hid (ib RA.out hB11); replace RB := hid (ib RB.out hB11); replace RC := hid (ib RC.out hB11); replace RBC := hid (ib RBC.out hB11); replace RAC := hid (ib RAC.out hB11); replace RX := hid (ib RX.out hB11); replace RY := hid (ib RY.out hB11); replace HB := hid (below_trans HB.out hB11); have RU := hid hr11; clear hr11 hB11 cU; rw [← HNu.out])
    | (go_at_call 15; refine (cV _ _ _ _ _ RAC.out RBC.out).mono ?_; rintro e w12 ⟨⟨o12, c12, rfl, hc12, hr12⟩, hB12⟩; replace RA := hid (ib RA.out hB12); replace RB := hid (ib RB.out hB12); replace RC := hid (ib RC.out hB12); replace RX := hid (ib RX.out hB12); replace RY := hid (ib RY.out hB12); replace RU := hid (ib RU.out hB12); replace HB := hid (below_trans HB.out hB12); have RV := hid hr12; clear hr12 hB12 cV; rw [← HNu.out])
    | (go_at_call 11; refine (cL3 _ _ _ _ _ RX.out RY.out).mono ?_; rintro e w13 ⟨rfl, hB13⟩; replace RA := hid (ib RA.out hB13); replace RB := hid (ib RB.out hB13); replace RC := hid (ib RC.out hB13); replace RU := hid (ib RU.out hB13); replace RV := hid (ib RV.out hB13); replace HB := hid (below_trans HB.out hB13); clear cL3 hB13)
    | (go_at_call 11; refine (cL4 _ _ _ _ _ RU.out RV.out).mono ?_; rintro e w14 ⟨rfl, hB14⟩; replace RA := hid (ib RA.out hB14); replace RB := hid (ib RB.out hB14); replace RC := hid (ib RC.out hB14); replace HB := hid (below_trans HB.out hB14); clear cL4 hB14))
  go_ret
  exact ⟨rfl, HB.out⟩

set_option maxRecDepth 100000 in
set_option maxHeartbeats 2000000 in
theorem r_B_bad (P : Nat) (hP : Pr P) (hP2 : P ≤ 251) (ao bo co_ : Option Addr) (ca cb cc : Nat) (a b c : List Int) (ha : a.length ≤ 13) (hb : b.length ≤ 13) (hca : Cn P a) (hcb : Cn P b) (mc : c.length ≤ 9223372036854775807) (w : World) (ra : IRow w ao a) (rb : IRow w bo b) (rc : IRow w co_ c) (hz : a.length ≠ 0) (hz2 : b.length = 0) (cd : Int) (hc : PC (P : Int) c cd) (h0 : cd ≠ 0)  :
    Calls Try.prog 4 #[.int .i64 (P : Int), .slice ao a.length ca, .slice bo b.length cb, .slice co_ c.length cc] w fun e w' => e = .returned (.bool true) ∧ Below w.heap.size w w' := by
  have hp1 : 1 ≤ P := by have := hP.1; omega
  have cAB := fun w' (r1 : IRow w' ao a) (r2 : IRow w' bo b) => Mul_yes P hP hP2 ao bo ca cb a b ha hb hca hcb w' r1 r2
  have cBA := fun w' (r1 : IRow w' ao a) (r2 : IRow w' bo b) => Mul_yes P hP hP2 bo ao cb ca b a hb ha hcb hca w' r2 r1
  have cS := fun w' (r1 : IRow w' ao a) (r2 : IRow w' bo b) => Add_yes P hP hP2 ao bo ca cb a b ha hb hca hcb w' r1 r2
  have cZ := fun w' (r1 : IRow w' ao a) (r2 : IRow w' bo b) => Add_yes P hP hP2 bo ao cb ca b a hb ha hcb hca w' r2 r1
  have cSd2 := fun w' (r1 : IRow w' ao a) (r2 : IRow w' bo b) => sound2 (P : Int) ao bo ca cb a b (by omega) (by omega) 0 0 (PC.of hP hP2 ha hca) (PC.of hP hP2 hb hcb) true (by simp [cd2]) w' r1 r2
  rw [nm_eq hp1 (Eqv.q (pmul_comm b a))] at cBA
  rw [nm_eq hp1 (Eqv.q (padd_comm b a))] at cZ
  have lab := mul_nm_len hp1 a b
  have ls : (nm P (padd a b)).length ≤ 13 := by have := nm_length P (padd a b); rw [padd_length] at this; omega
  have cL1 := fun w' (o1 o2 : Option Addr) (c1 c2 : Nat) (h1 : IRow w' o1 (nm P (pmul a b))) (h2 : IRow w' o2 (nm P (pmul a b))) => Longs_same o1 o2 c1 c2 (nm P (pmul a b)) (by omega) w' h1 h2
  have cL2 := fun w' (o1 o2 : Option Addr) (c1 c2 : Nat) (h1 : IRow w' o1 (nm P (padd a b))) (h2 : IRow w' o2 (nm P (padd a b))) => Longs_same o1 o2 c1 c2 (nm P (padd a b)) (by omega) w' h1 h2
  have cSd1 := fun w' (r : IRow w' co_ c) => sound1 (P : Int) co_ cc c mc cd hc false (by simp [h0]) w' r
  have RA := hid ra
  have RB := hid rb
  have RC := hid rc
  have HB := hid (Below.refl w.heap.size w)
  clear hca hcb ra rb rc hc
  generalize nm P (pmul a b) = ab at *
  generalize nm P (padd a b) = s at *
  obtain ⟨nab, hnab⟩ : ∃ nab, nab = ab.length := ⟨_, rfl⟩
  obtain ⟨ns, hns⟩ : ∃ ns, ns = s.length := ⟨_, rfl⟩
  obtain ⟨na, hna⟩ : ∃ na, na = a.length := ⟨_, rfl⟩
  obtain ⟨nb, hnb⟩ : ∃ nb, nb = b.length := ⟨_, rfl⟩
  obtain ⟨nc, hnc⟩ : ∃ nc, nc = c.length := ⟨_, rfl⟩
  simp only [← hnab, ← hns, ← hna, ← hnb, ← hnc] at cAB cBA cS cZ cSd2 cSd1 cL1 cL2 lab ls ha hb mc hz hz2 ⊢
  have HNab := hid hnab
  have HNs := hid hns
  clear hnab hns hna hnb hnc
  have z1 : (0 : Int) < (na : Int) := by omega
  have z2 : decide ((0 : Int) < (nb : Int)) = false := by simp; omega
  have z2b : decide (0 < nb) = false := by simp; omega
  have z2c : ¬ 0 < nb := by omega
  clear hz hz2
  go_enter Try.func4, Try.ntmps4
  go_wp2_with (first
    | (go_at_call 13; refine (cAB _ RA.out RB.out).mono ?_; rintro e w1 ⟨⟨o1, c1, rfl, hc1, hr1⟩, hB1⟩; replace RA := hid (ib RA.out hB1); replace RB := hid (ib RB.out hB1); replace RC := hid (ib RC.out hB1); replace HB := hid (below_trans HB.out hB1); have RAB := hid hr1; clear hr1 hB1 cAB; rw [← HNab.out])
    | (go_at_call 14; refine (cSd2 _ RA.out RB.out).mono ?_; rintro e ws ⟨rfl, hw⟩; subst ws; clear cSd2; replace RA := hid (ir RA.out (.cells #[.slice ao na ca, .slice bo nb cb] 23)); replace RB := hid (ir RB.out (.cells #[.slice ao na ca, .slice bo nb cb] 23)); replace RC := hid (ir RC.out (.cells #[.slice ao na ca, .slice bo nb cb] 23)); replace RAB := hid (ir RAB.out (.cells #[.slice ao na ca, .slice bo nb cb] 23)); replace HB := hid (al HB.out (.cells #[.slice ao na ca, .slice bo nb cb] 23)))
    | (go_at_call 13; refine (cBA _ RA.out RB.out).mono ?_; rintro e w2 ⟨⟨o2, c2, rfl, hc2, hr2⟩, hB2⟩; replace RA := hid (ib RA.out hB2); replace RB := hid (ib RB.out hB2); replace RC := hid (ib RC.out hB2); replace RAB := hid (ib RAB.out hB2); replace HB := hid (below_trans HB.out hB2); have RBA := hid hr2; clear hr2 hB2 cBA; rw [← HNab.out])
    | (go_at_call 15; refine (cS _ RA.out RB.out).mono ?_; rintro e w3 ⟨⟨o3, c3, rfl, hc3, hr3⟩, hB3⟩; replace RA := hid (ib RA.out hB3); replace RB := hid (ib RB.out hB3); replace RC := hid (ib RC.out hB3); replace RAB := hid (ib RAB.out hB3); replace RBA := hid (ib RBA.out hB3); replace HB := hid (below_trans HB.out hB3); have RS := hid hr3; clear hr3 hB3 cS; rw [← HNs.out])
    | (go_at_call 15; refine (cZ _ RA.out RB.out).mono ?_; rintro e w4 ⟨⟨o4, c4, rfl, hc4, hr4⟩, hB4⟩; replace RA := hid (ib RA.out hB4); replace RB := hid (ib RB.out hB4); replace RC := hid (ib RC.out hB4); replace RAB := hid (ib RAB.out hB4); replace RBA := hid (ib RBA.out hB4); replace RS := hid (ib RS.out hB4); replace HB := hid (below_trans HB.out hB4); have RZ := hid hr4; clear hr4 hB4 cZ; rw [← HNs.out])
    | (go_at_call 11; refine (cL1 _ _ _ _ _ RAB.out RBA.out).mono ?_; rintro e w5 ⟨rfl, hB5⟩; replace RA := hid (ib RA.out hB5); replace RB := hid (ib RB.out hB5); replace RC := hid (ib RC.out hB5); replace RAB := hid (ib RAB.out hB5); replace RS := hid (ib RS.out hB5); replace RZ := hid (ib RZ.out hB5); replace HB := hid (below_trans HB.out hB5); clear cL1 hB5)
    | (go_at_call 11; refine (cL2 _ _ _ _ _ RS.out RZ.out).mono ?_; rintro e w6 ⟨rfl, hB6⟩; replace RA := hid (ib RA.out hB6); replace RB := hid (ib RB.out hB6); replace RC := hid (ib RC.out hB6); replace RAB := hid (ib RAB.out hB6); replace RS := hid (ib RS.out hB6); replace HB := hid (below_trans HB.out hB6); clear cL2 hB6)
    | (go_at_call 14; refine (cSd1 _ RC.out).mono ?_; rintro e ws ⟨rfl, hw⟩; subst ws; clear cSd1; replace RA := hid (ir RA.out (.cells #[.slice co_ nc cc] 23)); replace RB := hid (ir RB.out (.cells #[.slice co_ nc cc] 23)); replace RC := hid (ir RC.out (.cells #[.slice co_ nc cc] 23)); replace RAB := hid (ir RAB.out (.cells #[.slice co_ nc cc] 23)); replace RS := hid (ir RS.out (.cells #[.slice co_ nc cc] 23)); replace HB := hid (al HB.out (.cells #[.slice co_ nc cc] 23))))
  go_ret
  exact ⟨rfl, HB.out⟩

set_option maxRecDepth 100000 in
set_option maxHeartbeats 2000000 in
theorem r_B_bc (P : Nat) (hP : Pr P) (hP2 : P ≤ 251) (ao bo co_ : Option Addr) (ca cb cc : Nat) (a b c : List Int) (ha : a.length ≤ 13) (hb : b.length ≤ 13) (hca : Cn P a) (hcb : Cn P b) (mc : c.length ≤ 9223372036854775807) (w : World) (ra : IRow w ao a) (rb : IRow w bo b) (rc : IRow w co_ c) (hz : a.length ≠ 0) (hz2 : b.length = 0) (hlc : c.length ≤ 13) (hcc : Cn P c) (k1 : (nm P (pmul a b)).length ≤ 13) (k2 : 13 < (nm P (pmul b c)).length) :
    Calls Try.prog 4 #[.int .i64 (P : Int), .slice ao a.length ca, .slice bo b.length cb, .slice co_ c.length cc] w fun e w' => e = .returned (.bool true) ∧ Below w.heap.size w w' := by
  have hp1 : 1 ≤ P := by have := hP.1; omega
  have cAB := fun w' (r1 : IRow w' ao a) (r2 : IRow w' bo b) => Mul_yes P hP hP2 ao bo ca cb a b ha hb hca hcb w' r1 r2
  have cBA := fun w' (r1 : IRow w' ao a) (r2 : IRow w' bo b) => Mul_yes P hP hP2 bo ao cb ca b a hb ha hcb hca w' r2 r1
  have cS := fun w' (r1 : IRow w' ao a) (r2 : IRow w' bo b) => Add_yes P hP hP2 ao bo ca cb a b ha hb hca hcb w' r1 r2
  have cZ := fun w' (r1 : IRow w' ao a) (r2 : IRow w' bo b) => Add_yes P hP hP2 bo ao cb ca b a hb ha hcb hca w' r2 r1
  have cSd2 := fun w' (r1 : IRow w' ao a) (r2 : IRow w' bo b) => sound2 (P : Int) ao bo ca cb a b (by omega) (by omega) 0 0 (PC.of hP hP2 ha hca) (PC.of hP hP2 hb hcb) true (by simp [cd2]) w' r1 r2
  rw [nm_eq hp1 (Eqv.q (pmul_comm b a))] at cBA
  rw [nm_eq hp1 (Eqv.q (padd_comm b a))] at cZ
  have lab := mul_nm_len hp1 a b
  have ls : (nm P (padd a b)).length ≤ 13 := by have := nm_length P (padd a b); rw [padd_length] at this; omega
  have cL1 := fun w' (o1 o2 : Option Addr) (c1 c2 : Nat) (h1 : IRow w' o1 (nm P (pmul a b))) (h2 : IRow w' o2 (nm P (pmul a b))) => Longs_same o1 o2 c1 c2 (nm P (pmul a b)) (by omega) w' h1 h2
  have cL2 := fun w' (o1 o2 : Option Addr) (c1 c2 : Nat) (h1 : IRow w' o1 (nm P (padd a b))) (h2 : IRow w' o2 (nm P (padd a b))) => Longs_same o1 o2 c1 c2 (nm P (padd a b)) (by omega) w' h1 h2
  have cSd1 := fun w' (r : IRow w' co_ c) => sound1 (P : Int) co_ cc c mc 0 (PC.of hP hP2 hlc hcc) true (by simp) w' r
  have cBC := fun w' (r1 : IRow w' bo b) (r2 : IRow w' co_ c) => Mul_yes P hP hP2 bo co_ cb cc b c hb hlc hcb hcc w' r1 r2
  have cAC := fun w' (r1 : IRow w' ao a) (r2 : IRow w' co_ c) => Mul_yes P hP hP2 ao co_ ca cc a c ha hlc hca hcc w' r1 r2
  have RA := hid ra
  have RB := hid rb
  have RC := hid rc
  have HB := hid (Below.refl w.heap.size w)
  clear hca hcb ra rb rc hcc
  generalize nm P (pmul a b) = ab at *
  generalize nm P (padd a b) = s at *
  generalize nm P (pmul b c) = bc at *
  generalize nm P (pmul a c) = ac at *
  obtain ⟨nab, hnab⟩ : ∃ nab, nab = ab.length := ⟨_, rfl⟩
  obtain ⟨ns, hns⟩ : ∃ ns, ns = s.length := ⟨_, rfl⟩
  obtain ⟨nbc, hnbc⟩ : ∃ nbc, nbc = bc.length := ⟨_, rfl⟩
  obtain ⟨nac, hnac⟩ : ∃ nac, nac = ac.length := ⟨_, rfl⟩
  obtain ⟨na, hna⟩ : ∃ na, na = a.length := ⟨_, rfl⟩
  obtain ⟨nb, hnb⟩ : ∃ nb, nb = b.length := ⟨_, rfl⟩
  obtain ⟨nc, hnc⟩ : ∃ nc, nc = c.length := ⟨_, rfl⟩
  simp only [← hnab, ← hns, ← hnbc, ← hna, ← hnb, ← hnc] at cAB cBA cS cZ cSd2 cSd1 cL1 cL2 lab ls ha hb mc hz hz2 hlc k1 cBC cAC k2 ⊢
  have HNab := hid hnab
  have HNs := hid hns
  have HNbc := hid hnbc
  have HNac := hid hnac
  clear hnab hns hnbc hnac hna hnb hnc
  have z1 : (0 : Int) < (na : Int) := by omega
  have z2 : decide ((0 : Int) < (nb : Int)) = false := by simp; omega
  have z2b : decide (0 < nb) = false := by simp; omega
  have z2c : ¬ 0 < nb := by omega
  clear hz hz2
  have k1' : decide ((13 : Int) < (nab : Int)) = false := by simp; omega
  have k2' : (13 : Int) < (nbc : Int) := by omega
  go_enter Try.func4, Try.ntmps4
  go_wp2_with (first
    | (go_at_call 13; refine (cAB _ RA.out RB.out).mono ?_; rintro e w1 ⟨⟨o1, c1, rfl, hc1, hr1⟩, hB1⟩; replace RA := hid (ib RA.out hB1); replace RB := hid (ib RB.out hB1); replace RC := hid (ib RC.out hB1); replace HB := hid (below_trans HB.out hB1); have RAB := hid hr1; clear hr1 hB1 cAB; rw [← HNab.out])
    | (go_at_call 14; refine (cSd2 _ RA.out RB.out).mono ?_; rintro e ws ⟨rfl, hw⟩; subst ws; clear cSd2; replace RA := hid (ir RA.out (.cells #[.slice ao na ca, .slice bo nb cb] 23)); replace RB := hid (ir RB.out (.cells #[.slice ao na ca, .slice bo nb cb] 23)); replace RC := hid (ir RC.out (.cells #[.slice ao na ca, .slice bo nb cb] 23)); replace RAB := hid (ir RAB.out (.cells #[.slice ao na ca, .slice bo nb cb] 23)); replace HB := hid (al HB.out (.cells #[.slice ao na ca, .slice bo nb cb] 23)))
    | (go_at_call 13; refine (cBA _ RA.out RB.out).mono ?_; rintro e w2 ⟨⟨o2, c2, rfl, hc2, hr2⟩, hB2⟩; replace RA := hid (ib RA.out hB2); replace RB := hid (ib RB.out hB2); replace RC := hid (ib RC.out hB2); replace RAB := hid (ib RAB.out hB2); replace HB := hid (below_trans HB.out hB2); have RBA := hid hr2; clear hr2 hB2 cBA; rw [← HNab.out])
    | (go_at_call 15; refine (cS _ RA.out RB.out).mono ?_; rintro e w3 ⟨⟨o3, c3, rfl, hc3, hr3⟩, hB3⟩; replace RA := hid (ib RA.out hB3); replace RB := hid (ib RB.out hB3); replace RC := hid (ib RC.out hB3); replace RAB := hid (ib RAB.out hB3); replace RBA := hid (ib RBA.out hB3); replace HB := hid (below_trans HB.out hB3); have RS := hid hr3; clear hr3 hB3 cS; rw [← HNs.out])
    | (go_at_call 15; refine (cZ _ RA.out RB.out).mono ?_; rintro e w4 ⟨⟨o4, c4, rfl, hc4, hr4⟩, hB4⟩; replace RA := hid (ib RA.out hB4); replace RB := hid (ib RB.out hB4); replace RC := hid (ib RC.out hB4); replace RAB := hid (ib RAB.out hB4); replace RBA := hid (ib RBA.out hB4); replace RS := hid (ib RS.out hB4); replace HB := hid (below_trans HB.out hB4); have RZ := hid hr4; clear hr4 hB4 cZ; rw [← HNs.out])
    | (go_at_call 11; refine (cL1 _ _ _ _ _ RAB.out RBA.out).mono ?_; rintro e w5 ⟨rfl, hB5⟩; replace RA := hid (ib RA.out hB5); replace RB := hid (ib RB.out hB5); replace RC := hid (ib RC.out hB5); replace RAB := hid (ib RAB.out hB5); replace RS := hid (ib RS.out hB5); replace RZ := hid (ib RZ.out hB5); replace HB := hid (below_trans HB.out hB5); clear cL1 hB5)
    | (go_at_call 11; refine (cL2 _ _ _ _ _ RS.out RZ.out).mono ?_; rintro e w6 ⟨rfl, hB6⟩; replace RA := hid (ib RA.out hB6); replace RB := hid (ib RB.out hB6); replace RC := hid (ib RC.out hB6); replace RAB := hid (ib RAB.out hB6); replace RS := hid (ib RS.out hB6); replace HB := hid (below_trans HB.out hB6); clear cL2 hB6)
    | (go_at_call 14; refine (cSd1 _ RC.out).mono ?_; rintro e ws ⟨rfl, hw⟩; subst ws; clear cSd1; replace RA := hid (ir RA.out (.cells #[.slice co_ nc cc] 23)); replace RB := hid (ir RB.out (.cells #[.slice co_ nc cc] 23)); replace RC := hid (ir RC.out (.cells #[.slice co_ nc cc] 23)); replace RAB := hid (ir RAB.out (.cells #[.slice co_ nc cc] 23)); replace RS := hid (ir RS.out (.cells #[.slice co_ nc cc] 23)); replace HB := hid (al HB.out (.cells #[.slice co_ nc cc] 23)))
    | (go_at_call 13; refine (cBC _ RB.out RC.out).mono ?_; rintro e w7 ⟨⟨o7, c7, rfl, hc7, hr7⟩, hB7⟩; replace RA := hid (ib RA.out hB7); replace RB := hid (ib RB.out hB7); replace RC := hid (ib RC.out hB7); replace RAB := hid (ib RAB.out hB7); replace RS := hid (ib RS.out hB7); replace HB := hid (below_trans HB.out hB7); have RBC := hid hr7; clear hr7 hB7 cBC; rw [← HNbc.out])
    | (go_at_call 13; refine (cAC _ RA.out RC.out).mono ?_; rintro e w8 ⟨⟨o8, c8, rfl, hc8, hr8⟩, hB8⟩; replace RA := hid (ib RA.out hB8); replace RB := hid (ib RB.out hB8); replace RC := hid (ib RC.out hB8); replace RAB := hid (ib RAB.out hB8); replace RS := hid (ib RS.out hB8); replace RBC := hid (ib RBC.out hB8); replace HB := hid (below_trans HB.out hB8); have RAC := hid hr8; clear hr8 hB8 cAC; rw [← HNac.out]))
  go_ret
  exact ⟨rfl, HB.out⟩

set_option maxRecDepth 100000 in
set_option maxHeartbeats 2000000 in
theorem r_B_ac (P : Nat) (hP : Pr P) (hP2 : P ≤ 251) (ao bo co_ : Option Addr) (ca cb cc : Nat) (a b c : List Int) (ha : a.length ≤ 13) (hb : b.length ≤ 13) (hca : Cn P a) (hcb : Cn P b) (mc : c.length ≤ 9223372036854775807) (w : World) (ra : IRow w ao a) (rb : IRow w bo b) (rc : IRow w co_ c) (hz : a.length ≠ 0) (hz2 : b.length = 0) (hlc : c.length ≤ 13) (hcc : Cn P c) (k1 : (nm P (pmul a b)).length ≤ 13) (k2 : (nm P (pmul b c)).length ≤ 13) (k3 : 13 < (nm P (pmul a c)).length) :
    Calls Try.prog 4 #[.int .i64 (P : Int), .slice ao a.length ca, .slice bo b.length cb, .slice co_ c.length cc] w fun e w' => e = .returned (.bool true) ∧ Below w.heap.size w w' := by
  have hp1 : 1 ≤ P := by have := hP.1; omega
  have cAB := fun w' (r1 : IRow w' ao a) (r2 : IRow w' bo b) => Mul_yes P hP hP2 ao bo ca cb a b ha hb hca hcb w' r1 r2
  have cBA := fun w' (r1 : IRow w' ao a) (r2 : IRow w' bo b) => Mul_yes P hP hP2 bo ao cb ca b a hb ha hcb hca w' r2 r1
  have cS := fun w' (r1 : IRow w' ao a) (r2 : IRow w' bo b) => Add_yes P hP hP2 ao bo ca cb a b ha hb hca hcb w' r1 r2
  have cZ := fun w' (r1 : IRow w' ao a) (r2 : IRow w' bo b) => Add_yes P hP hP2 bo ao cb ca b a hb ha hcb hca w' r2 r1
  have cSd2 := fun w' (r1 : IRow w' ao a) (r2 : IRow w' bo b) => sound2 (P : Int) ao bo ca cb a b (by omega) (by omega) 0 0 (PC.of hP hP2 ha hca) (PC.of hP hP2 hb hcb) true (by simp [cd2]) w' r1 r2
  rw [nm_eq hp1 (Eqv.q (pmul_comm b a))] at cBA
  rw [nm_eq hp1 (Eqv.q (padd_comm b a))] at cZ
  have lab := mul_nm_len hp1 a b
  have ls : (nm P (padd a b)).length ≤ 13 := by have := nm_length P (padd a b); rw [padd_length] at this; omega
  have cL1 := fun w' (o1 o2 : Option Addr) (c1 c2 : Nat) (h1 : IRow w' o1 (nm P (pmul a b))) (h2 : IRow w' o2 (nm P (pmul a b))) => Longs_same o1 o2 c1 c2 (nm P (pmul a b)) (by omega) w' h1 h2
  have cL2 := fun w' (o1 o2 : Option Addr) (c1 c2 : Nat) (h1 : IRow w' o1 (nm P (padd a b))) (h2 : IRow w' o2 (nm P (padd a b))) => Longs_same o1 o2 c1 c2 (nm P (padd a b)) (by omega) w' h1 h2
  have cSd1 := fun w' (r : IRow w' co_ c) => sound1 (P : Int) co_ cc c mc 0 (PC.of hP hP2 hlc hcc) true (by simp) w' r
  have cBC := fun w' (r1 : IRow w' bo b) (r2 : IRow w' co_ c) => Mul_yes P hP hP2 bo co_ cb cc b c hb hlc hcb hcc w' r1 r2
  have cAC := fun w' (r1 : IRow w' ao a) (r2 : IRow w' co_ c) => Mul_yes P hP hP2 ao co_ ca cc a c ha hlc hca hcc w' r1 r2
  have RA := hid ra
  have RB := hid rb
  have RC := hid rc
  have HB := hid (Below.refl w.heap.size w)
  clear hca hcb ra rb rc hcc
  generalize nm P (pmul a b) = ab at *
  generalize nm P (padd a b) = s at *
  generalize nm P (pmul b c) = bc at *
  generalize nm P (pmul a c) = ac at *
  obtain ⟨nab, hnab⟩ : ∃ nab, nab = ab.length := ⟨_, rfl⟩
  obtain ⟨ns, hns⟩ : ∃ ns, ns = s.length := ⟨_, rfl⟩
  obtain ⟨nbc, hnbc⟩ : ∃ nbc, nbc = bc.length := ⟨_, rfl⟩
  obtain ⟨nac, hnac⟩ : ∃ nac, nac = ac.length := ⟨_, rfl⟩
  obtain ⟨na, hna⟩ : ∃ na, na = a.length := ⟨_, rfl⟩
  obtain ⟨nb, hnb⟩ : ∃ nb, nb = b.length := ⟨_, rfl⟩
  obtain ⟨nc, hnc⟩ : ∃ nc, nc = c.length := ⟨_, rfl⟩
  simp only [← hnab, ← hns, ← hnbc, ← hnac, ← hna, ← hnb, ← hnc] at cAB cBA cS cZ cSd2 cSd1 cL1 cL2 lab ls ha hb mc hz hz2 hlc k1 cBC cAC k2 k3 ⊢
  have HNab := hid hnab
  have HNs := hid hns
  have HNbc := hid hnbc
  have HNac := hid hnac
  clear hnab hns hnbc hnac hna hnb hnc
  have z1 : (0 : Int) < (na : Int) := by omega
  have z2 : decide ((0 : Int) < (nb : Int)) = false := by simp; omega
  have z2b : decide (0 < nb) = false := by simp; omega
  have z2c : ¬ 0 < nb := by omega
  clear hz hz2
  have k1' : decide ((13 : Int) < (nab : Int)) = false := by simp; omega
  have k2' : decide ((13 : Int) < (nbc : Int)) = false := by simp; omega
  have k3' : (13 : Int) < (nac : Int) := by omega
  go_enter Try.func4, Try.ntmps4
  go_wp2_with (first
    | (go_at_call 13; refine (cAB _ RA.out RB.out).mono ?_; rintro e w1 ⟨⟨o1, c1, rfl, hc1, hr1⟩, hB1⟩; replace RA := hid (ib RA.out hB1); replace RB := hid (ib RB.out hB1); replace RC := hid (ib RC.out hB1); replace HB := hid (below_trans HB.out hB1); have RAB := hid hr1; clear hr1 hB1 cAB; rw [← HNab.out])
    | (go_at_call 14; refine (cSd2 _ RA.out RB.out).mono ?_; rintro e ws ⟨rfl, hw⟩; subst ws; clear cSd2; replace RA := hid (ir RA.out (.cells #[.slice ao na ca, .slice bo nb cb] 23)); replace RB := hid (ir RB.out (.cells #[.slice ao na ca, .slice bo nb cb] 23)); replace RC := hid (ir RC.out (.cells #[.slice ao na ca, .slice bo nb cb] 23)); replace RAB := hid (ir RAB.out (.cells #[.slice ao na ca, .slice bo nb cb] 23)); replace HB := hid (al HB.out (.cells #[.slice ao na ca, .slice bo nb cb] 23)))
    | (go_at_call 13; refine (cBA _ RA.out RB.out).mono ?_; rintro e w2 ⟨⟨o2, c2, rfl, hc2, hr2⟩, hB2⟩; replace RA := hid (ib RA.out hB2); replace RB := hid (ib RB.out hB2); replace RC := hid (ib RC.out hB2); replace RAB := hid (ib RAB.out hB2); replace HB := hid (below_trans HB.out hB2); have RBA := hid hr2; clear hr2 hB2 cBA; rw [← HNab.out])
    | (go_at_call 15; refine (cS _ RA.out RB.out).mono ?_; rintro e w3 ⟨⟨o3, c3, rfl, hc3, hr3⟩, hB3⟩; replace RA := hid (ib RA.out hB3); replace RB := hid (ib RB.out hB3); replace RC := hid (ib RC.out hB3); replace RAB := hid (ib RAB.out hB3); replace RBA := hid (ib RBA.out hB3); replace HB := hid (below_trans HB.out hB3); have RS := hid hr3; clear hr3 hB3 cS; rw [← HNs.out])
    | (go_at_call 15; refine (cZ _ RA.out RB.out).mono ?_; rintro e w4 ⟨⟨o4, c4, rfl, hc4, hr4⟩, hB4⟩; replace RA := hid (ib RA.out hB4); replace RB := hid (ib RB.out hB4); replace RC := hid (ib RC.out hB4); replace RAB := hid (ib RAB.out hB4); replace RBA := hid (ib RBA.out hB4); replace RS := hid (ib RS.out hB4); replace HB := hid (below_trans HB.out hB4); have RZ := hid hr4; clear hr4 hB4 cZ; rw [← HNs.out])
    | (go_at_call 11; refine (cL1 _ _ _ _ _ RAB.out RBA.out).mono ?_; rintro e w5 ⟨rfl, hB5⟩; replace RA := hid (ib RA.out hB5); replace RB := hid (ib RB.out hB5); replace RC := hid (ib RC.out hB5); replace RAB := hid (ib RAB.out hB5); replace RS := hid (ib RS.out hB5); replace RZ := hid (ib RZ.out hB5); replace HB := hid (below_trans HB.out hB5); clear cL1 hB5)
    | (go_at_call 11; refine (cL2 _ _ _ _ _ RS.out RZ.out).mono ?_; rintro e w6 ⟨rfl, hB6⟩; replace RA := hid (ib RA.out hB6); replace RB := hid (ib RB.out hB6); replace RC := hid (ib RC.out hB6); replace RAB := hid (ib RAB.out hB6); replace RS := hid (ib RS.out hB6); replace HB := hid (below_trans HB.out hB6); clear cL2 hB6)
    | (go_at_call 14; refine (cSd1 _ RC.out).mono ?_; rintro e ws ⟨rfl, hw⟩; subst ws; clear cSd1; replace RA := hid (ir RA.out (.cells #[.slice co_ nc cc] 23)); replace RB := hid (ir RB.out (.cells #[.slice co_ nc cc] 23)); replace RC := hid (ir RC.out (.cells #[.slice co_ nc cc] 23)); replace RAB := hid (ir RAB.out (.cells #[.slice co_ nc cc] 23)); replace RS := hid (ir RS.out (.cells #[.slice co_ nc cc] 23)); replace HB := hid (al HB.out (.cells #[.slice co_ nc cc] 23)))
    | (go_at_call 13; refine (cBC _ RB.out RC.out).mono ?_; rintro e w7 ⟨⟨o7, c7, rfl, hc7, hr7⟩, hB7⟩; replace RA := hid (ib RA.out hB7); replace RB := hid (ib RB.out hB7); replace RC := hid (ib RC.out hB7); replace RAB := hid (ib RAB.out hB7); replace RS := hid (ib RS.out hB7); replace HB := hid (below_trans HB.out hB7); have RBC := hid hr7; clear hr7 hB7 cBC; rw [← HNbc.out])
    | (go_at_call 13; refine (cAC _ RA.out RC.out).mono ?_; rintro e w8 ⟨⟨o8, c8, rfl, hc8, hr8⟩, hB8⟩; replace RA := hid (ib RA.out hB8); replace RB := hid (ib RB.out hB8); replace RC := hid (ib RC.out hB8); replace RAB := hid (ib RAB.out hB8); replace RS := hid (ib RS.out hB8); replace RBC := hid (ib RBC.out hB8); replace HB := hid (below_trans HB.out hB8); have RAC := hid hr8; clear hr8 hB8 cAC; rw [← HNac.out]))
  go_ret
  exact ⟨rfl, HB.out⟩

set_option maxRecDepth 100000 in
set_option maxHeartbeats 2000000 in
theorem r_B_end (P : Nat) (hP : Pr P) (hP2 : P ≤ 251) (ao bo co_ : Option Addr) (ca cb cc : Nat) (a b c : List Int) (ha : a.length ≤ 13) (hb : b.length ≤ 13) (hca : Cn P a) (hcb : Cn P b) (mc : c.length ≤ 9223372036854775807) (w : World) (ra : IRow w ao a) (rb : IRow w bo b) (rc : IRow w co_ c) (hz : a.length ≠ 0) (hz2 : b.length = 0) (hlc : c.length ≤ 13) (hcc : Cn P c) (k1 : (nm P (pmul a b)).length ≤ 13) (k2 : (nm P (pmul b c)).length ≤ 13) (k3 : (nm P (pmul a c)).length ≤ 13) :
    Calls Try.prog 4 #[.int .i64 (P : Int), .slice ao a.length ca, .slice bo b.length cb, .slice co_ c.length cc] w fun e w' => e = .returned (.bool true) ∧ Below w.heap.size w w' := by
  have hp1 : 1 ≤ P := by have := hP.1; omega
  have cAB := fun w' (r1 : IRow w' ao a) (r2 : IRow w' bo b) => Mul_yes P hP hP2 ao bo ca cb a b ha hb hca hcb w' r1 r2
  have cBA := fun w' (r1 : IRow w' ao a) (r2 : IRow w' bo b) => Mul_yes P hP hP2 bo ao cb ca b a hb ha hcb hca w' r2 r1
  have cS := fun w' (r1 : IRow w' ao a) (r2 : IRow w' bo b) => Add_yes P hP hP2 ao bo ca cb a b ha hb hca hcb w' r1 r2
  have cZ := fun w' (r1 : IRow w' ao a) (r2 : IRow w' bo b) => Add_yes P hP hP2 bo ao cb ca b a hb ha hcb hca w' r2 r1
  have cSd2 := fun w' (r1 : IRow w' ao a) (r2 : IRow w' bo b) => sound2 (P : Int) ao bo ca cb a b (by omega) (by omega) 0 0 (PC.of hP hP2 ha hca) (PC.of hP hP2 hb hcb) true (by simp [cd2]) w' r1 r2
  rw [nm_eq hp1 (Eqv.q (pmul_comm b a))] at cBA
  rw [nm_eq hp1 (Eqv.q (padd_comm b a))] at cZ
  have lab := mul_nm_len hp1 a b
  have ls : (nm P (padd a b)).length ≤ 13 := by have := nm_length P (padd a b); rw [padd_length] at this; omega
  have cL1 := fun w' (o1 o2 : Option Addr) (c1 c2 : Nat) (h1 : IRow w' o1 (nm P (pmul a b))) (h2 : IRow w' o2 (nm P (pmul a b))) => Longs_same o1 o2 c1 c2 (nm P (pmul a b)) (by omega) w' h1 h2
  have cL2 := fun w' (o1 o2 : Option Addr) (c1 c2 : Nat) (h1 : IRow w' o1 (nm P (padd a b))) (h2 : IRow w' o2 (nm P (padd a b))) => Longs_same o1 o2 c1 c2 (nm P (padd a b)) (by omega) w' h1 h2
  have cSd1 := fun w' (r : IRow w' co_ c) => sound1 (P : Int) co_ cc c mc 0 (PC.of hP hP2 hlc hcc) true (by simp) w' r
  have cBC := fun w' (r1 : IRow w' bo b) (r2 : IRow w' co_ c) => Mul_yes P hP hP2 bo co_ cb cc b c hb hlc hcb hcc w' r1 r2
  have cAC := fun w' (r1 : IRow w' ao a) (r2 : IRow w' co_ c) => Mul_yes P hP hP2 ao co_ ca cc a c ha hlc hca hcc w' r1 r2
  have cX := fun w' (o1 : Option Addr) (c1 : Nat) (r1 : IRow w' o1 (nm P (pmul a b))) (r2 : IRow w' co_ c) => Mul_yes P hP hP2 o1 co_ c1 cc (nm P (pmul a b)) c k1 hlc (nm_cn hp1 _) hcc w' r1 r2
  have cY := fun w' (o1 : Option Addr) (c1 : Nat) (r1 : IRow w' ao a) (r2 : IRow w' o1 (nm P (pmul b c))) => Mul_yes P hP hP2 ao o1 ca c1 a (nm P (pmul b c)) ha k2 hca (nm_cn hp1 _) w' r1 r2
  have cU := fun w' (o1 : Option Addr) (c1 : Nat) (r1 : IRow w' o1 (nm P (padd a b))) (r2 : IRow w' co_ c) => Mul_yes P hP hP2 o1 co_ c1 cc (nm P (padd a b)) c ls hlc (nm_cn hp1 _) hcc w' r1 r2
  have cV := fun w' (o1 o2 : Option Addr) (c1 c2 : Nat) (r1 : IRow w' o1 (nm P (pmul a c))) (r2 : IRow w' o2 (nm P (pmul b c))) => Add_yes P hP hP2 o1 o2 c1 c2 (nm P (pmul a c)) (nm P (pmul b c)) k3 k2 (nm_cn hp1 _) (nm_cn hp1 _) w' r1 r2
  rw [ring_assoc hp1] at cY
  rw [ring_distr hp1] at cV
  have lx := mul_nm_len hp1 (nm P (pmul a b)) c
  have lu := mul_nm_len hp1 (nm P (padd a b)) c
  have cL3 := fun w' (o1 o2 : Option Addr) (c1 c2 : Nat) (h1 : IRow w' o1 (nm P (pmul (nm P (pmul a b)) c))) (h2 : IRow w' o2 (nm P (pmul (nm P (pmul a b)) c))) => Longs_same o1 o2 c1 c2 (nm P (pmul (nm P (pmul a b)) c)) (by omega) w' h1 h2
  have cL4 := fun w' (o1 o2 : Option Addr) (c1 c2 : Nat) (h1 : IRow w' o1 (nm P (pmul (nm P (padd a b)) c))) (h2 : IRow w' o2 (nm P (pmul (nm P (padd a b)) c))) => Longs_same o1 o2 c1 c2 (nm P (pmul (nm P (padd a b)) c)) (by omega) w' h1 h2
  have RA := hid ra
  have RB := hid rb
  have RC := hid rc
  have HB := hid (Below.refl w.heap.size w)
  clear hca hcb ra rb rc hcc
  generalize nm P (pmul (nm P (pmul a b)) c) = x at *
  generalize nm P (pmul (nm P (padd a b)) c) = u at *
  generalize nm P (pmul a b) = ab at *
  generalize nm P (padd a b) = s at *
  generalize nm P (pmul b c) = bc at *
  generalize nm P (pmul a c) = ac at *
  obtain ⟨nx, hnx⟩ : ∃ nx, nx = x.length := ⟨_, rfl⟩
  obtain ⟨nu, hnu⟩ : ∃ nu, nu = u.length := ⟨_, rfl⟩
  obtain ⟨nab, hnab⟩ : ∃ nab, nab = ab.length := ⟨_, rfl⟩
  obtain ⟨ns, hns⟩ : ∃ ns, ns = s.length := ⟨_, rfl⟩
  obtain ⟨nbc, hnbc⟩ : ∃ nbc, nbc = bc.length := ⟨_, rfl⟩
  obtain ⟨nac, hnac⟩ : ∃ nac, nac = ac.length := ⟨_, rfl⟩
  obtain ⟨na, hna⟩ : ∃ na, na = a.length := ⟨_, rfl⟩
  obtain ⟨nb, hnb⟩ : ∃ nb, nb = b.length := ⟨_, rfl⟩
  obtain ⟨nc, hnc⟩ : ∃ nc, nc = c.length := ⟨_, rfl⟩
  simp only [← hnx, ← hnu, ← hnab, ← hns, ← hnbc, ← hnac, ← hna, ← hnb, ← hnc] at cAB cBA cS cZ cSd2 cSd1 cL1 cL2 lab ls ha hb mc hz hz2 hlc k1 cBC cAC k2 k3 cX cY cU cV cL3 cL4 lx lu ⊢
  have HNx := hid hnx
  have HNu := hid hnu
  have HNab := hid hnab
  have HNs := hid hns
  have HNbc := hid hnbc
  have HNac := hid hnac
  clear hnx hnu hnab hns hnbc hnac hna hnb hnc
  have z1 : (0 : Int) < (na : Int) := by omega
  have z2 : decide ((0 : Int) < (nb : Int)) = false := by simp; omega
  have z2b : decide (0 < nb) = false := by simp; omega
  have z2c : ¬ 0 < nb := by omega
  clear hz hz2
  have k1' : decide ((13 : Int) < (nab : Int)) = false := by simp; omega
  have k2' : decide ((13 : Int) < (nbc : Int)) = false := by simp; omega
  have k3' : decide ((13 : Int) < (nac : Int)) = false := by simp; omega
  go_enter Try.func4, Try.ntmps4
  go_wp2_with (first
    | (go_at_call 13; refine (cAB _ RA.out RB.out).mono ?_; rintro e w1 ⟨⟨o1, c1, rfl, hc1, hr1⟩, hB1⟩; replace RA := hid (ib RA.out hB1); replace RB := hid (ib RB.out hB1); replace RC := hid (ib RC.out hB1); replace HB := hid (below_trans HB.out hB1); have RAB := hid hr1; clear hr1 hB1 cAB; rw [← HNab.out])
    | (go_at_call 14; refine (cSd2 _ RA.out RB.out).mono ?_; rintro e ws ⟨rfl, hw⟩; subst ws; clear cSd2; replace RA := hid (ir RA.out (.cells #[.slice ao na ca, .slice bo nb cb] 23)); replace RB := hid (ir RB.out (.cells #[.slice ao na ca, .slice bo nb cb] 23)); replace RC := hid (ir RC.out (.cells #[.slice ao na ca, .slice bo nb cb] 23)); replace RAB := hid (ir RAB.out (.cells #[.slice ao na ca, .slice bo nb cb] 23)); replace HB := hid (al HB.out (.cells #[.slice ao na ca, .slice bo nb cb] 23)))
    | (go_at_call 13; refine (cBA _ RA.out RB.out).mono ?_; rintro e w2 ⟨⟨o2, c2, rfl, hc2, hr2⟩, hB2⟩; replace RA := hid (ib RA.out hB2); replace RB := hid (ib RB.out hB2); replace RC := hid (ib RC.out hB2); replace RAB := hid (ib RAB.out hB2); replace HB := hid (below_trans HB.out hB2); have RBA := hid hr2; clear hr2 hB2 cBA; rw [← HNab.out])
    | (go_at_call 15; refine (cS _ RA.out RB.out).mono ?_; rintro e w3 ⟨⟨o3, c3, rfl, hc3, hr3⟩, hB3⟩; replace RA := hid (ib RA.out hB3); replace RB := hid (ib RB.out hB3); replace RC := hid (ib RC.out hB3); replace RAB := hid (ib RAB.out hB3); replace RBA := hid (ib RBA.out hB3); replace HB := hid (below_trans HB.out hB3); have RS := hid hr3; clear hr3 hB3 cS; rw [← HNs.out])
    | (go_at_call 15; refine (cZ _ RA.out RB.out).mono ?_; rintro e w4 ⟨⟨o4, c4, rfl, hc4, hr4⟩, hB4⟩; replace RA := hid (ib RA.out hB4); replace RB := hid (ib RB.out hB4); replace RC := hid (ib RC.out hB4); replace RAB := hid (ib RAB.out hB4); replace RBA := hid (ib RBA.out hB4); replace RS := hid (ib RS.out hB4); replace HB := hid (below_trans HB.out hB4); have RZ := hid hr4; clear hr4 hB4 cZ; rw [← HNs.out])
    | (go_at_call 11; refine (cL1 _ _ _ _ _ RAB.out RBA.out).mono ?_; rintro e w5 ⟨rfl, hB5⟩; replace RA := hid (ib RA.out hB5); replace RB := hid (ib RB.out hB5); replace RC := hid (ib RC.out hB5); replace RAB := hid (ib RAB.out hB5); replace RS := hid (ib RS.out hB5); replace RZ := hid (ib RZ.out hB5); replace HB := hid (below_trans HB.out hB5); clear cL1 hB5)
    | (go_at_call 11; refine (cL2 _ _ _ _ _ RS.out RZ.out).mono ?_; rintro e w6 ⟨rfl, hB6⟩; replace RA := hid (ib RA.out hB6); replace RB := hid (ib RB.out hB6); replace RC := hid (ib RC.out hB6); replace RAB := hid (ib RAB.out hB6); replace RS := hid (ib RS.out hB6); replace HB := hid (below_trans HB.out hB6); clear cL2 hB6)
    | (go_at_call 14; refine (cSd1 _ RC.out).mono ?_; rintro e ws ⟨rfl, hw⟩; subst ws; clear cSd1; replace RA := hid (ir RA.out (.cells #[.slice co_ nc cc] 23)); replace RB := hid (ir RB.out (.cells #[.slice co_ nc cc] 23)); replace RC := hid (ir RC.out (.cells #[.slice co_ nc cc] 23)); replace RAB := hid (ir RAB.out (.cells #[.slice co_ nc cc] 23)); replace RS := hid (ir RS.out (.cells #[.slice co_ nc cc] 23)); replace HB := hid (al HB.out (.cells #[.slice co_ nc cc] 23)))
    | (go_at_call 13; refine (cBC _ RB.out RC.out).mono ?_; rintro e w7 ⟨⟨o7, c7, rfl, hc7, hr7⟩, hB7⟩; replace RA := hid (ib RA.out hB7); replace RB := hid (ib RB.out hB7); replace RC := hid (ib RC.out hB7); replace RAB := hid (ib RAB.out hB7); replace RS := hid (ib RS.out hB7); replace HB := hid (below_trans HB.out hB7); have RBC := hid hr7; clear hr7 hB7 cBC; rw [← HNbc.out])
    | (go_at_call 13; refine (cAC _ RA.out RC.out).mono ?_; rintro e w8 ⟨⟨o8, c8, rfl, hc8, hr8⟩, hB8⟩; replace RA := hid (ib RA.out hB8); replace RB := hid (ib RB.out hB8); replace RC := hid (ib RC.out hB8); replace RAB := hid (ib RAB.out hB8); replace RS := hid (ib RS.out hB8); replace RBC := hid (ib RBC.out hB8); replace HB := hid (below_trans HB.out hB8); have RAC := hid hr8; clear hr8 hB8 cAC; rw [← HNac.out])
    | (go_at_call 13; refine (cX _ _ _ RAB.out RC.out).mono ?_; rintro e w9 ⟨⟨o9, c9, rfl, hc9, hr9⟩, hB9⟩; replace RA := hid (ib RA.out hB9); replace RB := hid (ib RB.out hB9); replace RC := hid (ib RC.out hB9); replace RAB := hid (ib RAB.out hB9); replace RS := hid (ib RS.out hB9); replace RBC := hid (ib RBC.out hB9); replace RAC := hid (ib RAC.out hB9); replace HB := hid (below_trans HB.out hB9); have RX := hid hr9; clear hr9 hB9 cX; rw [← HNx.out])
    | (go_at_call 13; refine (cY _ _ _ RA.out RBC.out).mono ?_; rintro e w10 ⟨⟨o10, c10, rfl, hc10, hr10⟩, hB10⟩; replace RA := hid (ib RA.out hB10); replace RB := hid (ib RB.out hB10); replace RC := hid (ib RC.out hB10); replace RS := hid (ib RS.out hB10); replace RBC := hid (ib RBC.out hB10); replace RAC := hid (ib RAC.out hB10); replace RX := hid (ib RX.out hB10); replace HB := hid (below_trans HB.out hB10); have RY := hid hr10; clear hr10 hB10 cY; rw [← HNx.out])
    | (go_at_call 13; refine (cU _ _ _ RS.out RC.out).mono ?_; rintro e w11 ⟨⟨o11, c11, rfl, hc11, hr11⟩, hB11⟩; replace RA := hid (ib RA.out hB11); replace RB := hid (ib RB.out hB11); replace RC := hid (ib RC.out hB11); replace RBC := hid (ib RBC.out hB11); replace RAC := hid (ib RAC.out hB11); replace RX := hid (ib RX.out hB11); replace RY := hid (ib RY.out hB11); replace HB := hid (below_trans HB.out hB11); have RU := hid hr11; clear hr11 hB11 cU; rw [← HNu.out])
    | (go_at_call 15; refine (cV _ _ _ _ _ RAC.out RBC.out).mono ?_; rintro e w12 ⟨⟨o12, c12, rfl, hc12, hr12⟩, hB12⟩; replace RA := hid (ib RA.out hB12); replace RB := hid (ib RB.out hB12); replace RC := hid (ib RC.out hB12); replace RX := hid (ib RX.out hB12); replace RY := hid (ib RY.out hB12); replace RU := hid (ib RU.out hB12); replace HB := hid (below_trans HB.out hB12); have RV := hid hr12; clear hr12 hB12 cV; rw [← HNu.out])
    | (go_at_call 11; refine (cL3 _ _ _ _ _ RX.out RY.out).mono ?_; rintro e w13 ⟨rfl, hB13⟩; replace RA := hid (ib RA.out hB13); replace RB := hid (ib RB.out hB13); replace RC := hid (ib RC.out hB13); replace RU := hid (ib RU.out hB13); replace RV := hid (ib RV.out hB13); replace HB := hid (below_trans HB.out hB13); clear cL3 hB13)
    | (go_at_call 11; refine (cL4 _ _ _ _ _ RU.out RV.out).mono ?_; rintro e w14 ⟨rfl, hB14⟩; replace RA := hid (ib RA.out hB14); replace RB := hid (ib RB.out hB14); replace RC := hid (ib RC.out hB14); replace HB := hid (below_trans HB.out hB14); clear cL4 hB14))
  go_ret
  exact ⟨rfl, HB.out⟩

set_option maxRecDepth 100000 in
set_option maxHeartbeats 2000000 in
theorem r_C_bad (P : Nat) (hP : Pr P) (hP2 : P ≤ 251) (ao bo co_ : Option Addr) (ca cb cc : Nat) (a b c : List Int) (ha : a.length ≤ 13) (hb : b.length ≤ 13) (hca : Cn P a) (hcb : Cn P b) (mc : c.length ≤ 9223372036854775807) (w : World) (ra : IRow w ao a) (rb : IRow w bo b) (rc : IRow w co_ c) (hz : a.length ≠ 0) (hz2 : b.length ≠ 0) (cd : Int) (hc : PC (P : Int) c cd) (h0 : cd ≠ 0)  :
    Calls Try.prog 4 #[.int .i64 (P : Int), .slice ao a.length ca, .slice bo b.length cb, .slice co_ c.length cc] w fun e w' => e = .returned (.bool true) ∧ Below w.heap.size w w' := by
  have hp1 : 1 ≤ P := by have := hP.1; omega
  have cAB := fun w' (r1 : IRow w' ao a) (r2 : IRow w' bo b) => Mul_yes P hP hP2 ao bo ca cb a b ha hb hca hcb w' r1 r2
  have cBA := fun w' (r1 : IRow w' ao a) (r2 : IRow w' bo b) => Mul_yes P hP hP2 bo ao cb ca b a hb ha hcb hca w' r2 r1
  have cS := fun w' (r1 : IRow w' ao a) (r2 : IRow w' bo b) => Add_yes P hP hP2 ao bo ca cb a b ha hb hca hcb w' r1 r2
  have cZ := fun w' (r1 : IRow w' ao a) (r2 : IRow w' bo b) => Add_yes P hP hP2 bo ao cb ca b a hb ha hcb hca w' r2 r1
  have cSd2 := fun w' (r1 : IRow w' ao a) (r2 : IRow w' bo b) => sound2 (P : Int) ao bo ca cb a b (by omega) (by omega) 0 0 (PC.of hP hP2 ha hca) (PC.of hP hP2 hb hcb) true (by simp [cd2]) w' r1 r2
  rw [nm_eq hp1 (Eqv.q (pmul_comm b a))] at cBA
  rw [nm_eq hp1 (Eqv.q (padd_comm b a))] at cZ
  have lab := mul_nm_len hp1 a b
  have ls : (nm P (padd a b)).length ≤ 13 := by have := nm_length P (padd a b); rw [padd_length] at this; omega
  have cL1 := fun w' (o1 o2 : Option Addr) (c1 c2 : Nat) (h1 : IRow w' o1 (nm P (pmul a b))) (h2 : IRow w' o2 (nm P (pmul a b))) => Longs_same o1 o2 c1 c2 (nm P (pmul a b)) (by omega) w' h1 h2
  have cL2 := fun w' (o1 o2 : Option Addr) (c1 c2 : Nat) (h1 : IRow w' o1 (nm P (padd a b))) (h2 : IRow w' o2 (nm P (padd a b))) => Longs_same o1 o2 c1 c2 (nm P (padd a b)) (by omega) w' h1 h2
  have el : (nm P (pmul a b)).length = a.length + b.length - 1 := mul_len hP hca hcb (fun e => hz (by rw [e]; rfl)) (fun e => hz2 (by rw [e]; rfl))
  have cSd1 := fun w' (r : IRow w' co_ c) => sound1 (P : Int) co_ cc c mc cd hc false (by simp [h0]) w' r
  have RA := hid ra
  have RB := hid rb
  have RC := hid rc
  have HB := hid (Below.refl w.heap.size w)
  clear hca hcb ra rb rc hc
  generalize nm P (pmul a b) = ab at *
  generalize nm P (padd a b) = s at *
  obtain ⟨nab, hnab⟩ : ∃ nab, nab = ab.length := ⟨_, rfl⟩
  obtain ⟨ns, hns⟩ : ∃ ns, ns = s.length := ⟨_, rfl⟩
  obtain ⟨na, hna⟩ : ∃ na, na = a.length := ⟨_, rfl⟩
  obtain ⟨nb, hnb⟩ : ∃ nb, nb = b.length := ⟨_, rfl⟩
  obtain ⟨nc, hnc⟩ : ∃ nc, nc = c.length := ⟨_, rfl⟩
  simp only [← hnab, ← hns, ← hna, ← hnb, ← hnc] at cAB cBA cS cZ cSd2 cSd1 cL1 cL2 lab ls ha hb mc hz hz2 el ⊢
  have HNab := hid hnab
  have HNs := hid hns
  clear hnab hns hna hnb hnc
  have z1 : (0 : Int) < (na : Int) := by omega
  have z2 : (0 : Int) < (nb : Int) := by omega
  have z3 : ((nab : Int) != (na : Int) + (nb : Int) - 1) = false := by simp; omega
  clear hz hz2 el
  go_enter Try.func4, Try.ntmps4
  go_wp2_with (first
    | (go_at_call 13; refine (cAB _ RA.out RB.out).mono ?_; rintro e w1 ⟨⟨o1, c1, rfl, hc1, hr1⟩, hB1⟩; replace RA := hid (ib RA.out hB1); replace RB := hid (ib RB.out hB1); replace RC := hid (ib RC.out hB1); replace HB := hid (below_trans HB.out hB1); have RAB := hid hr1; clear hr1 hB1 cAB; rw [← HNab.out])
    | (go_at_call 14; refine (cSd2 _ RA.out RB.out).mono ?_; rintro e ws ⟨rfl, hw⟩; subst ws; clear cSd2; replace RA := hid (ir RA.out (.cells #[.slice ao na ca, .slice bo nb cb] 23)); replace RB := hid (ir RB.out (.cells #[.slice ao na ca, .slice bo nb cb] 23)); replace RC := hid (ir RC.out (.cells #[.slice ao na ca, .slice bo nb cb] 23)); replace RAB := hid (ir RAB.out (.cells #[.slice ao na ca, .slice bo nb cb] 23)); replace HB := hid (al HB.out (.cells #[.slice ao na ca, .slice bo nb cb] 23)))
    | (go_at_call 13; refine (cBA _ RA.out RB.out).mono ?_; rintro e w2 ⟨⟨o2, c2, rfl, hc2, hr2⟩, hB2⟩; replace RA := hid (ib RA.out hB2); replace RB := hid (ib RB.out hB2); replace RC := hid (ib RC.out hB2); replace RAB := hid (ib RAB.out hB2); replace HB := hid (below_trans HB.out hB2); have RBA := hid hr2; clear hr2 hB2 cBA; rw [← HNab.out])
    | (go_at_call 15; refine (cS _ RA.out RB.out).mono ?_; rintro e w3 ⟨⟨o3, c3, rfl, hc3, hr3⟩, hB3⟩; replace RA := hid (ib RA.out hB3); replace RB := hid (ib RB.out hB3); replace RC := hid (ib RC.out hB3); replace RAB := hid (ib RAB.out hB3); replace RBA := hid (ib RBA.out hB3); replace HB := hid (below_trans HB.out hB3); have RS := hid hr3; clear hr3 hB3 cS; rw [← HNs.out])
    | (go_at_call 15; refine (cZ _ RA.out RB.out).mono ?_; rintro e w4 ⟨⟨o4, c4, rfl, hc4, hr4⟩, hB4⟩; replace RA := hid (ib RA.out hB4); replace RB := hid (ib RB.out hB4); replace RC := hid (ib RC.out hB4); replace RAB := hid (ib RAB.out hB4); replace RBA := hid (ib RBA.out hB4); replace RS := hid (ib RS.out hB4); replace HB := hid (below_trans HB.out hB4); have RZ := hid hr4; clear hr4 hB4 cZ; rw [← HNs.out])
    | (go_at_call 11; refine (cL1 _ _ _ _ _ RAB.out RBA.out).mono ?_; rintro e w5 ⟨rfl, hB5⟩; replace RA := hid (ib RA.out hB5); replace RB := hid (ib RB.out hB5); replace RC := hid (ib RC.out hB5); replace RAB := hid (ib RAB.out hB5); replace RS := hid (ib RS.out hB5); replace RZ := hid (ib RZ.out hB5); replace HB := hid (below_trans HB.out hB5); clear cL1 hB5)
    | (go_at_call 11; refine (cL2 _ _ _ _ _ RS.out RZ.out).mono ?_; rintro e w6 ⟨rfl, hB6⟩; replace RA := hid (ib RA.out hB6); replace RB := hid (ib RB.out hB6); replace RC := hid (ib RC.out hB6); replace RAB := hid (ib RAB.out hB6); replace RS := hid (ib RS.out hB6); replace HB := hid (below_trans HB.out hB6); clear cL2 hB6)
    | (go_at_call 14; refine (cSd1 _ RC.out).mono ?_; rintro e ws ⟨rfl, hw⟩; subst ws; clear cSd1; replace RA := hid (ir RA.out (.cells #[.slice co_ nc cc] 23)); replace RB := hid (ir RB.out (.cells #[.slice co_ nc cc] 23)); replace RC := hid (ir RC.out (.cells #[.slice co_ nc cc] 23)); replace RAB := hid (ir RAB.out (.cells #[.slice co_ nc cc] 23)); replace RS := hid (ir RS.out (.cells #[.slice co_ nc cc] 23)); replace HB := hid (al HB.out (.cells #[.slice co_ nc cc] 23))))
  go_ret
  exact ⟨rfl, HB.out⟩

set_option maxRecDepth 100000 in
set_option maxHeartbeats 2000000 in
theorem r_C_long (P : Nat) (hP : Pr P) (hP2 : P ≤ 251) (ao bo co_ : Option Addr) (ca cb cc : Nat) (a b c : List Int) (ha : a.length ≤ 13) (hb : b.length ≤ 13) (hca : Cn P a) (hcb : Cn P b) (mc : c.length ≤ 9223372036854775807) (w : World) (ra : IRow w ao a) (rb : IRow w bo b) (rc : IRow w co_ c) (hz : a.length ≠ 0) (hz2 : b.length ≠ 0) (hlc : c.length ≤ 13) (hcc : Cn P c) (k1 : 13 < (nm P (pmul a b)).length) :
    Calls Try.prog 4 #[.int .i64 (P : Int), .slice ao a.length ca, .slice bo b.length cb, .slice co_ c.length cc] w fun e w' => e = .returned (.bool true) ∧ Below w.heap.size w w' := by
  have hp1 : 1 ≤ P := by have := hP.1; omega
  have cAB := fun w' (r1 : IRow w' ao a) (r2 : IRow w' bo b) => Mul_yes P hP hP2 ao bo ca cb a b ha hb hca hcb w' r1 r2
  have cBA := fun w' (r1 : IRow w' ao a) (r2 : IRow w' bo b) => Mul_yes P hP hP2 bo ao cb ca b a hb ha hcb hca w' r2 r1
  have cS := fun w' (r1 : IRow w' ao a) (r2 : IRow w' bo b) => Add_yes P hP hP2 ao bo ca cb a b ha hb hca hcb w' r1 r2
  have cZ := fun w' (r1 : IRow w' ao a) (r2 : IRow w' bo b) => Add_yes P hP hP2 bo ao cb ca b a hb ha hcb hca w' r2 r1
  have cSd2 := fun w' (r1 : IRow w' ao a) (r2 : IRow w' bo b) => sound2 (P : Int) ao bo ca cb a b (by omega) (by omega) 0 0 (PC.of hP hP2 ha hca) (PC.of hP hP2 hb hcb) true (by simp [cd2]) w' r1 r2
  rw [nm_eq hp1 (Eqv.q (pmul_comm b a))] at cBA
  rw [nm_eq hp1 (Eqv.q (padd_comm b a))] at cZ
  have lab := mul_nm_len hp1 a b
  have ls : (nm P (padd a b)).length ≤ 13 := by have := nm_length P (padd a b); rw [padd_length] at this; omega
  have cL1 := fun w' (o1 o2 : Option Addr) (c1 c2 : Nat) (h1 : IRow w' o1 (nm P (pmul a b))) (h2 : IRow w' o2 (nm P (pmul a b))) => Longs_same o1 o2 c1 c2 (nm P (pmul a b)) (by omega) w' h1 h2
  have cL2 := fun w' (o1 o2 : Option Addr) (c1 c2 : Nat) (h1 : IRow w' o1 (nm P (padd a b))) (h2 : IRow w' o2 (nm P (padd a b))) => Longs_same o1 o2 c1 c2 (nm P (padd a b)) (by omega) w' h1 h2
  have el : (nm P (pmul a b)).length = a.length + b.length - 1 := mul_len hP hca hcb (fun e => hz (by rw [e]; rfl)) (fun e => hz2 (by rw [e]; rfl))
  have cSd1 := fun w' (r : IRow w' co_ c) => sound1 (P : Int) co_ cc c mc 0 (PC.of hP hP2 hlc hcc) true (by simp) w' r
  have RA := hid ra
  have RB := hid rb
  have RC := hid rc
  have HB := hid (Below.refl w.heap.size w)
  clear hca hcb ra rb rc hcc
  generalize nm P (pmul a b) = ab at *
  generalize nm P (padd a b) = s at *
  obtain ⟨nab, hnab⟩ : ∃ nab, nab = ab.length := ⟨_, rfl⟩
  obtain ⟨ns, hns⟩ : ∃ ns, ns = s.length := ⟨_, rfl⟩
  obtain ⟨na, hna⟩ : ∃ na, na = a.length := ⟨_, rfl⟩
  obtain ⟨nb, hnb⟩ : ∃ nb, nb = b.length := ⟨_, rfl⟩
  obtain ⟨nc, hnc⟩ : ∃ nc, nc = c.length := ⟨_, rfl⟩
  simp only [← hnab, ← hns, ← hna, ← hnb, ← hnc] at cAB cBA cS cZ cSd2 cSd1 cL1 cL2 lab ls ha hb mc hz hz2 el hlc k1 ⊢
  have HNab := hid hnab
  have HNs := hid hns
  clear hnab hns hna hnb hnc
  have z1 : (0 : Int) < (na : Int) := by omega
  have z2 : (0 : Int) < (nb : Int) := by omega
  have z3 : ((nab : Int) != (na : Int) + (nb : Int) - 1) = false := by simp; omega
  clear hz hz2 el
  have k1' : (13 : Int) < (nab : Int) := by omega
  go_enter Try.func4, Try.ntmps4
  go_wp2_with (first
    | (go_at_call 13; refine (cAB _ RA.out RB.out).mono ?_; rintro e w1 ⟨⟨o1, c1, rfl, hc1, hr1⟩, hB1⟩; replace RA := hid (ib RA.out hB1); replace RB := hid (ib RB.out hB1); replace RC := hid (ib RC.out hB1); replace HB := hid (below_trans HB.out hB1); have RAB := hid hr1; clear hr1 hB1 cAB; rw [← HNab.out])
    | (go_at_call 14; refine (cSd2 _ RA.out RB.out).mono ?_; rintro e ws ⟨rfl, hw⟩; subst ws; clear cSd2; replace RA := hid (ir RA.out (.cells #[.slice ao na ca, .slice bo nb cb] 23)); replace RB := hid (ir RB.out (.cells #[.slice ao na ca, .slice bo nb cb] 23)); replace RC := hid (ir RC.out (.cells #[.slice ao na ca, .slice bo nb cb] 23)); replace RAB := hid (ir RAB.out (.cells #[.slice ao na ca, .slice bo nb cb] 23)); replace HB := hid (al HB.out (.cells #[.slice ao na ca, .slice bo nb cb] 23)))
    | (go_at_call 13; refine (cBA _ RA.out RB.out).mono ?_; rintro e w2 ⟨⟨o2, c2, rfl, hc2, hr2⟩, hB2⟩; replace RA := hid (ib RA.out hB2); replace RB := hid (ib RB.out hB2); replace RC := hid (ib RC.out hB2); replace RAB := hid (ib RAB.out hB2); replace HB := hid (below_trans HB.out hB2); have RBA := hid hr2; clear hr2 hB2 cBA; rw [← HNab.out])
    | (go_at_call 15; refine (cS _ RA.out RB.out).mono ?_; rintro e w3 ⟨⟨o3, c3, rfl, hc3, hr3⟩, hB3⟩; replace RA := hid (ib RA.out hB3); replace RB := hid (ib RB.out hB3); replace RC := hid (ib RC.out hB3); replace RAB := hid (ib RAB.out hB3); replace RBA := hid (ib RBA.out hB3); replace HB := hid (below_trans HB.out hB3); have RS := hid hr3; clear hr3 hB3 cS; rw [← HNs.out])
    | (go_at_call 15; refine (cZ _ RA.out RB.out).mono ?_; rintro e w4 ⟨⟨o4, c4, rfl, hc4, hr4⟩, hB4⟩; replace RA := hid (ib RA.out hB4); replace RB := hid (ib RB.out hB4); replace RC := hid (ib RC.out hB4); replace RAB := hid (ib RAB.out hB4); replace RBA := hid (ib RBA.out hB4); replace RS := hid (ib RS.out hB4); replace HB := hid (below_trans HB.out hB4); have RZ := hid hr4; clear hr4 hB4 cZ; rw [← HNs.out])
    | (go_at_call 11; refine (cL1 _ _ _ _ _ RAB.out RBA.out).mono ?_; rintro e w5 ⟨rfl, hB5⟩; replace RA := hid (ib RA.out hB5); replace RB := hid (ib RB.out hB5); replace RC := hid (ib RC.out hB5); replace RAB := hid (ib RAB.out hB5); replace RS := hid (ib RS.out hB5); replace RZ := hid (ib RZ.out hB5); replace HB := hid (below_trans HB.out hB5); clear cL1 hB5)
    | (go_at_call 11; refine (cL2 _ _ _ _ _ RS.out RZ.out).mono ?_; rintro e w6 ⟨rfl, hB6⟩; replace RA := hid (ib RA.out hB6); replace RB := hid (ib RB.out hB6); replace RC := hid (ib RC.out hB6); replace RAB := hid (ib RAB.out hB6); replace RS := hid (ib RS.out hB6); replace HB := hid (below_trans HB.out hB6); clear cL2 hB6)
    | (go_at_call 14; refine (cSd1 _ RC.out).mono ?_; rintro e ws ⟨rfl, hw⟩; subst ws; clear cSd1; replace RA := hid (ir RA.out (.cells #[.slice co_ nc cc] 23)); replace RB := hid (ir RB.out (.cells #[.slice co_ nc cc] 23)); replace RC := hid (ir RC.out (.cells #[.slice co_ nc cc] 23)); replace RAB := hid (ir RAB.out (.cells #[.slice co_ nc cc] 23)); replace RS := hid (ir RS.out (.cells #[.slice co_ nc cc] 23)); replace HB := hid (al HB.out (.cells #[.slice co_ nc cc] 23))))
  go_ret
  exact ⟨rfl, HB.out⟩

set_option maxRecDepth 100000 in
set_option maxHeartbeats 2000000 in
theorem r_C_bc (P : Nat) (hP : Pr P) (hP2 : P ≤ 251) (ao bo co_ : Option Addr) (ca cb cc : Nat) (a b c : List Int) (ha : a.length ≤ 13) (hb : b.length ≤ 13) (hca : Cn P a) (hcb : Cn P b) (mc : c.length ≤ 9223372036854775807) (w : World) (ra : IRow w ao a) (rb : IRow w bo b) (rc : IRow w co_ c) (hz : a.length ≠ 0) (hz2 : b.length ≠ 0) (hlc : c.length ≤ 13) (hcc : Cn P c) (k1 : (nm P (pmul a b)).length ≤ 13) (k2 : 13 < (nm P (pmul b c)).length) :
    Calls Try.prog 4 #[.int .i64 (P : Int), .slice ao a.length ca, .slice bo b.length cb, .slice co_ c.length cc] w fun e w' => e = .returned (.bool true) ∧ Below w.heap.size w w' := by
  have hp1 : 1 ≤ P := by have := hP.1; omega
  have cAB := fun w' (r1 : IRow w' ao a) (r2 : IRow w' bo b) => Mul_yes P hP hP2 ao bo ca cb a b ha hb hca hcb w' r1 r2
  have cBA := fun w' (r1 : IRow w' ao a) (r2 : IRow w' bo b) => Mul_yes P hP hP2 bo ao cb ca b a hb ha hcb hca w' r2 r1
  have cS := fun w' (r1 : IRow w' ao a) (r2 : IRow w' bo b) => Add_yes P hP hP2 ao bo ca cb a b ha hb hca hcb w' r1 r2
  have cZ := fun w' (r1 : IRow w' ao a) (r2 : IRow w' bo b) => Add_yes P hP hP2 bo ao cb ca b a hb ha hcb hca w' r2 r1
  have cSd2 := fun w' (r1 : IRow w' ao a) (r2 : IRow w' bo b) => sound2 (P : Int) ao bo ca cb a b (by omega) (by omega) 0 0 (PC.of hP hP2 ha hca) (PC.of hP hP2 hb hcb) true (by simp [cd2]) w' r1 r2
  rw [nm_eq hp1 (Eqv.q (pmul_comm b a))] at cBA
  rw [nm_eq hp1 (Eqv.q (padd_comm b a))] at cZ
  have lab := mul_nm_len hp1 a b
  have ls : (nm P (padd a b)).length ≤ 13 := by have := nm_length P (padd a b); rw [padd_length] at this; omega
  have cL1 := fun w' (o1 o2 : Option Addr) (c1 c2 : Nat) (h1 : IRow w' o1 (nm P (pmul a b))) (h2 : IRow w' o2 (nm P (pmul a b))) => Longs_same o1 o2 c1 c2 (nm P (pmul a b)) (by omega) w' h1 h2
  have cL2 := fun w' (o1 o2 : Option Addr) (c1 c2 : Nat) (h1 : IRow w' o1 (nm P (padd a b))) (h2 : IRow w' o2 (nm P (padd a b))) => Longs_same o1 o2 c1 c2 (nm P (padd a b)) (by omega) w' h1 h2
  have el : (nm P (pmul a b)).length = a.length + b.length - 1 := mul_len hP hca hcb (fun e => hz (by rw [e]; rfl)) (fun e => hz2 (by rw [e]; rfl))
  have cSd1 := fun w' (r : IRow w' co_ c) => sound1 (P : Int) co_ cc c mc 0 (PC.of hP hP2 hlc hcc) true (by simp) w' r
  have cBC := fun w' (r1 : IRow w' bo b) (r2 : IRow w' co_ c) => Mul_yes P hP hP2 bo co_ cb cc b c hb hlc hcb hcc w' r1 r2
  have cAC := fun w' (r1 : IRow w' ao a) (r2 : IRow w' co_ c) => Mul_yes P hP hP2 ao co_ ca cc a c ha hlc hca hcc w' r1 r2
  have RA := hid ra
  have RB := hid rb
  have RC := hid rc
  have HB := hid (Below.refl w.heap.size w)
  clear hca hcb ra rb rc hcc
  generalize nm P (pmul a b) = ab at *
  generalize nm P (padd a b) = s at *
  generalize nm P (pmul b c) = bc at *
  generalize nm P (pmul a c) = ac at *
  obtain ⟨nab, hnab⟩ : ∃ nab, nab = ab.length := ⟨_, rfl⟩
  obtain ⟨ns, hns⟩ : ∃ ns, ns = s.length := ⟨_, rfl⟩
  obtain ⟨nbc, hnbc⟩ : ∃ nbc, nbc = bc.length := ⟨_, rfl⟩
  obtain ⟨nac, hnac⟩ : ∃ nac, nac = ac.length := ⟨_, rfl⟩
  obtain ⟨na, hna⟩ : ∃ na, na = a.length := ⟨_, rfl⟩
  obtain ⟨nb, hnb⟩ : ∃ nb, nb = b.length := ⟨_, rfl⟩
  obtain ⟨nc, hnc⟩ : ∃ nc, nc = c.length := ⟨_, rfl⟩
  simp only [← hnab, ← hns, ← hnbc, ← hna, ← hnb, ← hnc] at cAB cBA cS cZ cSd2 cSd1 cL1 cL2 lab ls ha hb mc hz hz2 el hlc k1 cBC cAC k2 ⊢
  have HNab := hid hnab
  have HNs := hid hns
  have HNbc := hid hnbc
  have HNac := hid hnac
  clear hnab hns hnbc hnac hna hnb hnc
  have z1 : (0 : Int) < (na : Int) := by omega
  have z2 : (0 : Int) < (nb : Int) := by omega
  have z3 : ((nab : Int) != (na : Int) + (nb : Int) - 1) = false := by simp; omega
  clear hz hz2 el
  have k1' : decide ((13 : Int) < (nab : Int)) = false := by simp; omega
  have k2' : (13 : Int) < (nbc : Int) := by omega
  go_enter Try.func4, Try.ntmps4
  go_wp2_with (first
    | (go_at_call 13; refine (cAB _ RA.out RB.out).mono ?_; rintro e w1 ⟨⟨o1, c1, rfl, hc1, hr1⟩, hB1⟩; replace RA := hid (ib RA.out hB1); replace RB := hid (ib RB.out hB1); replace RC := hid (ib RC.out hB1); replace HB := hid (below_trans HB.out hB1); have RAB := hid hr1; clear hr1 hB1 cAB; rw [← HNab.out])
    | (go_at_call 14; refine (cSd2 _ RA.out RB.out).mono ?_; rintro e ws ⟨rfl, hw⟩; subst ws; clear cSd2; replace RA := hid (ir RA.out (.cells #[.slice ao na ca, .slice bo nb cb] 23)); replace RB := hid (ir RB.out (.cells #[.slice ao na ca, .slice bo nb cb] 23)); replace RC := hid (ir RC.out (.cells #[.slice ao na ca, .slice bo nb cb] 23)); replace RAB := hid (ir RAB.out (.cells #[.slice ao na ca, .slice bo nb cb] 23)); replace HB := hid (al HB.out (.cells #[.slice ao na ca, .slice bo nb cb] 23)))
    | (go_at_call 13; refine (cBA _ RA.out RB.out).mono ?_; rintro e w2 ⟨⟨o2, c2, rfl, hc2, hr2⟩, hB2⟩; replace RA := hid (ib RA.out hB2); replace RB := hid (ib RB.out hB2); replace RC := hid (ib RC.out hB2); replace RAB := hid (ib RAB.out hB2); replace HB := hid (below_trans HB.out hB2); have RBA := hid hr2; clear hr2 hB2 cBA; rw [← HNab.out])
    | (go_at_call 15; refine (cS _ RA.out RB.out).mono ?_; rintro e w3 ⟨⟨o3, c3, rfl, hc3, hr3⟩, hB3⟩; replace RA := hid (ib RA.out hB3); replace RB := hid (ib RB.out hB3); replace RC := hid (ib RC.out hB3); replace RAB := hid (ib RAB.out hB3); replace RBA := hid (ib RBA.out hB3); replace HB := hid (below_trans HB.out hB3); have RS := hid hr3; clear hr3 hB3 cS; rw [← HNs.out])
    | (go_at_call 15; refine (cZ _ RA.out RB.out).mono ?_; rintro e w4 ⟨⟨o4, c4, rfl, hc4, hr4⟩, hB4⟩; replace RA := hid (ib RA.out hB4); replace RB := hid (ib RB.out hB4); replace RC := hid (ib RC.out hB4); replace RAB := hid (ib RAB.out hB4); replace RBA := hid (ib RBA.out hB4); replace RS := hid (ib RS.out hB4); replace HB := hid (below_trans HB.out hB4); have RZ := hid hr4; clear hr4 hB4 cZ; rw [← HNs.out])
    | (go_at_call 11; refine (cL1 _ _ _ _ _ RAB.out RBA.out).mono ?_; rintro e w5 ⟨rfl, hB5⟩; replace RA := hid (ib RA.out hB5); replace RB := hid (ib RB.out hB5); replace RC := hid (ib RC.out hB5); replace RAB := hid (ib RAB.out hB5); replace RS := hid (ib RS.out hB5); replace RZ := hid (ib RZ.out hB5); replace HB := hid (below_trans HB.out hB5); clear cL1 hB5)
    | (go_at_call 11; refine (cL2 _ _ _ _ _ RS.out RZ.out).mono ?_; rintro e w6 ⟨rfl, hB6⟩; replace RA := hid (ib RA.out hB6); replace RB := hid (ib RB.out hB6); replace RC := hid (ib RC.out hB6); replace RAB := hid (ib RAB.out hB6); replace RS := hid (ib RS.out hB6); replace HB := hid (below_trans HB.out hB6); clear cL2 hB6)
    | (go_at_call 14; refine (cSd1 _ RC.out).mono ?_; rintro e ws ⟨rfl, hw⟩; subst ws; clear cSd1; replace RA := hid (ir RA.out (.cells #[.slice co_ nc cc] 23)); replace RB := hid (ir RB.out (.cells #[.slice co_ nc cc] 23)); replace RC := hid (ir RC.out (.cells #[.slice co_ nc cc] 23)); replace RAB := hid (ir RAB.out (.cells #[.slice co_ nc cc] 23)); replace RS := hid (ir RS.out (.cells #[.slice co_ nc cc] 23)); replace HB := hid (al HB.out (.cells #[.slice co_ nc cc] 23)))
    | (go_at_call 13; refine (cBC _ RB.out RC.out).mono ?_; rintro e w7 ⟨⟨o7, c7, rfl, hc7, hr7⟩, hB7⟩; replace RA := hid (ib RA.out hB7); replace RB := hid (ib RB.out hB7); replace RC := hid (ib RC.out hB7); replace RAB := hid (ib RAB.out hB7); replace RS := hid (ib RS.out hB7); replace HB := hid (below_trans HB.out hB7); have RBC := hid hr7; clear hr7 hB7 cBC; rw [← HNbc.out])
    | (go_at_call 13; refine (cAC _ RA.out RC.out).mono ?_; rintro e w8 ⟨⟨o8, c8, rfl, hc8, hr8⟩, hB8⟩; replace RA := hid (ib RA.out hB8); replace RB := hid (ib RB.out hB8); replace RC := hid (ib RC.out hB8); replace RAB := hid (ib RAB.out hB8); replace RS := hid (ib RS.out hB8); replace RBC := hid (ib RBC.out hB8); replace HB := hid (below_trans HB.out hB8); have RAC := hid hr8; clear hr8 hB8 cAC; rw [← HNac.out]))
  go_ret
  exact ⟨rfl, HB.out⟩

set_option maxRecDepth 100000 in
set_option maxHeartbeats 2000000 in
theorem r_C_ac (P : Nat) (hP : Pr P) (hP2 : P ≤ 251) (ao bo co_ : Option Addr) (ca cb cc : Nat) (a b c : List Int) (ha : a.length ≤ 13) (hb : b.length ≤ 13) (hca : Cn P a) (hcb : Cn P b) (mc : c.length ≤ 9223372036854775807) (w : World) (ra : IRow w ao a) (rb : IRow w bo b) (rc : IRow w co_ c) (hz : a.length ≠ 0) (hz2 : b.length ≠ 0) (hlc : c.length ≤ 13) (hcc : Cn P c) (k1 : (nm P (pmul a b)).length ≤ 13) (k2 : (nm P (pmul b c)).length ≤ 13) (k3 : 13 < (nm P (pmul a c)).length) :
    Calls Try.prog 4 #[.int .i64 (P : Int), .slice ao a.length ca, .slice bo b.length cb, .slice co_ c.length cc] w fun e w' => e = .returned (.bool true) ∧ Below w.heap.size w w' := by
  have hp1 : 1 ≤ P := by have := hP.1; omega
  have cAB := fun w' (r1 : IRow w' ao a) (r2 : IRow w' bo b) => Mul_yes P hP hP2 ao bo ca cb a b ha hb hca hcb w' r1 r2
  have cBA := fun w' (r1 : IRow w' ao a) (r2 : IRow w' bo b) => Mul_yes P hP hP2 bo ao cb ca b a hb ha hcb hca w' r2 r1
  have cS := fun w' (r1 : IRow w' ao a) (r2 : IRow w' bo b) => Add_yes P hP hP2 ao bo ca cb a b ha hb hca hcb w' r1 r2
  have cZ := fun w' (r1 : IRow w' ao a) (r2 : IRow w' bo b) => Add_yes P hP hP2 bo ao cb ca b a hb ha hcb hca w' r2 r1
  have cSd2 := fun w' (r1 : IRow w' ao a) (r2 : IRow w' bo b) => sound2 (P : Int) ao bo ca cb a b (by omega) (by omega) 0 0 (PC.of hP hP2 ha hca) (PC.of hP hP2 hb hcb) true (by simp [cd2]) w' r1 r2
  rw [nm_eq hp1 (Eqv.q (pmul_comm b a))] at cBA
  rw [nm_eq hp1 (Eqv.q (padd_comm b a))] at cZ
  have lab := mul_nm_len hp1 a b
  have ls : (nm P (padd a b)).length ≤ 13 := by have := nm_length P (padd a b); rw [padd_length] at this; omega
  have cL1 := fun w' (o1 o2 : Option Addr) (c1 c2 : Nat) (h1 : IRow w' o1 (nm P (pmul a b))) (h2 : IRow w' o2 (nm P (pmul a b))) => Longs_same o1 o2 c1 c2 (nm P (pmul a b)) (by omega) w' h1 h2
  have cL2 := fun w' (o1 o2 : Option Addr) (c1 c2 : Nat) (h1 : IRow w' o1 (nm P (padd a b))) (h2 : IRow w' o2 (nm P (padd a b))) => Longs_same o1 o2 c1 c2 (nm P (padd a b)) (by omega) w' h1 h2
  have el : (nm P (pmul a b)).length = a.length + b.length - 1 := mul_len hP hca hcb (fun e => hz (by rw [e]; rfl)) (fun e => hz2 (by rw [e]; rfl))
  have cSd1 := fun w' (r : IRow w' co_ c) => sound1 (P : Int) co_ cc c mc 0 (PC.of hP hP2 hlc hcc) true (by simp) w' r
  have cBC := fun w' (r1 : IRow w' bo b) (r2 : IRow w' co_ c) => Mul_yes P hP hP2 bo co_ cb cc b c hb hlc hcb hcc w' r1 r2
  have cAC := fun w' (r1 : IRow w' ao a) (r2 : IRow w' co_ c) => Mul_yes P hP hP2 ao co_ ca cc a c ha hlc hca hcc w' r1 r2
  have RA := hid ra
  have RB := hid rb
  have RC := hid rc
  have HB := hid (Below.refl w.heap.size w)
  clear hca hcb ra rb rc hcc
  generalize nm P (pmul a b) = ab at *
  generalize nm P (padd a b) = s at *
  generalize nm P (pmul b c) = bc at *
  generalize nm P (pmul a c) = ac at *
  obtain ⟨nab, hnab⟩ : ∃ nab, nab = ab.length := ⟨_, rfl⟩
  obtain ⟨ns, hns⟩ : ∃ ns, ns = s.length := ⟨_, rfl⟩
  obtain ⟨nbc, hnbc⟩ : ∃ nbc, nbc = bc.length := ⟨_, rfl⟩
  obtain ⟨nac, hnac⟩ : ∃ nac, nac = ac.length := ⟨_, rfl⟩
  obtain ⟨na, hna⟩ : ∃ na, na = a.length := ⟨_, rfl⟩
  obtain ⟨nb, hnb⟩ : ∃ nb, nb = b.length := ⟨_, rfl⟩
  obtain ⟨nc, hnc⟩ : ∃ nc, nc = c.length := ⟨_, rfl⟩
  simp only [← hnab, ← hns, ← hnbc, ← hnac, ← hna, ← hnb, ← hnc] at cAB cBA cS cZ cSd2 cSd1 cL1 cL2 lab ls ha hb mc hz hz2 el hlc k1 cBC cAC k2 k3 ⊢
  have HNab := hid hnab
  have HNs := hid hns
  have HNbc := hid hnbc
  have HNac := hid hnac
  clear hnab hns hnbc hnac hna hnb hnc
  have z1 : (0 : Int) < (na : Int) := by omega
  have z2 : (0 : Int) < (nb : Int) := by omega
  have z3 : ((nab : Int) != (na : Int) + (nb : Int) - 1) = false := by simp; omega
  clear hz hz2 el
  have k1' : decide ((13 : Int) < (nab : Int)) = false := by simp; omega
  have k2' : decide ((13 : Int) < (nbc : Int)) = false := by simp; omega
  have k3' : (13 : Int) < (nac : Int) := by omega
  go_enter Try.func4, Try.ntmps4
  go_wp2_with (first
    | (go_at_call 13; refine (cAB _ RA.out RB.out).mono ?_; rintro e w1 ⟨⟨o1, c1, rfl, hc1, hr1⟩, hB1⟩; replace RA := hid (ib RA.out hB1); replace RB := hid (ib RB.out hB1); replace RC := hid (ib RC.out hB1); replace HB := hid (below_trans HB.out hB1); have RAB := hid hr1; clear hr1 hB1 cAB; rw [← HNab.out])
    | (go_at_call 14; refine (cSd2 _ RA.out RB.out).mono ?_; rintro e ws ⟨rfl, hw⟩; subst ws; clear cSd2; replace RA := hid (ir RA.out (.cells #[.slice ao na ca, .slice bo nb cb] 23)); replace RB := hid (ir RB.out (.cells #[.slice ao na ca, .slice bo nb cb] 23)); replace RC := hid (ir RC.out (.cells #[.slice ao na ca, .slice bo nb cb] 23)); replace RAB := hid (ir RAB.out (.cells #[.slice ao na ca, .slice bo nb cb] 23)); replace HB := hid (al HB.out (.cells #[.slice ao na ca, .slice bo nb cb] 23)))
    | (go_at_call 13; refine (cBA _ RA.out RB.out).mono ?_; rintro e w2 ⟨⟨o2, c2, rfl, hc2, hr2⟩, hB2⟩; replace RA := hid (ib RA.out hB2); replace RB := hid (ib RB.out hB2); replace RC := hid (ib RC.out hB2); replace RAB := hid (ib RAB.out hB2); replace HB := hid (below_trans HB.out hB2); have RBA := hid hr2; clear hr2 hB2 cBA; rw [← HNab.out])
    | (go_at_call 15; refine (cS _ RA.out RB.out).mono ?_; rintro e w3 ⟨⟨o3, c3, rfl, hc3, hr3⟩, hB3⟩; replace RA := hid (ib RA.out hB3); replace RB := hid (ib RB.out hB3); replace RC := hid (ib RC.out hB3); replace RAB := hid (ib RAB.out hB3); replace RBA := hid (ib RBA.out hB3); replace HB := hid (below_trans HB.out hB3); have RS := hid hr3; clear hr3 hB3 cS; rw [← HNs.out])
    | (go_at_call 15; refine (cZ _ RA.out RB.out).mono ?_; rintro e w4 ⟨⟨o4, c4, rfl, hc4, hr4⟩, hB4⟩; replace RA := hid (ib RA.out hB4); replace RB := hid (ib RB.out hB4); replace RC := hid (ib RC.out hB4); replace RAB := hid (ib RAB.out hB4); replace RBA := hid (ib RBA.out hB4); replace RS := hid (ib RS.out hB4); replace HB := hid (below_trans HB.out hB4); have RZ := hid hr4; clear hr4 hB4 cZ; rw [← HNs.out])
    | (go_at_call 11; refine (cL1 _ _ _ _ _ RAB.out RBA.out).mono ?_; rintro e w5 ⟨rfl, hB5⟩; replace RA := hid (ib RA.out hB5); replace RB := hid (ib RB.out hB5); replace RC := hid (ib RC.out hB5); replace RAB := hid (ib RAB.out hB5); replace RS := hid (ib RS.out hB5); replace RZ := hid (ib RZ.out hB5); replace HB := hid (below_trans HB.out hB5); clear cL1 hB5)
    | (go_at_call 11; refine (cL2 _ _ _ _ _ RS.out RZ.out).mono ?_; rintro e w6 ⟨rfl, hB6⟩; replace RA := hid (ib RA.out hB6); replace RB := hid (ib RB.out hB6); replace RC := hid (ib RC.out hB6); replace RAB := hid (ib RAB.out hB6); replace RS := hid (ib RS.out hB6); replace HB := hid (below_trans HB.out hB6); clear cL2 hB6)
    | (go_at_call 14; refine (cSd1 _ RC.out).mono ?_; rintro e ws ⟨rfl, hw⟩; subst ws; clear cSd1; replace RA := hid (ir RA.out (.cells #[.slice co_ nc cc] 23)); replace RB := hid (ir RB.out (.cells #[.slice co_ nc cc] 23)); replace RC := hid (ir RC.out (.cells #[.slice co_ nc cc] 23)); replace RAB := hid (ir RAB.out (.cells #[.slice co_ nc cc] 23)); replace RS := hid (ir RS.out (.cells #[.slice co_ nc cc] 23)); replace HB := hid (al HB.out (.cells #[.slice co_ nc cc] 23)))
    | (go_at_call 13; refine (cBC _ RB.out RC.out).mono ?_; rintro e w7 ⟨⟨o7, c7, rfl, hc7, hr7⟩, hB7⟩; replace RA := hid (ib RA.out hB7); replace RB := hid (ib RB.out hB7); replace RC := hid (ib RC.out hB7); replace RAB := hid (ib RAB.out hB7); replace RS := hid (ib RS.out hB7); replace HB := hid (below_trans HB.out hB7); have RBC := hid hr7; clear hr7 hB7 cBC; rw [← HNbc.out])
    | (go_at_call 13; refine (cAC _ RA.out RC.out).mono ?_; rintro e w8 ⟨⟨o8, c8, rfl, hc8, hr8⟩, hB8⟩; replace RA := hid (ib RA.out hB8); replace RB := hid (ib RB.out hB8); replace RC := hid (ib RC.out hB8); replace RAB := hid (ib RAB.out hB8); replace RS := hid (ib RS.out hB8); replace RBC := hid (ib RBC.out hB8); replace HB := hid (below_trans HB.out hB8); have RAC := hid hr8; clear hr8 hB8 cAC; rw [← HNac.out]))
  go_ret
  exact ⟨rfl, HB.out⟩

set_option maxRecDepth 100000 in
set_option maxHeartbeats 2000000 in
theorem r_C_end (P : Nat) (hP : Pr P) (hP2 : P ≤ 251) (ao bo co_ : Option Addr) (ca cb cc : Nat) (a b c : List Int) (ha : a.length ≤ 13) (hb : b.length ≤ 13) (hca : Cn P a) (hcb : Cn P b) (mc : c.length ≤ 9223372036854775807) (w : World) (ra : IRow w ao a) (rb : IRow w bo b) (rc : IRow w co_ c) (hz : a.length ≠ 0) (hz2 : b.length ≠ 0) (hlc : c.length ≤ 13) (hcc : Cn P c) (k1 : (nm P (pmul a b)).length ≤ 13) (k2 : (nm P (pmul b c)).length ≤ 13) (k3 : (nm P (pmul a c)).length ≤ 13) :
    Calls Try.prog 4 #[.int .i64 (P : Int), .slice ao a.length ca, .slice bo b.length cb, .slice co_ c.length cc] w fun e w' => e = .returned (.bool true) ∧ Below w.heap.size w w' := by
  have hp1 : 1 ≤ P := by have := hP.1; omega
  have cAB := fun w' (r1 : IRow w' ao a) (r2 : IRow w' bo b) => Mul_yes P hP hP2 ao bo ca cb a b ha hb hca hcb w' r1 r2
  have cBA := fun w' (r1 : IRow w' ao a) (r2 : IRow w' bo b) => Mul_yes P hP hP2 bo ao cb ca b a hb ha hcb hca w' r2 r1
  have cS := fun w' (r1 : IRow w' ao a) (r2 : IRow w' bo b) => Add_yes P hP hP2 ao bo ca cb a b ha hb hca hcb w' r1 r2
  have cZ := fun w' (r1 : IRow w' ao a) (r2 : IRow w' bo b) => Add_yes P hP hP2 bo ao cb ca b a hb ha hcb hca w' r2 r1
  have cSd2 := fun w' (r1 : IRow w' ao a) (r2 : IRow w' bo b) => sound2 (P : Int) ao bo ca cb a b (by omega) (by omega) 0 0 (PC.of hP hP2 ha hca) (PC.of hP hP2 hb hcb) true (by simp [cd2]) w' r1 r2
  rw [nm_eq hp1 (Eqv.q (pmul_comm b a))] at cBA
  rw [nm_eq hp1 (Eqv.q (padd_comm b a))] at cZ
  have lab := mul_nm_len hp1 a b
  have ls : (nm P (padd a b)).length ≤ 13 := by have := nm_length P (padd a b); rw [padd_length] at this; omega
  have cL1 := fun w' (o1 o2 : Option Addr) (c1 c2 : Nat) (h1 : IRow w' o1 (nm P (pmul a b))) (h2 : IRow w' o2 (nm P (pmul a b))) => Longs_same o1 o2 c1 c2 (nm P (pmul a b)) (by omega) w' h1 h2
  have cL2 := fun w' (o1 o2 : Option Addr) (c1 c2 : Nat) (h1 : IRow w' o1 (nm P (padd a b))) (h2 : IRow w' o2 (nm P (padd a b))) => Longs_same o1 o2 c1 c2 (nm P (padd a b)) (by omega) w' h1 h2
  have el : (nm P (pmul a b)).length = a.length + b.length - 1 := mul_len hP hca hcb (fun e => hz (by rw [e]; rfl)) (fun e => hz2 (by rw [e]; rfl))
  have cSd1 := fun w' (r : IRow w' co_ c) => sound1 (P : Int) co_ cc c mc 0 (PC.of hP hP2 hlc hcc) true (by simp) w' r
  have cBC := fun w' (r1 : IRow w' bo b) (r2 : IRow w' co_ c) => Mul_yes P hP hP2 bo co_ cb cc b c hb hlc hcb hcc w' r1 r2
  have cAC := fun w' (r1 : IRow w' ao a) (r2 : IRow w' co_ c) => Mul_yes P hP hP2 ao co_ ca cc a c ha hlc hca hcc w' r1 r2
  have cX := fun w' (o1 : Option Addr) (c1 : Nat) (r1 : IRow w' o1 (nm P (pmul a b))) (r2 : IRow w' co_ c) => Mul_yes P hP hP2 o1 co_ c1 cc (nm P (pmul a b)) c k1 hlc (nm_cn hp1 _) hcc w' r1 r2
  have cY := fun w' (o1 : Option Addr) (c1 : Nat) (r1 : IRow w' ao a) (r2 : IRow w' o1 (nm P (pmul b c))) => Mul_yes P hP hP2 ao o1 ca c1 a (nm P (pmul b c)) ha k2 hca (nm_cn hp1 _) w' r1 r2
  have cU := fun w' (o1 : Option Addr) (c1 : Nat) (r1 : IRow w' o1 (nm P (padd a b))) (r2 : IRow w' co_ c) => Mul_yes P hP hP2 o1 co_ c1 cc (nm P (padd a b)) c ls hlc (nm_cn hp1 _) hcc w' r1 r2
  have cV := fun w' (o1 o2 : Option Addr) (c1 c2 : Nat) (r1 : IRow w' o1 (nm P (pmul a c))) (r2 : IRow w' o2 (nm P (pmul b c))) => Add_yes P hP hP2 o1 o2 c1 c2 (nm P (pmul a c)) (nm P (pmul b c)) k3 k2 (nm_cn hp1 _) (nm_cn hp1 _) w' r1 r2
  rw [ring_assoc hp1] at cY
  rw [ring_distr hp1] at cV
  have lx := mul_nm_len hp1 (nm P (pmul a b)) c
  have lu := mul_nm_len hp1 (nm P (padd a b)) c
  have cL3 := fun w' (o1 o2 : Option Addr) (c1 c2 : Nat) (h1 : IRow w' o1 (nm P (pmul (nm P (pmul a b)) c))) (h2 : IRow w' o2 (nm P (pmul (nm P (pmul a b)) c))) => Longs_same o1 o2 c1 c2 (nm P (pmul (nm P (pmul a b)) c)) (by omega) w' h1 h2
  have cL4 := fun w' (o1 o2 : Option Addr) (c1 c2 : Nat) (h1 : IRow w' o1 (nm P (pmul (nm P (padd a b)) c))) (h2 : IRow w' o2 (nm P (pmul (nm P (padd a b)) c))) => Longs_same o1 o2 c1 c2 (nm P (pmul (nm P (padd a b)) c)) (by omega) w' h1 h2
  have RA := hid ra
  have RB := hid rb
  have RC := hid rc
  have HB := hid (Below.refl w.heap.size w)
  clear hca hcb ra rb rc hcc
  generalize nm P (pmul (nm P (pmul a b)) c) = x at *
  generalize nm P (pmul (nm P (padd a b)) c) = u at *
  generalize nm P (pmul a b) = ab at *
  generalize nm P (padd a b) = s at *
  generalize nm P (pmul b c) = bc at *
  generalize nm P (pmul a c) = ac at *
  obtain ⟨nx, hnx⟩ : ∃ nx, nx = x.length := ⟨_, rfl⟩
  obtain ⟨nu, hnu⟩ : ∃ nu, nu = u.length := ⟨_, rfl⟩
  obtain ⟨nab, hnab⟩ : ∃ nab, nab = ab.length := ⟨_, rfl⟩
  obtain ⟨ns, hns⟩ : ∃ ns, ns = s.length := ⟨_, rfl⟩
  obtain ⟨nbc, hnbc⟩ : ∃ nbc, nbc = bc.length := ⟨_, rfl⟩
  obtain ⟨nac, hnac⟩ : ∃ nac, nac = ac.length := ⟨_, rfl⟩
  obtain ⟨na, hna⟩ : ∃ na, na = a.length := ⟨_, rfl⟩
  obtain ⟨nb, hnb⟩ : ∃ nb, nb = b.length := ⟨_, rfl⟩
  obtain ⟨nc, hnc⟩ : ∃ nc, nc = c.length := ⟨_, rfl⟩
  simp only [← hnx, ← hnu, ← hnab, ← hns, ← hnbc, ← hnac, ← hna, ← hnb, ← hnc] at cAB cBA cS cZ cSd2 cSd1 cL1 cL2 lab ls ha hb mc hz hz2 el hlc k1 cBC cAC k2 k3 cX cY cU cV cL3 cL4 lx lu ⊢
  have HNx := hid hnx
  have HNu := hid hnu
  have HNab := hid hnab
  have HNs := hid hns
  have HNbc := hid hnbc
  have HNac := hid hnac
  clear hnx hnu hnab hns hnbc hnac hna hnb hnc
  have z1 : (0 : Int) < (na : Int) := by omega
  have z2 : (0 : Int) < (nb : Int) := by omega
  have z3 : ((nab : Int) != (na : Int) + (nb : Int) - 1) = false := by simp; omega
  clear hz hz2 el
  have k1' : decide ((13 : Int) < (nab : Int)) = false := by simp; omega
  have k2' : decide ((13 : Int) < (nbc : Int)) = false := by simp; omega
  have k3' : decide ((13 : Int) < (nac : Int)) = false := by simp; omega
  go_enter Try.func4, Try.ntmps4
  go_wp2_with (first
    | (go_at_call 13; refine (cAB _ RA.out RB.out).mono ?_; rintro e w1 ⟨⟨o1, c1, rfl, hc1, hr1⟩, hB1⟩; replace RA := hid (ib RA.out hB1); replace RB := hid (ib RB.out hB1); replace RC := hid (ib RC.out hB1); replace HB := hid (below_trans HB.out hB1); have RAB := hid hr1; clear hr1 hB1 cAB; rw [← HNab.out])
    | (go_at_call 14; refine (cSd2 _ RA.out RB.out).mono ?_; rintro e ws ⟨rfl, hw⟩; subst ws; clear cSd2; replace RA := hid (ir RA.out (.cells #[.slice ao na ca, .slice bo nb cb] 23)); replace RB := hid (ir RB.out (.cells #[.slice ao na ca, .slice bo nb cb] 23)); replace RC := hid (ir RC.out (.cells #[.slice ao na ca, .slice bo nb cb] 23)); replace RAB := hid (ir RAB.out (.cells #[.slice ao na ca, .slice bo nb cb] 23)); replace HB := hid (al HB.out (.cells #[.slice ao na ca, .slice bo nb cb] 23)))
    | (go_at_call 13; refine (cBA _ RA.out RB.out).mono ?_; rintro e w2 ⟨⟨o2, c2, rfl, hc2, hr2⟩, hB2⟩; replace RA := hid (ib RA.out hB2); replace RB := hid (ib RB.out hB2); replace RC := hid (ib RC.out hB2); replace RAB := hid (ib RAB.out hB2); replace HB := hid (below_trans HB.out hB2); have RBA := hid hr2; clear hr2 hB2 cBA; rw [← HNab.out])
    | (go_at_call 15; refine (cS _ RA.out RB.out).mono ?_; rintro e w3 ⟨⟨o3, c3, rfl, hc3, hr3⟩, hB3⟩; replace RA := hid (ib RA.out hB3); replace RB := hid (ib RB.out hB3); replace RC := hid (ib RC.out hB3); replace RAB := hid (ib RAB.out hB3); replace RBA := hid (ib RBA.out hB3); replace HB := hid (below_trans HB.out hB3); have RS := hid hr3; clear hr3 hB3 cS; rw [← HNs.out])
    | (go_at_call 15; refine (cZ _ RA.out RB.out).mono ?_; rintro e w4 ⟨⟨o4, c4, rfl, hc4, hr4⟩, hB4⟩; replace RA := hid (ib RA.out hB4); replace RB := hid (ib RB.out hB4); replace RC := hid (ib RC.out hB4); replace RAB := hid (ib RAB.out hB4); replace RBA := hid (ib RBA.out hB4); replace RS := hid (ib RS.out hB4); replace HB := hid (below_trans HB.out hB4); have RZ := hid hr4; clear hr4 hB4 cZ; rw [← HNs.out])
    | (go_at_call 11; refine (cL1 _ _ _ _ _ RAB.out RBA.out).mono ?_; rintro e w5 ⟨rfl, hB5⟩; replace RA := hid (ib RA.out hB5); replace RB := hid (ib RB.out hB5); replace RC := hid (ib RC.out hB5); replace RAB := hid (ib RAB.out hB5); replace RS := hid (ib RS.out hB5); replace RZ := hid (ib RZ.out hB5); replace HB := hid (below_trans HB.out hB5); clear cL1 hB5)
    | (go_at_call 11; refine (cL2 _ _ _ _ _ RS.out RZ.out).mono ?_; rintro e w6 ⟨rfl, hB6⟩; replace RA := hid (ib RA.out hB6); replace RB := hid (ib RB.out hB6); replace RC := hid (ib RC.out hB6); replace RAB := hid (ib RAB.out hB6); replace RS := hid (ib RS.out hB6); replace HB := hid (below_trans HB.out hB6); clear cL2 hB6)
    | (go_at_call 14; refine (cSd1 _ RC.out).mono ?_; rintro e ws ⟨rfl, hw⟩; subst ws; clear cSd1; replace RA := hid (ir RA.out (.cells #[.slice co_ nc cc] 23)); replace RB := hid (ir RB.out (.cells #[.slice co_ nc cc] 23)); replace RC := hid (ir RC.out (.cells #[.slice co_ nc cc] 23)); replace RAB := hid (ir RAB.out (.cells #[.slice co_ nc cc] 23)); replace RS := hid (ir RS.out (.cells #[.slice co_ nc cc] 23)); replace HB := hid (al HB.out (.cells #[.slice co_ nc cc] 23)))
    | (go_at_call 13; refine (cBC _ RB.out RC.out).mono ?_; rintro e w7 ⟨⟨o7, c7, rfl, hc7, hr7⟩, hB7⟩; replace RA := hid (ib RA.out hB7); replace RB := hid (ib RB.out hB7); replace RC := hid (ib RC.out hB7); replace RAB := hid (ib RAB.out hB7); replace RS := hid (ib RS.out hB7); replace HB := hid (below_trans HB.out hB7); have RBC := hid hr7; clear hr7 hB7 cBC; rw [← HNbc.out])
    | (go_at_call 13; refine (cAC _ RA.out RC.out).mono ?_; rintro e w8 ⟨⟨o8, c8, rfl, hc8, hr8⟩, hB8⟩; replace RA := hid (ib RA.out hB8); replace RB := hid (ib RB.out hB8); replace RC := hid (ib RC.out hB8); replace RAB := hid (ib RAB.out hB8); replace RS := hid (ib RS.out hB8); replace RBC := hid (ib RBC.out hB8); replace HB := hid (below_trans HB.out hB8); have RAC := hid hr8; clear hr8 hB8 cAC; rw [← HNac.out])
    | (go_at_call 13; refine (cX _ _ _ RAB.out RC.out).mono ?_; rintro e w9 ⟨⟨o9, c9, rfl, hc9, hr9⟩, hB9⟩; replace RA := hid (ib RA.out hB9); replace RB := hid (ib RB.out hB9); replace RC := hid (ib RC.out hB9); replace RAB := hid (ib RAB.out hB9); replace RS := hid (ib RS.out hB9); replace RBC := hid (ib RBC.out hB9); replace RAC := hid (ib RAC.out hB9); replace HB := hid (below_trans HB.out hB9); have RX := hid hr9; clear hr9 hB9 cX; rw [← HNx.out])
    | (go_at_call 13; refine (cY _ _ _ RA.out RBC.out).mono ?_; rintro e w10 ⟨⟨o10, c10, rfl, hc10, hr10⟩, hB10⟩; replace RA := hid (ib RA.out hB10); replace RB := hid (ib RB.out hB10); replace RC := hid (ib RC.out hB10); replace RS := hid (ib RS.out hB10); replace RBC := hid (ib RBC.out hB10); replace RAC := hid (ib RAC.out hB10); replace RX := hid (ib RX.out hB10); replace HB := hid (below_trans HB.out hB10); have RY := hid hr10; clear hr10 hB10 cY; rw [← HNx.out])
    | (go_at_call 13; refine (cU _ _ _ RS.out RC.out).mono ?_; rintro e w11 ⟨⟨o11, c11, rfl, hc11, hr11⟩, hB11⟩; replace RA := hid (ib RA.out hB11); replace RB := hid (ib RB.out hB11); replace RC := hid (ib RC.out hB11); replace RBC := hid (ib RBC.out hB11); replace RAC := hid (ib RAC.out hB11); replace RX := hid (ib RX.out hB11); replace RY := hid (ib RY.out hB11); replace HB := hid (below_trans HB.out hB11); have RU := hid hr11; clear hr11 hB11 cU; rw [← HNu.out])
    | (go_at_call 15; refine (cV _ _ _ _ _ RAC.out RBC.out).mono ?_; rintro e w12 ⟨⟨o12, c12, rfl, hc12, hr12⟩, hB12⟩; replace RA := hid (ib RA.out hB12); replace RB := hid (ib RB.out hB12); replace RC := hid (ib RC.out hB12); replace RX := hid (ib RX.out hB12); replace RY := hid (ib RY.out hB12); replace RU := hid (ib RU.out hB12); replace HB := hid (below_trans HB.out hB12); have RV := hid hr12; clear hr12 hB12 cV; rw [← HNu.out])
    | (go_at_call 11; refine (cL3 _ _ _ _ _ RX.out RY.out).mono ?_; rintro e w13 ⟨rfl, hB13⟩; replace RA := hid (ib RA.out hB13); replace RB := hid (ib RB.out hB13); replace RC := hid (ib RC.out hB13); replace RU := hid (ib RU.out hB13); replace RV := hid (ib RV.out hB13); replace HB := hid (below_trans HB.out hB13); clear cL3 hB13)
    | (go_at_call 11; refine (cL4 _ _ _ _ _ RU.out RV.out).mono ?_; rintro e w14 ⟨rfl, hB14⟩; replace RA := hid (ib RA.out hB14); replace RB := hid (ib RB.out hB14); replace RC := hid (ib RC.out hB14); replace HB := hid (below_trans HB.out hB14); clear cL4 hB14))
  go_ret
  exact ⟨rfl, HB.out⟩

set_option maxRecDepth 100000 in
theorem walk (p : Int) (ao : Option Addr) (ca : Nat) (a : List Int) (ka : a.length ≤ ca) (ma : a.length ≤ 9223372036854775807) (bo : Option Addr) (cb : Nat) (b : List Int) (kb : b.length ≤ cb) (mb : b.length ≤ 9223372036854775807) (co_ : Option Addr) (cc : Nat) (c : List Int) (kc : c.length ≤ cc) (mc : c.length ≤ 9223372036854775807) (w : World) (ra : IRow w ao a) (rb : IRow w bo b) (rc : IRow w co_ c) :
    Calls Try.prog 4 #[.int .i64 p, .slice ao a.length ca, .slice bo b.length cb, .slice co_ c.length cc] w fun e w' => e = .returned (.bool true) ∧ Below w.heap.size w w' := by
  obtain ⟨c1, hc1⟩ := pc_ex p a
  obtain ⟨c2, hc2⟩ := pc_ex p b
  by_cases h0 : cd2 c1 c2 = 0
  · obtain ⟨P, rfl, hP, hP2, ha, hca, hb, hcb⟩ := both_ok hc1 hc2 h0
    have hp1 : 1 ≤ P := by have := hP.1; omega
    have lab := mul_nm_len hp1 a b
    obtain ⟨c3, hc3⟩ := pc_ex (P : Int) c
    by_cases hz : a.length = 0
    · by_cases h3 : c3 = 0
      · subst h3
        obtain ⟨P', e, _, _, hlc, hcc⟩ := hc3.ok
        obtain rfl : P' = P := by omega
        by_cases k2 : (nm P' (pmul b c)).length ≤ 13
        · by_cases k3 : (nm P' (pmul a c)).length ≤ 13
          · exact r_A_end P' hP hP2 ao bo co_ ca cb cc a b c ha hb hca hcb mc w ra rb rc hz hlc hcc (by omega) k2 k3
          · exact r_A_ac P' hP hP2 ao bo co_ ca cb cc a b c ha hb hca hcb mc w ra rb rc hz hlc hcc (by omega) k2 (by omega)
        · exact r_A_bc P' hP hP2 ao bo co_ ca cb cc a b c ha hb hca hcb mc w ra rb rc hz hlc hcc (by omega) (by omega)
      · exact r_A_bad P hP hP2 ao bo co_ ca cb cc a b c ha hb hca hcb mc w ra rb rc hz c3 hc3 h3
    · by_cases hz2 : b.length = 0
      · by_cases h3 : c3 = 0
        · subst h3
          obtain ⟨P', e, _, _, hlc, hcc⟩ := hc3.ok
          obtain rfl : P' = P := by omega
          by_cases k2 : (nm P' (pmul b c)).length ≤ 13
          · by_cases k3 : (nm P' (pmul a c)).length ≤ 13
            · exact r_B_end P' hP hP2 ao bo co_ ca cb cc a b c ha hb hca hcb mc w ra rb rc hz hz2 hlc hcc (by omega) k2 k3
            · exact r_B_ac P' hP hP2 ao bo co_ ca cb cc a b c ha hb hca hcb mc w ra rb rc hz hz2 hlc hcc (by omega) k2 (by omega)
          · exact r_B_bc P' hP hP2 ao bo co_ ca cb cc a b c ha hb hca hcb mc w ra rb rc hz hz2 hlc hcc (by omega) (by omega)
        · exact r_B_bad P hP hP2 ao bo co_ ca cb cc a b c ha hb hca hcb mc w ra rb rc hz hz2 c3 hc3 h3
      · by_cases h3 : c3 = 0
        · subst h3
          obtain ⟨P', e, _, _, hlc, hcc⟩ := hc3.ok
          obtain rfl : P' = P := by omega
          by_cases k1 : (nm P' (pmul a b)).length ≤ 13
          · by_cases k2 : (nm P' (pmul b c)).length ≤ 13
            · by_cases k3 : (nm P' (pmul a c)).length ≤ 13
              · exact r_C_end P' hP hP2 ao bo co_ ca cb cc a b c ha hb hca hcb mc w ra rb rc hz hz2 hlc hcc k1 k2 k3
              · exact r_C_ac P' hP hP2 ao bo co_ ca cb cc a b c ha hb hca hcb mc w ra rb rc hz hz2 hlc hcc k1 k2 (by omega)
            · exact r_C_bc P' hP hP2 ao bo co_ ca cb cc a b c ha hb hca hcb mc w ra rb rc hz hz2 hlc hcc k1 (by omega)
          · exact r_C_long P' hP hP2 ao bo co_ ca cb cc a b c ha hb hca hcb mc w ra rb rc hz hz2 hlc hcc (by omega)
        · exact r_C_bad P hP hP2 ao bo co_ ca cb cc a b c ha hb hca hcb mc w ra rb rc hz hz2 c3 hc3 h3
  · have cG := Mul_bad p ao bo ca cb a b ma mb c1 c2 hc1 hc2 h0 w ra rb
    have cS2 := fun w' (hB : Below w.heap.size w w') => sound2 p ao bo ca cb a b ma mb c1 c2 hc1 hc2 false (by simp [h0]) w' (irow_below ra hB (Nat.le_refl _)) (irow_below rb hB (Nat.le_refl _))
    generalize cd2 c1 c2 = x at *
    generalize a.length = na at *
    generalize b.length = nb at *
    generalize c.length = nc at *
    have h1 : (x != 0) = true := by simpa using h0
    have h2 : (x == 0) = false := by simpa using h0
    clear hc1 hc2 ra rb rc
    go_enter Try.func4, Try.ntmps4
    go_wp2_with (first
      | (go_at_call 13; refine cG.mono ?_; rintro e w1 ⟨rfl, hB1⟩)
      | (go_at_call 14; refine (cS2 _ hB1).mono ?_; rintro e w2 ⟨rfl, hw⟩; subst w2))
    go_ret
    exact ⟨rfl, al hB1 _⟩

set_option maxRecDepth 100000 in
theorem lifted (os : Os) (started : os.Started) (H : Type) (enc : TypeId × Value → H) :
    ReturnsInHanded {} Try.checked os 4 .any (Rows.polyRingSpec.pre6 enc Try.prog Try.f4 Rows.polyRingRow.domain false) (Rows.polyRingSpec.post enc Try.prog Try.f4 false true false false) := by
  refine returnsInHanded_of_change (C := Try.checked) own started (by kernel_rfl) Try.func4
    (ChangeSpec.witness6 (enc := enc) (C := Try.checked) false ⟨#[], #[.int .i64 0, .slice none 0 0, .slice none 0 0, .slice none 0 0], []⟩ 8 (by kernel_rfl) (by kernel_rfl) (by kernel_rfl) (by kernel_rfl)) ?_
  intro W base args ds gs before hval0 hW hcnd _
  have hval : ∀ (j : Nat) t v, Try.f4.params[j]? = some t → args[j]? = some v → Value.okWide Try.prog W .any base t v := hval0
  have hW' := hW
  obtain ⟨p, q, hA0, hV, rfl, _, _⟩ := hW
  have hA : DataW.TrodAll enc Try.prog W 0 (fun _ => true) true Try.f4.params.toList args.toList ds p := hA0
  rw [Try.params4] at hA hval
  obtain ⟨v0, v1, v2, v3, d0, d1, d2, d3, p0, p1, p2, p3, rfl, rfl, rfl, h0, h1, h2, h3⟩ := trodAll_four hA
  obtain ⟨rfl, rfl⟩ := trodVars_none hV
  obtain ⟨a0, rfl, rfl, rfl, w0⟩ := open_int Try.underlying2 (hval 0 2 v0 rfl rfl) h0
  have hsl1 := okWide_slice Try.underlying23 (hval 1 23 v1 rfl rfl)
  have hsl2 := okWide_slice Try.underlying23 (hval 2 23 v2 rfl rfl)
  have hsl3 := okWide_slice Try.underlying23 (hval 3 23 v3 rfl rfl)
  clear hA0 hval0
  simp only [List.append_nil, List.nil_append] at hW'
  have hlt1 : ∀ x ∈ p1, x.block < W.heap.size := fun x hx => by simpa using hW'.lt x (by simp [hx])
  have harg1 : ∀ (W' : World), Below W.heap.size W W' → DataW.Trod enc Try.prog W' 0 (fun b => decide (b < W.heap.size)) true 23 v1 d1 p1 :=
    fun W' hn => Below.trod laidOut (by kernel_rfl) (of_decide_eq_true (by kernel_rfl)) h1 hn hlt1
  obtain ⟨o1, c1, l1, rfl, r1, k1, m1⟩ := longs_view Try.underlying23 cells2 Try.underlying2 h1 hsl1
  have hlt2 : ∀ x ∈ p2, x.block < W.heap.size := fun x hx => by simpa using hW'.lt x (by simp [hx])
  have harg2 : ∀ (W' : World), Below W.heap.size W W' → DataW.Trod enc Try.prog W' 0 (fun b => decide (b < W.heap.size)) true 23 v2 d2 p2 :=
    fun W' hn => Below.trod laidOut (by kernel_rfl) (of_decide_eq_true (by kernel_rfl)) h2 hn hlt2
  obtain ⟨o2, c2, l2, rfl, r2, k2, m2⟩ := longs_view Try.underlying23 cells2 Try.underlying2 h2 hsl2
  have hlt3 : ∀ x ∈ p3, x.block < W.heap.size := fun x hx => by simpa using hW'.lt x (by simp [hx])
  have harg3 : ∀ (W' : World), Below W.heap.size W W' → DataW.Trod enc Try.prog W' 0 (fun b => decide (b < W.heap.size)) true 23 v3 d3 p3 :=
    fun W' hn => Below.trod laidOut (by kernel_rfl) (of_decide_eq_true (by kernel_rfl)) h3 hn hlt3
  obtain ⟨o3, c3, l3, rfl, r3, k3, m3⟩ := longs_view Try.underlying23 cells2 Try.underlying2 h3 hsl3
  refine (walk a0 o1 c1 l1 k1 m1 o2 c2 l2 k2 m2 o3 c3 l3 k3 m3 W r1 r2 r3).mono fun e W' ⟨he, hg⟩ => ?_
  subst he
  refine ⟨_, rfl, _, _, _, [], ([] : List MemPlace) ++ (p1 ++ (p2 ++ (p3))), [], hW', ?_, ?_, rfl, hg.frame _, fun h => by cases h⟩
  · exact trodAll_mk1 (shut_bool Try.underlying4 true)
  · exact trodAll_mk4 (shut_int Try.underlying2 w0) (harg1 _ hg) (harg2 _ hg) (harg3 _ hg)

theorem over : Rows.polyRingRow.holds Try.pinned (OpenSpec.ofChange Rows.polyRingSpec) :=
  OpenClaim.holds_of_wide 4 Try.f4 rfl rfl rfl rfl rfl rfl rfl ⟨rfl, rfl, rfl, rfl, rfl⟩ rfl rfl rfl rfl rfl (by kernel_rfl) Try.func4 (by kernel_rfl)
    (of_decide_eq_true (by kernel_rfl)) (by unfold Func.isWrapper; first | (rw [if_pos (by decide +kernel)]; kernel_rfl) | (rw [if_neg (by decide +kernel)]; exact ⟨rfl, rfl⟩))
    (fun os started H enc _ => lifted os started H enc)

/-- ████ THE STATEMENT ████ -/
theorem proved : Rows.PolyRingSaid :=
  over

end Go.Proofs.Ytiaabkadonimjab.polyRing
