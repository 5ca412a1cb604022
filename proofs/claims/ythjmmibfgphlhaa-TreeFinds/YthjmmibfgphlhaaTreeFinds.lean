/-
  For any two leafs with proofs at one place the program tells where they clash.
-/
import Derived.Test.YthjmmibfgphlhaaRows
import Derived.Test.YthjmmibfgphlhaaCalls137
import Derived.Test.YthjmmibfgphlhaaCalls148
import Derived.WalkKit
import Derived.ProofKit
import Derived.OpenShut
import Derived.Carry
namespace Go.Proofs.Ythjmmibfgphlhaa.treeFinds
open Go.ChangeShapes Go.WideShapes Go.ChangeAt Go.RowKit Go.Deep Go.Proofs.Ythjmmibfgphlhaa.Base Go.Proofs.Ythjmmibfgphlhaa.Base2 Go.Proofs.Ythjmmibfgphlhaa.Base7 Go.Proofs.Ythjmmibfgphlhaa.Base8 Go.Proofs.Ythjmmibfgphlhaa.Base9 Go.Proofs.Ythjmmibfgphlhaa.Num55 Go.Proofs.Ythjmmibfgphlhaa.Num60 Go.Proofs.Ythjmmibfgphlhaa.Calls126 Go.Proofs.Ythjmmibfgphlhaa.Calls127 Go.Proofs.Ythjmmibfgphlhaa.Calls128 Go.Proofs.Ythjmmibfgphlhaa.Calls133 Go.Proofs.Ythjmmibfgphlhaa.Calls134 Go.Proofs.Ythjmmibfgphlhaa.Calls135 Go.Proofs.Ythjmmibfgphlhaa.Calls136 Go.Proofs.Ythjmmibfgphlhaa.Calls137 Go.Proofs.Ythjmmibfgphlhaa.Calls141 Go.Proofs.Ythjmmibfgphlhaa.Calls142 Go.Proofs.Ythjmmibfgphlhaa.Calls143 Go.Proofs.Ythjmmibfgphlhaa.Calls144 Go.Proofs.Ythjmmibfgphlhaa.Calls146 Go.Proofs.Ythjmmibfgphlhaa.Calls147 Go.Proofs.Ythjmmibfgphlhaa.Calls148
set_option linter.unusedVariables false

theorem own : ownKnob Try.prog.godebug = none := by kernel_rfl

theorem laidOut : laidOutB Try.prog = true := by kernel_rfl

theorem cells2 : Try.prog.cellsOf 2 = 1 := by kernel_rfl

theorem cells8 : Try.prog.cellsOf 5 = 1 := by kernel_rfl

theorem cellsU : Try.prog.cellsOf 23 = 1 := by kernel_rfl

set_option maxRecDepth 100000 in
set_option maxHeartbeats 4000000 in
theorem walkA (n0 i0 : Nat) (h1 : 1 ≤ n0) (h64 : n0 ≤ 64) (hi : i0 < n0) (h : Nat) (h6 : h ≤ 6) (ht : Top n0 h) (ao po bo qo : Option Addr) (ca cp cb cq : Nat) (a p b q : List Nat) (ha : a.length ≤ 4095) (hba : Byt a) (hp64 : p.length ≤ 64) (hp32 : ∀ x ∈ p, x < 4294967296) (hpc : p.length ≤ cp) (hb : b.length ≤ 4095) (hbb : Byt b) (hq64 : q.length ≤ 64) (hq32 : ∀ x ∈ q, x < 4294967296) (hqc : q.length ≤ cq) (gb : Bool) (hga : false = true ↔ GoodP n0 i0 p h) (hgb : gb = true ↔ GoodP n0 i0 q h) (w : World) (ra : YRow w ao a) (rp : URow w po p) (rb : YRow w bo b) (rq : URow w qo q) :
    Calls Try.prog 6 #[.int .i64 (n0 : Int), .int .i64 (i0 : Int), .slice ao a.length ca, .slice po p.length cp, .slice bo b.length cb, .slice qo q.length cq] w fun e w' => e = .returned (.bool true) ∧ Below w.heap.size w w' := by
  have cC := formA n0 i0 h1 h64 hi h h6 ht ao po bo qo ca cp cb cq a p b q ha hba hp64 hpc hb hbb hq64 hqc gb hga hgb w ra rp rb rq
  have cPA := hid (fun w' => refPlaceCheck_any (n0 : Int) (i0 : Int) ao po a.length p.length ca cp 0 (.inr ⟨by omega, .inr ⟨by omega, rfl⟩⟩) (by omega) w')
  have cPB := hid (fun w' => refPlaceCheck_any (n0 : Int) (i0 : Int) bo qo b.length q.length cb cq 0 (.inr ⟨by omega, .inr ⟨by omega, rfl⟩⟩) (by omega) w')
  have cF1 := hid (fun w' => first_two 0 w')
  have cLA := hid (fun (w' : World) (hB : Below w.heap.size w w') => refLead_any n0 i0 h1 h64 hi h h6 ht ao po ca cp a p ha hba hp64 hp32 hpc false hga w' (yb' ra hB) (ub rp hB))
  have cLB := hid (fun (w' : World) (hB : Below w.heap.size w w') => refLead_any n0 i0 h1 h64 hi h h6 ht bo qo cb cq b q hb hbb hq64 hq32 hqc gb hgb w' (yb' rb hB) (ub rq hB))
  generalize a.length = na at *
  generalize p.length = np at *
  generalize b.length = nb at *
  generalize q.length = nq at *
  clear hga hgb ra rp rb rq ht hba hbb hp32 hq32
  go_enter Try.func6, Try.ntmps6
  go_wp2_with (first
    | (go_at_call 19; refine cC.mono ?_; clear cC; rintro e w1 ⟨rfl, hB⟩; have HB1 := hid hB; clear hB)
    | (go_at_call 17; refine (cPA.out _).mono ?_; clear cPA; rintro e w2 ⟨rfl, hw⟩; subst w2)
    | (go_at_call 17; refine (cPB.out _).mono ?_; clear cPB; rintro e w2 ⟨rfl, hw⟩; subst w2)
    | (go_at_call 20; refine (cF1.out _).mono ?_; clear cF1; rintro e w2 ⟨rfl, hw⟩; subst w2)
    | (go_at_call 18; refine (cLA.out _ HB1.out).mono ?_; clear cLA; rintro e w3 ⟨⟨z3, v3, o3, m3, c3, hv3, rfl, hz3⟩, hB⟩; have HB3 := hid (below_trans HB1.out hB); subst hv3; clear hz3; clear hB)
    | (go_at_call 18; refine (cLB.out _ HB3.out).mono ?_; clear cLB; rintro e w4 ⟨⟨z4, v4, o4, m4, c4, hv4, rfl, hz4⟩, hB⟩; have HB4 := hid (below_trans HB3.out hB); subst hv4; clear hz4; clear hB))
  go_ret
  exact ⟨rfl, HB4.out⟩

set_option maxRecDepth 100000 in
set_option maxHeartbeats 4000000 in
theorem walkB (n0 i0 : Nat) (h1 : 1 ≤ n0) (h64 : n0 ≤ 64) (hi : i0 < n0) (h : Nat) (h6 : h ≤ 6) (ht : Top n0 h) (ao po bo qo : Option Addr) (ca cp cb cq : Nat) (a p b q : List Nat) (ha : a.length ≤ 4095) (hba : Byt a) (hp64 : p.length ≤ 64) (hp32 : ∀ x ∈ p, x < 4294967296) (hpc : p.length ≤ cp) (hb : b.length ≤ 4095) (hbb : Byt b) (hq64 : q.length ≤ 64) (hq32 : ∀ x ∈ q, x < 4294967296) (hqc : q.length ≤ cq) (gb : Bool) (hga : true = true ↔ GoodP n0 i0 p h) (hgb : false = true ↔ GoodP n0 i0 q h) (w : World) (ra : YRow w ao a) (rp : URow w po p) (rb : YRow w bo b) (rq : URow w qo q) :
    Calls Try.prog 6 #[.int .i64 (n0 : Int), .int .i64 (i0 : Int), .slice ao a.length ca, .slice po p.length cp, .slice bo b.length cb, .slice qo q.length cq] w fun e w' => e = .returned (.bool true) ∧ Below w.heap.size w w' := by
  have cC := formB n0 i0 h1 h64 hi h h6 ht ao po bo qo ca cp cb cq a p b q ha hba hp64 hpc hb hbb hq64 hqc gb hga hgb w ra rp rb rq
  have cPA := hid (fun w' => refPlaceCheck_any (n0 : Int) (i0 : Int) ao po a.length p.length ca cp 0 (.inr ⟨by omega, .inr ⟨by omega, rfl⟩⟩) (by omega) w')
  have cPB := hid (fun w' => refPlaceCheck_any (n0 : Int) (i0 : Int) bo qo b.length q.length cb cq 0 (.inr ⟨by omega, .inr ⟨by omega, rfl⟩⟩) (by omega) w')
  have cF1 := hid (fun w' => first_two 0 w')
  have cLA := hid (fun (w' : World) (hB : Below w.heap.size w w') => refLead_any n0 i0 h1 h64 hi h h6 ht ao po ca cp a p ha hba hp64 hp32 hpc true hga w' (yb' ra hB) (ub rp hB))
  have cLB := hid (fun (w' : World) (hB : Below w.heap.size w w') => refLead_any n0 i0 h1 h64 hi h h6 ht bo qo cb cq b q hb hbb hq64 hq32 hqc false hgb w' (yb' rb hB) (ub rq hB))
  obtain ⟨x, hx⟩ : ∃ x, x = kn n0 i0 p a h := ⟨_, rfl⟩
  have HZA := hid hx
  generalize a.length = na at *
  generalize p.length = np at *
  generalize b.length = nb at *
  generalize q.length = nq at *
  clear hga hgb ra rp rb rq ht hba hbb hp32 hq32 hx
  go_enter Try.func6, Try.ntmps6
  go_wp2_with (first
    | (go_at_call 19; refine cC.mono ?_; clear cC; rintro e w1 ⟨rfl, hB⟩; have HB1 := hid hB; clear hB)
    | (go_at_call 17; refine (cPA.out _).mono ?_; clear cPA; rintro e w2 ⟨rfl, hw⟩; subst w2)
    | (go_at_call 17; refine (cPB.out _).mono ?_; clear cPB; rintro e w2 ⟨rfl, hw⟩; subst w2)
    | (go_at_call 20; refine (cF1.out _).mono ?_; clear cF1; rintro e w2 ⟨rfl, hw⟩; subst w2)
    | (go_at_call 18; refine (cLA.out _ HB1.out).mono ?_; clear cLA; rintro e w3 ⟨⟨z3, v3, o3, m3, c3, hv3, rfl, hz3⟩, hB⟩; have HB3 := hid (below_trans HB1.out hB); have hzA := (hz3 rfl).1; rw [← HZA.out] at hzA; subst hzA; have HTA := hid (hz3 rfl).2; clear hv3 hz3; clear hB)
    | (go_at_call 18; refine (cLB.out _ HB3.out).mono ?_; clear cLB; rintro e w4 ⟨⟨z4, v4, o4, m4, c4, hv4, rfl, hz4⟩, hB⟩; have HB4 := hid (below_trans HB3.out hB); subst hv4; clear hz4; clear hB))
  go_ret
  exact ⟨rfl, HB4.out⟩

set_option maxRecDepth 100000 in
set_option maxHeartbeats 4000000 in
theorem walkC (n0 i0 : Nat) (h1 : 1 ≤ n0) (h64 : n0 ≤ 64) (hi : i0 < n0) (h : Nat) (h6 : h ≤ 6) (ht : Top n0 h) (ao po bo qo : Option Addr) (ca cp cb cq : Nat) (a p b q : List Nat) (ha : a.length ≤ 4095) (hba : Byt a) (hp64 : p.length ≤ 64) (hp32 : ∀ x ∈ p, x < 4294967296) (hpc : p.length ≤ cp) (hb : b.length ≤ 4095) (hbb : Byt b) (hq64 : q.length ≤ 64) (hq32 : ∀ x ∈ q, x < 4294967296) (hqc : q.length ≤ cq) (hga : true = true ↔ GoodP n0 i0 p h) (hgb : true = true ↔ GoodP n0 i0 q h) (hne : kn n0 i0 p a h ≠ kn n0 i0 q b h) (w : World) (ra : YRow w ao a) (rp : URow w po p) (rb : YRow w bo b) (rq : URow w qo q) :
    Calls Try.prog 6 #[.int .i64 (n0 : Int), .int .i64 (i0 : Int), .slice ao a.length ca, .slice po p.length cp, .slice bo b.length cb, .slice qo q.length cq] w fun e w' => e = .returned (.bool true) ∧ Below w.heap.size w w' := by
  have cC := formC n0 i0 h1 h64 hi h h6 ht ao po bo qo ca cp cb cq a p b q ha hba hp64 hpc hb hbb hq64 hqc hga hgb hne w ra rp rb rq
  have cPA := hid (fun w' => refPlaceCheck_any (n0 : Int) (i0 : Int) ao po a.length p.length ca cp 0 (.inr ⟨by omega, .inr ⟨by omega, rfl⟩⟩) (by omega) w')
  have cPB := hid (fun w' => refPlaceCheck_any (n0 : Int) (i0 : Int) bo qo b.length q.length cb cq 0 (.inr ⟨by omega, .inr ⟨by omega, rfl⟩⟩) (by omega) w')
  have cF1 := hid (fun w' => first_two 0 w')
  have cLA := hid (fun (w' : World) (hB : Below w.heap.size w w') => refLead_any n0 i0 h1 h64 hi h h6 ht ao po ca cp a p ha hba hp64 hp32 hpc true hga w' (yb' ra hB) (ub rp hB))
  have cLB := hid (fun (w' : World) (hB : Below w.heap.size w w') => refLead_any n0 i0 h1 h64 hi h h6 ht bo qo cb cq b q hb hbb hq64 hq32 hqc true hgb w' (yb' rb hB) (ub rq hB))
  obtain ⟨x, hx⟩ : ∃ x, x = kn n0 i0 p a h := ⟨_, rfl⟩
  have HZA := hid hx
  obtain ⟨y, hy⟩ : ∃ y, y = kn n0 i0 q b h := ⟨_, rfl⟩
  have HZB := hid hy
  rw [← hx, ← hy] at hne
  have hk1 : ((x : Int) != (y : Int)) = true := bne_iff_ne.2 (by omega)
  have hk2 : ((x : Int) == (y : Int)) = false := beq_eq_false_iff_ne.2 (by omega)
  generalize a.length = na at *
  generalize p.length = np at *
  generalize b.length = nb at *
  generalize q.length = nq at *
  clear hga hgb ra rp rb rq ht hba hbb hp32 hq32 hx hy hne
  go_enter Try.func6, Try.ntmps6
  go_wp2_with (first
    | (go_at_call 19; refine cC.mono ?_; clear cC; rintro e w1 ⟨rfl, hB⟩; have HB1 := hid hB; clear hB)
    | (go_at_call 17; refine (cPA.out _).mono ?_; clear cPA; rintro e w2 ⟨rfl, hw⟩; subst w2)
    | (go_at_call 17; refine (cPB.out _).mono ?_; clear cPB; rintro e w2 ⟨rfl, hw⟩; subst w2)
    | (go_at_call 20; refine (cF1.out _).mono ?_; clear cF1; rintro e w2 ⟨rfl, hw⟩; subst w2)
    | (go_at_call 18; refine (cLA.out _ HB1.out).mono ?_; clear cLA; rintro e w3 ⟨⟨z3, v3, o3, m3, c3, hv3, rfl, hz3⟩, hB⟩; have HB3 := hid (below_trans HB1.out hB); have hzA := (hz3 rfl).1; rw [← HZA.out] at hzA; subst hzA; have HTA := hid (hz3 rfl).2; clear hv3 hz3; clear hB)
    | (go_at_call 18; refine (cLB.out _ HB3.out).mono ?_; clear cLB; rintro e w4 ⟨⟨z4, v4, o4, m4, c4, hv4, rfl, hz4⟩, hB⟩; have HB4 := hid (below_trans HB3.out hB); have hzB := (hz4 rfl).1; rw [← HZB.out] at hzB; subst hzB; have HTB := hid (hz4 rfl).2; clear hv4 hz4; clear hB))
  go_ret
  exact ⟨rfl, HB4.out⟩

set_option maxRecDepth 100000 in
set_option maxHeartbeats 4000000 in
theorem walkD (n0 i0 : Nat) (h1 : 1 ≤ n0) (h64 : n0 ≤ 64) (hi : i0 < n0) (h : Nat) (h6 : h ≤ 6) (ht : Top n0 h) (ao po bo qo : Option Addr) (ca cp cb cq : Nat) (a p b q : List Nat) (ha : a.length ≤ 4095) (hba : Byt a) (hp64 : p.length ≤ 64) (hp32 : ∀ x ∈ p, x < 4294967296) (hpc : p.length ≤ cp) (hb : b.length ≤ 4095) (hbb : Byt b) (hq64 : q.length ≤ 64) (hq32 : ∀ x ∈ q, x < 4294967296) (hqc : q.length ≤ cq) (hga : true = true ↔ GoodP n0 i0 p h) (hgb : true = true ↔ GoodP n0 i0 q h) (he : kn n0 i0 p a h = kn n0 i0 q b h) (hab : a = b) (w : World) (ra : YRow w ao a) (rp : URow w po p) (rb : YRow w bo b) (rq : URow w qo q) :
    Calls Try.prog 6 #[.int .i64 (n0 : Int), .int .i64 (i0 : Int), .slice ao a.length ca, .slice po p.length cp, .slice bo b.length cb, .slice qo q.length cq] w fun e w' => e = .returned (.bool true) ∧ Below w.heap.size w w' := by
  have cC := Clash_none n0 i0 h1 h64 hi h h6 ht ao po bo qo ca cp cb cq a p b q ha hba hp64 hpc hb hbb hq64 hqc hga hgb he hab w ra rp rb rq
  have cPA := hid (fun w' => refPlaceCheck_any (n0 : Int) (i0 : Int) ao po a.length p.length ca cp 0 (.inr ⟨by omega, .inr ⟨by omega, rfl⟩⟩) (by omega) w')
  have cPB := hid (fun w' => refPlaceCheck_any (n0 : Int) (i0 : Int) bo qo b.length q.length cb cq 0 (.inr ⟨by omega, .inr ⟨by omega, rfl⟩⟩) (by omega) w')
  have cF1 := hid (fun w' => first_two 0 w')
  have cLA := hid (fun (w' : World) (hB : Below w.heap.size w w') => refLead_any n0 i0 h1 h64 hi h h6 ht ao po ca cp a p ha hba hp64 hp32 hpc true hga w' (yb' ra hB) (ub rp hB))
  have cLB := hid (fun (w' : World) (hB : Below w.heap.size w w') => refLead_any n0 i0 h1 h64 hi h h6 ht bo qo cb cq b q hb hbb hq64 hq32 hqc true hgb w' (yb' rb hB) (ub rq hB))
  have cY := hid (fun (w' : World) (hB : Below w.heap.size w w') => refBytes_any ao bo ca cb a b true ⟨fun _ => hab, fun _ => rfl⟩ (by omega) w' (yb' ra hB) (yb' rb hB))
  obtain ⟨x, hx⟩ : ∃ x, x = kn n0 i0 p a h := ⟨_, rfl⟩
  have HZA := hid hx
  have HZB := hid (hx.trans he)
  have hk1 : ((x : Int) != (x : Int)) = false := by simp
  generalize a.length = na at *
  generalize p.length = np at *
  generalize b.length = nb at *
  generalize q.length = nq at *
  clear hga hgb ra rp rb rq ht hba hbb hp32 hq32 hx he hab
  go_enter Try.func6, Try.ntmps6
  go_wp2_with (first
    | (go_at_call 19; refine cC.mono ?_; clear cC; rintro e w1 ⟨rfl, hB⟩; have HB1 := hid hB; clear hB)
    | (go_at_call 17; refine (cPA.out _).mono ?_; clear cPA; rintro e w2 ⟨rfl, hw⟩; subst w2)
    | (go_at_call 17; refine (cPB.out _).mono ?_; clear cPB; rintro e w2 ⟨rfl, hw⟩; subst w2)
    | (go_at_call 20; refine (cF1.out _).mono ?_; clear cF1; rintro e w2 ⟨rfl, hw⟩; subst w2)
    | (go_at_call 18; refine (cLA.out _ HB1.out).mono ?_; clear cLA; rintro e w3 ⟨⟨z3, v3, o3, m3, c3, hv3, rfl, hz3⟩, hB⟩; have HB3 := hid (below_trans HB1.out hB); have hzA := (hz3 rfl).1; rw [← HZA.out] at hzA; subst hzA; have HTA := hid (hz3 rfl).2; clear hv3 hz3; clear hB)
    | (go_at_call 18; refine (cLB.out _ HB3.out).mono ?_; clear cLB; rintro e w4 ⟨⟨z4, v4, o4, m4, c4, hv4, rfl, hz4⟩, hB⟩; have HB4 := hid (below_trans HB3.out hB); have hzB := (hz4 rfl).1; rw [← HZB.out] at hzB; subst hzB; have HTB := hid (hz4 rfl).2; clear hv4 hz4; clear hB)
    | (go_at_call 21; refine (cY.out _ HB4.out).mono ?_; clear cY; rintro e w5 ⟨rfl, hB⟩; have HB5 := hid (below_trans HB4.out hB); clear hB))
  go_ret
  exact ⟨rfl, HB5.out⟩

set_option maxRecDepth 100000 in
set_option maxHeartbeats 4000000 in
theorem walkE (n0 i0 : Nat) (h1 : 1 ≤ n0) (h64 : n0 ≤ 64) (hi : i0 < n0) (h : Nat) (h6 : h ≤ 6) (ht : Top n0 h) (ao po bo qo : Option Addr) (ca cp cb cq : Nat) (a p b q : List Nat) (ha : a.length ≤ 4095) (hba : Byt a) (hp64 : p.length ≤ 64) (hp32 : ∀ x ∈ p, x < 4294967296) (hpc : p.length ≤ cp) (hb : b.length ≤ 4095) (hbb : Byt b) (hq64 : q.length ≤ 64) (hq32 : ∀ x ∈ q, x < 4294967296) (hqc : q.length ≤ cq) (hga : true = true ↔ GoodP n0 i0 p h) (hgb : true = true ↔ GoodP n0 i0 q h) (he : kn n0 i0 p a h = kn n0 i0 q b h) (hab : a ≠ b) (w : World) (ra : YRow w ao a) (rp : URow w po p) (rb : YRow w bo b) (rq : URow w qo q) :
    Calls Try.prog 6 #[.int .i64 (n0 : Int), .int .i64 (i0 : Int), .slice ao a.length ca, .slice po p.length cp, .slice bo b.length cb, .slice qo q.length cq] w fun e w' => e = .returned (.bool true) ∧ Below w.heap.size w w' := by
  obtain ⟨s, hs⟩ := fst_ex (n := n0) (i := i0) (h := h) (p := p) (a := a) (q := q) (b := b) he
  obtain ⟨r, hr, eA, eB, hbef⟩ := fst_ll ha hba hs
  have hee := hs.2.1
  have hneA := (wl_at_fit (n := n0) (i := i0) (p := p) ha hba (k := h) (j := s) (by have := hs.1; omega)).2.2
  have cC := Clash_yes n0 i0 h1 h64 hi h h6 ht ao po bo qo ca cp cb cq a p b q ha hba hp64 hpc hb hbb hq64 hqc hga hgb he hab s hs w ra rp rb rq
  have cPA := hid (fun w' => refPlaceCheck_any (n0 : Int) (i0 : Int) ao po a.length p.length ca cp 0 (.inr ⟨by omega, .inr ⟨by omega, rfl⟩⟩) (by omega) w')
  have cPB := hid (fun w' => refPlaceCheck_any (n0 : Int) (i0 : Int) bo qo b.length q.length cb cq 0 (.inr ⟨by omega, .inr ⟨by omega, rfl⟩⟩) (by omega) w')
  have cF1 := hid (fun w' => first_two 0 w')
  have cLA := hid (fun (w' : World) (hB : Below w.heap.size w w') => refLead_any n0 i0 h1 h64 hi h h6 ht ao po ca cp a p ha hba hp64 hp32 hpc true hga w' (yb' ra hB) (ub rp hB))
  have cLB := hid (fun (w' : World) (hB : Below w.heap.size w w') => refLead_any n0 i0 h1 h64 hi h h6 ht bo qo cb cq b q hb hbb hq64 hq32 hqc true hgb w' (yb' rb hB) (ub rq hB))
  have cY := hid (fun (w' : World) (hB : Below w.heap.size w w') => refBytes_any ao bo ca cb a b false ⟨fun e => (by cases e), fun e => absurd e hab⟩ (by omega) w' (yb' ra hB) (yb' rb hB))
  rw [← eA, ← eB] at hee cC
  rw [← eA] at hneA
  have fA := hid (fun j (hj : j ≤ h) => ll_fit (n := n0) (i := i0) (p := p) ha hba hj)
  have fB := hid (fun j (hj : j ≤ h) => ll_fit (n := n0) (i := i0) (p := q) hb hbb hj)
  obtain ⟨A, hA⟩ : ∃ A, A = ll n0 i0 p a h := ⟨_, rfl⟩
  obtain ⟨B, hBb⟩ : ∃ B, B = ll n0 i0 q b h := ⟨_, rfl⟩
  have HLA := hid hA
  have HLB := hid hBb
  have HBef := hid hbef
  have HEE := hid hee
  have HNE := hid hneA
  rw [← hA] at cC fA HBef HEE HNE
  rw [← hBb] at cC fB HBef HEE
  obtain ⟨x, hx⟩ : ∃ x, x = kn n0 i0 p a h := ⟨_, rfl⟩
  have HZA := hid hx
  have HZB := hid (hx.trans he)
  have hk1 : ((x : Int) != (x : Int)) = false := by simp
  generalize a.length = na at *
  generalize p.length = np at *
  generalize b.length = nb at *
  generalize q.length = nq at *
  clear hga hgb ra rp rb rq ht hba hbb hp32 hq32 hx he hab hs eA eB hbef hee hneA hA hBb
  go_enter Try.func6, Try.ntmps6
  go_wp2_with (first
    | (go_at_call 19; refine cC.mono ?_; clear cC; rintro e w1 ⟨⟨sc, cs, tc, ct, rfl, hcs, hct, hrs, hrt⟩, hB⟩; have HB1 := hid hB; have HRS := hid (fun (w' : World) (hB' : Below w1.heap.size w1 w') => yrow_below hrs hB'); have HRT := hid (fun (w' : World) (hB' : Below w1.heap.size w1 w') => yrow_below hrt hB'); clear hB hrs hrt hcs hct)
    | (go_at_call 17; refine (cPA.out _).mono ?_; clear cPA; rintro e w2 ⟨rfl, hw⟩; subst w2)
    | (go_at_call 17; refine (cPB.out _).mono ?_; clear cPB; rintro e w2 ⟨rfl, hw⟩; subst w2)
    | (go_at_call 20; refine (cF1.out _).mono ?_; clear cF1; rintro e w2 ⟨rfl, hw⟩; subst w2)
    | (go_at_call 18; refine (cLA.out _ HB1.out).mono ?_; clear cLA; rintro e w3 ⟨⟨z3, v3, o3, m3, c3, hv3, rfl, hz3⟩, hB⟩; have HB3 := hid (below_trans HB1.out hB); have HC3 := hid hB; have hzA := (hz3 rfl).1; rw [← HZA.out] at hzA; subst hzA; have HTA := hid (hz3 rfl).2; rw [← HLA.out] at HTA; clear hv3 hz3; clear hB)
    | (go_at_call 18; refine (cLB.out _ HB3.out).mono ?_; clear cLB; rintro e w4 ⟨⟨z4, v4, o4, m4, c4, hv4, rfl, hz4⟩, hB⟩; have HB4 := hid (below_trans HB3.out hB); have HC4 := hid (below_trans HC3.out hB); have HTA4 := hid (HTA.out.below hB); have hzB := (hz4 rfl).1; rw [← HZB.out] at hzB; subst hzB; have HTB := hid (hz4 rfl).2; rw [← HLB.out] at HTB; clear hv4 hz4; clear hB)
    | (go_at_call 21; refine (cY.out _ HB4.out).mono ?_; clear cY; rintro e w5 ⟨rfl, hB⟩; have HB5 := hid (below_trans HB4.out hB); have HC5 := hid (below_trans HC4.out hB); have HTA5 := hid (HTA4.out.below hB); have HTB5 := hid (HTB.out.below hB); clear hB))
  obtain ⟨GA, CA, rfl, hCA⟩ := ltab_form HTA5.out
  obtain ⟨GB, CB, rfl, hCB⟩ := ltab_form HTB5.out
  obtain ⟨K, hK⟩ : ∃ K, K = h + 1 := ⟨_, rfl⟩
  have hrK : r < K := by omega
  have hr6 : r ≤ 6 := by omega
  have HK := hid hK
  rw [← hK] at HTA5 HTB5 hCA hCB ⊢
  clear hK
  obtain ⟨W5, hW5⟩ : ∃ W5, W5 = w5 := ⟨_, rfl⟩
  rw [← hW5] at HTA5 HTB5 HB5 HC5 ⊢
  clear hW5 HTA HTA4 HTB HB3 HB4 HC3 HC4
  go_loopw [23] (fun i wr => ∃ k : Nat, i = .int .i64 (k : Int) ∧ k ≤ r ∧ Hid (Below W5.heap.size W5 wr)) (fun i wr => ((r : Int) - intOf i).toNat)
  case atStart => exact ⟨0, rfl, by omega, Below.refl _ _⟩
  case round =>
    obtain ⟨k, rfl, hk, hB⟩ := hrel
    have hkK : k < K := by omega
    obtain ⟨gA, cA, dA, lA, rA⟩ := ltab_cell (HTA5.out.below hB.out) hkK
    obtain ⟨gB, cB, dB, lB, rB⟩ := ltab_cell (HTB5.out.below hB.out) hkK
    have ftA := fA.out k (by have := HK.out; omega)
    have ftB := fB.out k (by have := HK.out; omega)
    have d0 : wr.drew.cell? ⟨GA, k, none⟩ = some (.slice gA (yr A k).length cA) := dA
    have d1 : wr.drew.cell? ⟨GB, k, none⟩ = some (.slice gB (yr B k).length cB) := dB
    have hk0 : (0 : Int) ≤ (k : Int) := by omega
    have hkK' : (k : Int) < (K : Int) := by omega
    have RA := hid (fun (w' : World) (hB' : Below wr.heap.size wr w') => yrow_below rA hB')
    have RB := hid (fun (w' : World) (hB' : Below wr.heap.size wr w') => yrow_below rB hB')
    have HS2 := hid (fun e : k < r => HBef.out k e)
    have HAA := hid (show k = r → yr A r = yr A k from fun e => by rw [e])
    have HBB := hid (show k = r → yr B r = yr B k from fun e => by rw [e])
    have HS4 : Hid (k = r → sum (yr A k) = sum (yr B k)) := fun e => by have := HEE.out; rw [← e] at this; exact this
    have HS5 : Hid (k = r → 1 ≤ (yr A k).length) := fun e => by have := HNE.out; rw [← e] at this; exact this
    clear rA rB dA dB lA lB
    generalize yr A k = tA at *
    generalize yr B k = tB at *
    have cN := hid (fun (l : List Nat) (g : Option Addr) (c : Nat) (hl : (l = tA ∧ g = gA ∧ c = cA) ∨ (l = tB ∧ g = gB ∧ c = cB)) (w' : World) (hB' : Below wr.heap.size wr w') => show Calls Try.prog 22 #[.slice g l.length c] w' fun e w'' => e = .returned (.int .i64 ((sum l : Nat) : Int)) ∧ Below w'.heap.size w' w'' from by
      rcases hl with ⟨rfl, rfl, rfl⟩ | ⟨rfl, rfl, rfl⟩
      · exact refSum_any _ c l ftA.1 ftA.2 w' (RA.out w' hB')
      · exact refSum_any _ c l ftB.1 ftB.2 w' (RB.out w' hB'))
    have HBd := hid ((Below.refl wr.heap.size wr).drew)
    have hAl := ftA.1
    have FA := hid ftA
    have FB := hid ftB
    clear ftA ftB
    by_cases hgo : k < r
    · rcases HS2.out hgo with hnil | ⟨hnn, hne⟩
      · subst hnil
        clear HS2 HS4 HS5 HAA HBB cN
        have e0 : wr.cell? ⟨GA, k, none⟩ = some (.slice gA 0 cA) := d0
        have f0 : wr.drew.cell? ⟨GA, k, none⟩ = some (.slice gA 0 cA) := d0
        go_wp2_with go_quiet (fail)
        go_roundw
        case rel => exact ⟨k + 1, by simp, by omega, hid (by first | exact below_drewN hB.out _ | exact hB.out.drew)⟩
        case measure => exact measK hgo
      · have hlen : 0 < tA.length := by
          rcases tA with _ | ⟨t0, t1⟩
          · exact absurd rfl hnn
          · simp
        have hlen' : (0 : Int) < (tA.length : Int) := by omega
        have hlend : decide ((0 : Int) < (tA.length : Int)) = true := decide_eq_true hlen'
        have hk4 : (((sum tA : Nat) : Int) == ((sum tB : Nat) : Int)) = false := beq_eq_false_iff_ne.2 (by omega)
        clear hne hnn HS2
        go_wp2
        go_region_held3 (fun w' => w'.cell? ⟨GA, k, none⟩ = some (.slice gA tA.length cA) ∧ w'.cell? ⟨GB, k, none⟩ = some (.slice gB tB.length cB)) (first | exact ⟨e0, e1⟩ | exact ⟨d0, d1⟩)
          (first
            | (go_at_call 22; refine (cN.out _ _ _ (by first | exact .inl ⟨rfl, rfl, rfl⟩ | exact .inr ⟨rfl, rfl, rfl⟩) _ (by first | exact HB3.out | exact HBd.out)).mono ?_; rintro e w7 ⟨rfl, hB7⟩; have e0 := (hB7.cell (p := ⟨GA, k, none⟩) (cell_lt (by first | exact e0 | exact d0))).trans (by first | exact e0 | exact d0); have e1 := (hB7.cell (p := ⟨GB, k, none⟩) (cell_lt (by first | exact e1 | exact d1))).trans (by first | exact e1 | exact d1); have HB3 := hid (below_trans (by first | exact HB3.out | exact HBd.out) hB7); clear hB7))
        all_goals
          go_wp2
          go_roundw
          case rel => exact ⟨k + 1, by simp, by omega, hid (below_trans hB.out HB3.out)⟩
          case measure => exact measK hgo
    · have hks := hid (show k = r by omega)
      have hee := HS4.out hks.out
      have hlen : 0 < tA.length := HS5.out hks.out
      have hlen' : (0 : Int) < (tA.length : Int) := by omega
      have hlend : decide ((0 : Int) < (tA.length : Int)) = true := decide_eq_true hlen'
      have hk4 : (((sum tA : Nat) : Int) == ((sum tB : Nat) : Int)) = true := by rw [hee]; simp
      have HRS2 := hid (fun (w' : World) (hB' : Below W5.heap.size W5 w') => HRS.out w' (below_trans HC5.out hB'))
      have HRT2 := hid (fun (w' : World) (hB' : Below W5.heap.size W5 w') => HRT.out w' (below_trans HC5.out hB'))
      rw [HAA.out hks.out] at HRS2 ⊢
      rw [HBB.out hks.out] at HRT2 ⊢
      clear hee HS2 HS4 HS5 HAA HBB HRS HRT
      have cU := hid (fun (w' : World) (hB' : Below wr.heap.size wr w') => refBytes_any sc gA cs cA tA tA true ⟨fun _ => rfl, fun _ => rfl⟩ (by have := FA.out.1; omega) w' (HRS2.out w' (below_trans hB.out hB')) (RA.out w' hB'))
      have cV := hid (fun (w' : World) (hB' : Below wr.heap.size wr w') => refBytes_any tc gB ct cB tB tB true ⟨fun _ => rfl, fun _ => rfl⟩ (by have := FB.out.1; omega) w' (HRT2.out w' (below_trans hB.out hB')) (RB.out w' hB'))
      go_wp2
      go_region_held3 (fun w' => w'.cell? ⟨GA, k, none⟩ = some (.slice gA tA.length cA) ∧ w'.cell? ⟨GB, k, none⟩ = some (.slice gB tB.length cB)) (first | exact ⟨e0, e1⟩ | exact ⟨d0, d1⟩)
          (first
            | (go_at_call 22; refine (cN.out _ _ _ (by first | exact .inl ⟨rfl, rfl, rfl⟩ | exact .inr ⟨rfl, rfl, rfl⟩) _ (by first | exact HB3.out | exact HBd.out)).mono ?_; rintro e w7 ⟨rfl, hB7⟩; have e0 := (hB7.cell (p := ⟨GA, k, none⟩) (cell_lt (by first | exact e0 | exact d0))).trans (by first | exact e0 | exact d0); have e1 := (hB7.cell (p := ⟨GB, k, none⟩) (cell_lt (by first | exact e1 | exact d1))).trans (by first | exact e1 | exact d1); have HB3 := hid (below_trans (by first | exact HB3.out | exact HBd.out) hB7); clear hB7))
      all_goals
        go_wp2_with (first
          | (go_at_call 21; refine (cU.out _ HB3.out).mono ?_; clear cU; rintro e w8 ⟨rfl, hB8⟩; have HB8 := hid (below_trans HB3.out hB8); have g1 := (hB8.cell (p := ⟨GB, k, none⟩) (cell_lt e1)).trans e1; clear hB8)
          | (go_at_call 21; refine (cV.out _ HB8.out).mono ?_; clear cV; rintro e w9 ⟨rfl, hB9⟩; have HB9 := hid (below_trans HB8.out hB9); clear hB9))
        go_ret
        exact ⟨rfl, below_trans (below_trans HB5.out hB.out) HB9.out⟩

set_option maxRecDepth 100000 in
set_option maxHeartbeats 4000000 in
theorem walk (n : Int) (wn : (Lit.int .i64 n).wf = true) (i : Int) (wi : (Lit.int .i64 i).wf = true) (ao : Option Addr) (ca : Nat) (a : List Nat) (hba : ∀ b ∈ a, b < 256) (ka : a.length ≤ ca) (ma : a.length ≤ 9223372036854775807) (po : Option Addr) (cp : Nat) (p : List Nat) (hp : ∀ b ∈ p, b < 4294967296) (kp : p.length ≤ cp) (mp : p.length ≤ 9223372036854775807) (bo : Option Addr) (cb : Nat) (b : List Nat) (hbb : ∀ x ∈ b, x < 256) (kb : b.length ≤ cb) (mb : b.length ≤ 9223372036854775807) (qo : Option Addr) (cq : Nat) (q : List Nat) (hq : ∀ b ∈ q, b < 4294967296) (kq : q.length ≤ cq) (mq : q.length ≤ 9223372036854775807) (w : World) (ra : YRow w ao a) (rp : URow w po p) (rb : YRow w bo b) (rq : URow w qo q) :
    Calls Try.prog 6 #[.int .i64 n, .int .i64 i, .slice ao a.length ca, .slice po p.length cp, .slice bo b.length cb, .slice qo q.length cq] w fun e w' => e = .returned (.bool true) ∧ Below w.heap.size w w' := by
  obtain ⟨c, hc⟩ := plc_ex n i a.length p.length
  obtain ⟨d, hd⟩ := plc_ex n i b.length q.length
  by_cases h0 : c = 0
  · subst h0
    by_cases h2 : d = 0
    · subst h2
      obtain ⟨n0, i0, h, hP⟩ := pl_ex hc
      obtain ⟨rfl, rfl, h1, h64, hi, h6, ht, ha, hk⟩ := hP
      obtain ⟨_, _, _, _, hb, hk2⟩ := hd.ok
      obtain ⟨ga, hga⟩ := bool_of (GoodP n0 i0 p h)
      obtain ⟨gb, hgb⟩ := bool_of (GoodP n0 i0 q h)
      cases ga with
      | false => exact walkA n0 i0 h1 h64 hi h h6 ht ao po bo qo ca cp cb cq a p b q ha hba hk hp kp hb hbb hk2 hq kq gb hga hgb w ra rp rb rq
      | true =>
        cases gb with
        | false => exact walkB n0 i0 h1 h64 hi h h6 ht ao po bo qo ca cp cb cq a p b q ha hba hk hp kp hb hbb hk2 hq kq true hga hgb w ra rp rb rq
        | true =>
          by_cases he : kn n0 i0 p a h = kn n0 i0 q b h
          · by_cases hab : a = b
            · exact walkD n0 i0 h1 h64 hi h h6 ht ao po bo qo ca cp cb cq a p b q ha hba hk hp kp hb hbb hk2 hq kq hga hgb he hab w ra rp rb rq
            · exact walkE n0 i0 h1 h64 hi h h6 ht ao po bo qo ca cp cb cq a p b q ha hba hk hp kp hb hbb hk2 hq kq hga hgb he hab w ra rp rb rq
          · exact walkC n0 i0 h1 h64 hi h h6 ht ao po bo qo ca cp cb cq a p b q ha hba hk hp kp hb hbb hk2 hq kq hga hgb he w ra rp rb rq
    · have cC := Clash_second n i ao po bo qo a.length ca p.length cp b.length cb q.length cq d hc hd h2 ma mb w
      have cPA := hid (fun w' => refPlaceCheck_any n i ao po a.length p.length ca cp 0 hc ma w')
      have cPB := hid (fun w' => refPlaceCheck_any n i bo qo b.length q.length cb cq d hd mb w')
      have cF1 := hid (fun w' => first_two d w')
      have hx2 : (d == 0) = false := by simpa using h2
      have hx3 : (d != 0) = true := by simpa using h2
      generalize a.length = na at *
      generalize p.length = np at *
      generalize b.length = nb at *
      generalize q.length = nq at *
      clear ra rp rb rq hba hbb hp hq hc hd
      go_enter Try.func6, Try.ntmps6
      go_wp2_with (first
        | (go_at_call 19; refine cC.mono ?_; clear cC; rintro e w1 ⟨rfl, hw⟩; subst w1)
        | (go_at_call 17; refine (cPA.out _).mono ?_; clear cPA; rintro e w2 ⟨rfl, hw⟩; subst w2)
        | (go_at_call 17; refine (cPB.out _).mono ?_; clear cPB; rintro e w2 ⟨rfl, hw⟩; subst w2)
        | (go_at_call 20; refine (cF1.out _).mono ?_; clear cF1; rintro e w2 ⟨rfl, hw⟩; subst w2))
      go_ret
      exact ⟨rfl, Below.refl _ _⟩
  · have cC := Clash_first n i ao po bo qo a.length ca p.length cp b.length cb q.length cq c d hc hd h0 ma mb w
    have cPA := hid (fun w' => refPlaceCheck_any n i ao po a.length p.length ca cp c hc ma w')
    have cPB := hid (fun w' => refPlaceCheck_any n i bo qo b.length q.length cb cq d hd mb w')
    have cF1 := hid (fun w' => first_one c d h0 w')
    have hx2 : (c == 0) = false := by simpa using h0
    have hx3 : (c != 0) = true := by simpa using h0
    generalize a.length = na at *
    generalize p.length = np at *
    generalize b.length = nb at *
    generalize q.length = nq at *
    clear ra rp rb rq hba hbb hp hq hc hd
    go_enter Try.func6, Try.ntmps6
    go_wp2_with (first
      | (go_at_call 19; refine cC.mono ?_; clear cC; rintro e w1 ⟨rfl, hw⟩; subst w1)
      | (go_at_call 17; refine (cPA.out _).mono ?_; clear cPA; rintro e w2 ⟨rfl, hw⟩; subst w2)
      | (go_at_call 17; refine (cPB.out _).mono ?_; clear cPB; rintro e w2 ⟨rfl, hw⟩; subst w2)
      | (go_at_call 20; refine (cF1.out _).mono ?_; clear cF1; rintro e w2 ⟨rfl, hw⟩; subst w2))
    go_ret
    exact ⟨rfl, Below.refl _ _⟩

theorem trodAll_six {H : Type} {enc : TypeId × Value → H} {P : Program} {w : World} {base : Nat} {spare : Nat → Bool} {held : Bool} {t0 t1 t2 t3 t4 t5 : TypeId} {args : Array Value} {ds : List (DataW H)} {ps : List MemPlace} (h : DataW.TrodAll enc P w base spare held [t0, t1, t2, t3, t4, t5] args.toList ds ps) :
    ∃ v0 v1 v2 v3 v4 v5 d0 d1 d2 d3 d4 d5 p0 p1 p2 p3 p4 p5, args = #[v0, v1, v2, v3, v4, v5] ∧ ds = [d0, d1, d2, d3, d4, d5] ∧ ps = p0 ++ p1 ++ p2 ++ p3 ++ p4 ++ p5 ∧ DataW.Trod enc P w base spare held t0 v0 d0 p0 ∧ DataW.Trod enc P w base spare held t1 v1 d1 p1 ∧ DataW.Trod enc P w base spare held t2 v2 d2 p2 ∧ DataW.Trod enc P w base spare held t3 v3 d3 p3 ∧ DataW.Trod enc P w base spare held t4 v4 d4 p4 ∧ DataW.Trod enc P w base spare held t5 v5 d5 p5 := by
  obtain ⟨v0, vs0, d0, ds0, p0, q0, hargs, rfl, rfl, hd0, hrest0⟩ := trodAll_cons h
  obtain ⟨v1, vs1, d1, ds1, p1, q1, rfl, rfl, rfl, hd1, hrest1⟩ := trodAll_cons hrest0
  obtain ⟨v2, vs2, d2, ds2, p2, q2, rfl, rfl, rfl, hd2, hrest2⟩ := trodAll_cons hrest1
  obtain ⟨v3, vs3, d3, ds3, p3, q3, rfl, rfl, rfl, hd3, hrest3⟩ := trodAll_cons hrest2
  obtain ⟨v4, vs4, d4, ds4, p4, q4, rfl, rfl, rfl, hd4, hrest4⟩ := trodAll_cons hrest3
  obtain ⟨v5, vs5, d5, ds5, p5, q5, rfl, rfl, rfl, hd5, hrest5⟩ := trodAll_cons hrest4
  obtain ⟨rfl, rfl, rfl⟩ := trodAll_nil hrest5
  exact ⟨v0, v1, v2, v3, v4, v5, d0, d1, d2, d3, d4, d5, p0, p1, p2, p3, p4, p5, by cases args; simp_all, rfl, by simp, hd0, hd1, hd2, hd3, hd4, hd5⟩

theorem trodAll_mk5 {H : Type} {enc : TypeId × Value → H} {P : Program} {w : World} {base : Nat} {spare : Nat → Bool} {held : Bool} {t0 t1 t2 t3 t4 : TypeId} {v0 v1 v2 v3 v4 : Value} {d0 d1 d2 d3 d4 : DataW H} {p0 p1 p2 p3 p4 : List MemPlace} (h0 : DataW.Trod enc P w base spare held t0 v0 d0 p0) (h1 : DataW.Trod enc P w base spare held t1 v1 d1 p1) (h2 : DataW.Trod enc P w base spare held t2 v2 d2 p2) (h3 : DataW.Trod enc P w base spare held t3 v3 d3 p3) (h4 : DataW.Trod enc P w base spare held t4 v4 d4 p4) : DataW.TrodAll enc P w base spare held [t0, t1, t2, t3, t4] [v0, v1, v2, v3, v4] [d0, d1, d2, d3, d4] (p0 ++ (p1 ++ (p2 ++ (p3 ++ (p4))))) := ⟨p0, p1 ++ (p2 ++ (p3 ++ (p4))), h0, trodAll_mk4 h1 h2 h3 h4, rfl⟩

theorem trodAll_mk6 {H : Type} {enc : TypeId × Value → H} {P : Program} {w : World} {base : Nat} {spare : Nat → Bool} {held : Bool} {t0 t1 t2 t3 t4 t5 : TypeId} {v0 v1 v2 v3 v4 v5 : Value} {d0 d1 d2 d3 d4 d5 : DataW H} {p0 p1 p2 p3 p4 p5 : List MemPlace} (h0 : DataW.Trod enc P w base spare held t0 v0 d0 p0) (h1 : DataW.Trod enc P w base spare held t1 v1 d1 p1) (h2 : DataW.Trod enc P w base spare held t2 v2 d2 p2) (h3 : DataW.Trod enc P w base spare held t3 v3 d3 p3) (h4 : DataW.Trod enc P w base spare held t4 v4 d4 p4) (h5 : DataW.Trod enc P w base spare held t5 v5 d5 p5) : DataW.TrodAll enc P w base spare held [t0, t1, t2, t3, t4, t5] [v0, v1, v2, v3, v4, v5] [d0, d1, d2, d3, d4, d5] (p0 ++ (p1 ++ (p2 ++ (p3 ++ (p4 ++ (p5)))))) := ⟨p0, p1 ++ (p2 ++ (p3 ++ (p4 ++ (p5)))), h0, trodAll_mk5 h1 h2 h3 h4 h5, rfl⟩

set_option maxRecDepth 100000 in
theorem lifted (os : Os) (started : os.Started) (H : Type) (enc : TypeId × Value → H) :
    ReturnsInHanded {} Try.checked os 6 .any (Rows.treeFindsSpec.pre6 enc Try.prog Try.f6 Rows.treeFindsRow.domain false) (Rows.treeFindsSpec.post enc Try.prog Try.f6 false true false false) := by
  refine returnsInHanded_of_change (C := Try.checked) own started (by kernel_rfl) Try.func6
    (ChangeSpec.witness6 (enc := enc) (C := Try.checked) false ⟨#[], #[.int .i64 0, .int .i64 0, .slice none 0 0, .slice none 0 0, .slice none 0 0, .slice none 0 0], []⟩ 8 (by kernel_rfl) (by kernel_rfl) (by kernel_rfl) (by kernel_rfl)) ?_
  intro W base args ds gs before hval0 hW hcnd _
  have hval : ∀ (j : Nat) t v, Try.f6.params[j]? = some t → args[j]? = some v → Value.okWide Try.prog W .any base t v := hval0
  have hW' := hW
  obtain ⟨p, q, hA0, hV, rfl, _, _⟩ := hW
  have hA : DataW.TrodAll enc Try.prog W 0 (fun _ => true) true Try.f6.params.toList args.toList ds p := hA0
  rw [Try.params6] at hA hval
  obtain ⟨v0, v1, v2, v3, v4, v5, d0, d1, d2, d3, d4, d5, p0, p1, p2, p3, p4, p5, rfl, rfl, rfl, h0, h1, h2, h3, h4, h5⟩ := trodAll_six hA
  obtain ⟨rfl, rfl⟩ := trodVars_none hV
  obtain ⟨a0, rfl, rfl, rfl, w0⟩ := open_int Try.underlying3 (hval 0 3 v0 rfl rfl) h0
  obtain ⟨a1, rfl, rfl, rfl, w1⟩ := open_int Try.underlying3 (hval 1 3 v1 rfl rfl) h1
  have hsl2 := okWide_slice Try.underlying37 (hval 2 37 v2 rfl rfl)
  have hsl3 := okWide_slice Try.underlying31 (hval 3 31 v3 rfl rfl)
  have hsl4 := okWide_slice Try.underlying37 (hval 4 37 v4 rfl rfl)
  have hsl5 := okWide_slice Try.underlying31 (hval 5 31 v5 rfl rfl)
  clear hA0 hval0
  simp only [List.append_nil, List.nil_append] at hW'
  have hlt2 : ∀ x ∈ p2, x.block < W.heap.size := fun x hx => by simpa using hW'.lt x (by simp [hx])
  have harg2 : ∀ (W' : World), Below W.heap.size W W' → DataW.Trod enc Try.prog W' 0 (fun b => decide (b < W.heap.size)) true 37 v2 d2 p2 :=
    fun W' hn => Below.trod laidOut (by kernel_rfl) (of_decide_eq_true (by kernel_rfl)) h2 hn hlt2
  obtain ⟨o2, c2, l2, rfl, r2, b2, k2, m2⟩ := bytes_view Try.underlying37 cells8 Try.underlying5 h2 hsl2
  have hlt3 : ∀ x ∈ p3, x.block < W.heap.size := fun x hx => by simpa using hW'.lt x (by simp [hx])
  have harg3 : ∀ (W' : World), Below W.heap.size W W' → DataW.Trod enc Try.prog W' 0 (fun b => decide (b < W.heap.size)) true 31 v3 d3 p3 :=
    fun W' hn => Below.trod laidOut (by kernel_rfl) (of_decide_eq_true (by kernel_rfl)) h3 hn hlt3
  obtain ⟨o3, c3, l3, rfl, r3, b3, k3, m3⟩ := u32s_view Try.underlying31 cellsU Try.underlying23 h3 hsl3
  have hlt4 : ∀ x ∈ p4, x.block < W.heap.size := fun x hx => by simpa using hW'.lt x (by simp [hx])
  have harg4 : ∀ (W' : World), Below W.heap.size W W' → DataW.Trod enc Try.prog W' 0 (fun b => decide (b < W.heap.size)) true 37 v4 d4 p4 :=
    fun W' hn => Below.trod laidOut (by kernel_rfl) (of_decide_eq_true (by kernel_rfl)) h4 hn hlt4
  obtain ⟨o4, c4, l4, rfl, r4, b4, k4, m4⟩ := bytes_view Try.underlying37 cells8 Try.underlying5 h4 hsl4
  have hlt5 : ∀ x ∈ p5, x.block < W.heap.size := fun x hx => by simpa using hW'.lt x (by simp [hx])
  have harg5 : ∀ (W' : World), Below W.heap.size W W' → DataW.Trod enc Try.prog W' 0 (fun b => decide (b < W.heap.size)) true 31 v5 d5 p5 :=
    fun W' hn => Below.trod laidOut (by kernel_rfl) (of_decide_eq_true (by kernel_rfl)) h5 hn hlt5
  obtain ⟨o5, c5, l5, rfl, r5, b5, k5, m5⟩ := u32s_view Try.underlying31 cellsU Try.underlying23 h5 hsl5
  refine (walk a0 w0 a1 w1 o2 c2 l2 b2 k2 m2 o3 c3 l3 b3 k3 m3 o4 c4 l4 b4 k4 m4 o5 c5 l5 b5 k5 m5 W r2 r3 r4 r5).mono fun e W' ⟨he, hg⟩ => ?_
  subst he
  refine ⟨_, rfl, _, _, _, [], ([] : List MemPlace) ++ (([] : List MemPlace) ++ (p2 ++ (p3 ++ (p4 ++ (p5))))), [], hW', ?_, ?_, rfl, hg.frame _, fun h => by cases h⟩
  · exact trodAll_mk1 (shut_bool Try.underlying4 true)
  · exact trodAll_mk6 (shut_int Try.underlying3 w0) (shut_int Try.underlying3 w1) (harg2 _ hg) (harg3 _ hg) (harg4 _ hg) (harg5 _ hg)

theorem over : Rows.treeFindsRow.holds Try.pinned (OpenSpec.ofChange Rows.treeFindsSpec) :=
  OpenClaim.holds_of_wide 6 Try.f6 rfl rfl rfl rfl rfl rfl rfl ⟨rfl, rfl, rfl, rfl, rfl⟩ rfl rfl rfl rfl rfl (by kernel_rfl) Try.func6 (by kernel_rfl)
    (of_decide_eq_true (by kernel_rfl)) (by unfold Func.isWrapper; first | (rw [if_pos (by decide +kernel)]; kernel_rfl) | (rw [if_neg (by decide +kernel)]; exact ⟨rfl, rfl⟩))
    (fun os started H enc _ => lifted os started H enc)

/-- ████ THE STATEMENT ████ -/
theorem proved : Rows.TreeFindsSaid :=
  over

end Go.Proofs.Ythjmmibfgphlhaa.treeFinds
