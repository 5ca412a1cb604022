/-
  MERKLE: for any leafs, any place, and any other leaf with any proof that leads to their root there: two texts that are not the same, with one sum, are told.
-/
import Derived.Test.YthjmmibfgphlhaaRows
import Derived.Test.YthjmmibfgphlhaaCalls149
import Derived.WalkKit
import Derived.ProofKit
import Derived.OpenShut
import Derived.Carry
namespace Go.Proofs.Ythjmmibfgphlhaa.treeBinds
open Go.ChangeShapes Go.WideShapes Go.ChangeAt Go.RowKit Go.Deep Go.Proofs.Ythjmmibfgphlhaa.Base Go.Proofs.Ythjmmibfgphlhaa.Base2 Go.Proofs.Ythjmmibfgphlhaa.Base7 Go.Proofs.Ythjmmibfgphlhaa.Base8 Go.Proofs.Ythjmmibfgphlhaa.Base9 Go.Proofs.Ythjmmibfgphlhaa.Num55 Go.Proofs.Ythjmmibfgphlhaa.Num60 Go.Proofs.Ythjmmibfgphlhaa.Calls126 Go.Proofs.Ythjmmibfgphlhaa.Calls127 Go.Proofs.Ythjmmibfgphlhaa.Calls128 Go.Proofs.Ythjmmibfgphlhaa.Calls133 Go.Proofs.Ythjmmibfgphlhaa.Calls134 Go.Proofs.Ythjmmibfgphlhaa.Calls135 Go.Proofs.Ythjmmibfgphlhaa.Calls136 Go.Proofs.Ythjmmibfgphlhaa.Calls137 Go.Proofs.Ythjmmibfgphlhaa.Calls138 Go.Proofs.Ythjmmibfgphlhaa.Calls139 Go.Proofs.Ythjmmibfgphlhaa.Calls141 Go.Proofs.Ythjmmibfgphlhaa.Calls142 Go.Proofs.Ythjmmibfgphlhaa.Calls143 Go.Proofs.Ythjmmibfgphlhaa.Calls144 Go.Proofs.Ythjmmibfgphlhaa.Calls145 Go.Proofs.Ythjmmibfgphlhaa.Calls146 Go.Proofs.Ythjmmibfgphlhaa.Calls147 Go.Proofs.Ythjmmibfgphlhaa.Calls148 Go.Proofs.Ythjmmibfgphlhaa.Calls149
set_option linter.unusedVariables false

theorem own : ownKnob Try.prog.godebug = none := by kernel_rfl

theorem laidOut : laidOutB Try.prog = true := by kernel_rfl

theorem cells2 : Try.prog.cellsOf 2 = 1 := by kernel_rfl

theorem cells8 : Try.prog.cellsOf 5 = 1 := by kernel_rfl

theorem cellsZ : Try.prog.cellsOf 37 = 1 := by kernel_rfl

theorem cellsU : Try.prog.cellsOf 23 = 1 := by kernel_rfl

set_option maxRecDepth 100000 in
set_option maxHeartbeats 4000000 in
theorem walkA (ad : Addr) (c : Nat) (l : List (List Nat)) (m : l.length ≤ 9223372036854775807) (hx : LfC l 0) (i0 : Nat) (hi : i0 < l.length) (h : Nat) (h6 : h ≤ 6) (ht : Top l.length h) (lo po : Option Addr) (lc pc : Nat) (b q : List Nat) (hbb : Byt b) (mb : b.length ≤ 9223372036854775807) (hqc : q.length ≤ pc) (d : Int) (hd : PlC (l.length : Int) (i0 : Int) b.length q.length d) (h0 : d ≠ 0) (w : World) (r : YRows w (some ad) l) (rb : YRow w lo b) (rq : URow w po q) :
    Calls Try.prog 8 #[.slice (some ad) l.length c, .int .i64 (i0 : Int), .slice lo b.length lc, .slice po q.length pc] w fun e w' => e = .returned (.bool true) ∧ Below w.heap.size w w' := by
  have hL := hx.ok
  obtain ⟨bo, cc, c1, hr1, hby, hcc, hlm⟩ := r.2 ad rfl i0 hi
  have hsh := hL.short _ (yr_mem hi)
  have hpr := pf_root hi ht
  have hgd := pf_good l i0 h
  have hfw := pf_few (L := l) (i := i0) h6
  have cA := Root_yes (some ad) c l hx h ht w r
  have cB := hid (fun (w' : World) (hB : Below w.heap.size w w') => Prove_yes (some ad) c l i0 hx hi h h6 ht w' (yrb r hB))
  have cC := hid (fun (w' : World) (hB : Below w.heap.size w w') => refLeafsCheck_any (some ad) c l 0 hx m w' (yrb r hB))
  obtain ⟨p, hp⟩ : ∃ p, p = pf l.length i0 (lf l) h := ⟨_, rfl⟩
  rw [← hp] at hpr hgd hfw cB
  obtain ⟨a, haa⟩ : ∃ a, a = yr l i0 := ⟨_, rfl⟩
  rw [← haa] at hpr hsh hr1 hby c1 hlm
  have hga : true = true ↔ GoodP l.length i0 p h := ⟨fun _ => hgd, fun _ => rfl⟩
  have cD := hid (fun pb pc' (w' : World) (hpc : p.length ≤ pc') (hB : Below w.heap.size w w') (rp : URow w' pb p) => Check_yes ((rt l h : Nat) : Int) l.length i0 hL.one hL.few hi h h6 ht bo pb cc pc' a p hsh hby hfw hpc true ⟨fun _ => ⟨hgd, by rw [hpr]⟩, fun _ => rfl⟩ w' (yb' hr1 hB) rp)
  have h1 : ¬ (i0 : Int) < 0 := by omega
  have d1 : decide ((i0 : Int) < 0) = false := decide_eq_false h1
  have h2 : ¬ (l.length : Int) ≤ (i0 : Int) := by omega
  have d2 : decide ((l.length : Int) ≤ (i0 : Int)) = false := decide_eq_false h2
  have h3 : (0 : Int) ≤ (i0 : Int) := by omega
  have h4 : (i0 : Int) < (l.length : Int) := by omega
  have C1 := hid c1
  have cI := hid (fun (w' : World) (hB : Below w.heap.size w w') => Check_bad ((rt l h : Nat) : Int) (l.length : Int) (i0 : Int) lo po b.length q.length lc pc d hd h0 mb w')
  have hc0 : PlC (l.length : Int) (i0 : Int) a.length p.length 0 := .inr ⟨by have := hL.one; have := hL.few; omega, .inr ⟨by omega, rfl⟩⟩
  have cK := hid (fun (pb : Option Addr) (pc' : Nat) (w' : World) (hpc : p.length ≤ pc') (hB : Below w.heap.size w w') (rp : URow w' pb p) => Clash_second (l.length : Int) (i0 : Int) bo pb lo po a.length cc p.length pc' b.length lc q.length pc d hc0 hd h0 (by omega) mb w')
  have hx2 : (d == 0) = false := by simpa using h0
  have hx3 : (d != 0) = true := by simpa using h0
  generalize rt l h = s at *
  generalize a.length = na at *
  generalize b.length = nb at *
  generalize q.length = nq at *
  generalize l.length = n at *
  clear hc0 hd
  clear r rb rq hbb hx hL ht hgd hpr hga hr1 hby hlm c1 hp haa
  go_enter Try.func8, Try.ntmps8
  go_wp2_with (first
    | (go_at_call 9; refine cA.mono ?_; rintro e w1 ⟨rfl, hB1⟩; have HB1 := hid hB1; clear hB1)
    | (go_at_call 13; refine (cB.out _ HB1.out).mono ?_; rintro e w2 ⟨⟨b2, c2, rfl, hc2, hr2⟩, hB2⟩; have HR2 := hid hr2; have HC2 := hid hc2; have HB2 := hid (below_trans HB1.out hB2); clear hB2 hr2 hc2)
    | (go_at_call 10; refine (cC.out _ HB2.out).mono ?_; rintro e w3 ⟨rfl, hw⟩; subst w3)
    | (go_at_call 16; refine (cI.out _ HB2.out).mono ?_; clear cI; rintro e w3 ⟨rfl, hw⟩; subst w3; have HB3 := HB2; have HR3 := HR2; have d3 := (HB3.out.cell (p := ad.add i0) (cell_lt C1.out)).trans C1.out)
    | (go_at_call 19; refine (cK.out b2 c2 _ HC2.out HB3.out HR3.out).mono ?_; clear cK; rintro e w4 ⟨rfl, hw⟩; subst w4; have HB4 := HB3; have HR4 := HR3; have d4 := (HB4.out.cell (p := ad.add i0) (cell_lt C1.out)).trans C1.out)
    | (go_at_call 16; refine (cD.out b2 c2 _ HC2.out HB4.out HR4.out).mono ?_; clear cD; rintro e w5 ⟨rfl, hB⟩; have HB5 := hid (below_trans HB4.out hB); clear hB))
  go_ret
  exact ⟨rfl, HB5.out⟩

set_option maxRecDepth 100000 in
set_option maxHeartbeats 4000000 in
theorem walkB (ad : Addr) (c : Nat) (l : List (List Nat)) (m : l.length ≤ 9223372036854775807) (hx : LfC l 0) (i0 : Nat) (hi : i0 < l.length) (h : Nat) (h6 : h ≤ 6) (ht : Top l.length h) (lo po : Option Addr) (lc pc : Nat) (b q : List Nat) (hbb : Byt b) (mb : b.length ≤ 9223372036854775807) (hqc : q.length ≤ pc) (hb4 : b.length ≤ 4095) (hq64 : q.length ≤ 64) (hgb : false = true ↔ GoodP l.length i0 q h) (w : World) (r : YRows w (some ad) l) (rb : YRow w lo b) (rq : URow w po q) :
    Calls Try.prog 8 #[.slice (some ad) l.length c, .int .i64 (i0 : Int), .slice lo b.length lc, .slice po q.length pc] w fun e w' => e = .returned (.bool true) ∧ Below w.heap.size w w' := by
  have hL := hx.ok
  obtain ⟨bo, cc, c1, hr1, hby, hcc, hlm⟩ := r.2 ad rfl i0 hi
  have hsh := hL.short _ (yr_mem hi)
  have hpr := pf_root hi ht
  have hgd := pf_good l i0 h
  have hfw := pf_few (L := l) (i := i0) h6
  have cA := Root_yes (some ad) c l hx h ht w r
  have cB := hid (fun (w' : World) (hB : Below w.heap.size w w') => Prove_yes (some ad) c l i0 hx hi h h6 ht w' (yrb r hB))
  have cC := hid (fun (w' : World) (hB : Below w.heap.size w w') => refLeafsCheck_any (some ad) c l 0 hx m w' (yrb r hB))
  obtain ⟨p, hp⟩ : ∃ p, p = pf l.length i0 (lf l) h := ⟨_, rfl⟩
  rw [← hp] at hpr hgd hfw cB
  obtain ⟨a, haa⟩ : ∃ a, a = yr l i0 := ⟨_, rfl⟩
  rw [← haa] at hpr hsh hr1 hby c1 hlm
  have hga : true = true ↔ GoodP l.length i0 p h := ⟨fun _ => hgd, fun _ => rfl⟩
  have cD := hid (fun pb pc' (w' : World) (hpc : p.length ≤ pc') (hB : Below w.heap.size w w') (rp : URow w' pb p) => Check_yes ((rt l h : Nat) : Int) l.length i0 hL.one hL.few hi h h6 ht bo pb cc pc' a p hsh hby hfw hpc true ⟨fun _ => ⟨hgd, by rw [hpr]⟩, fun _ => rfl⟩ w' (yb' hr1 hB) rp)
  have h1 : ¬ (i0 : Int) < 0 := by omega
  have d1 : decide ((i0 : Int) < 0) = false := decide_eq_false h1
  have h2 : ¬ (l.length : Int) ≤ (i0 : Int) := by omega
  have d2 : decide ((l.length : Int) ≤ (i0 : Int)) = false := decide_eq_false h2
  have h3 : (0 : Int) ≤ (i0 : Int) := by omega
  have h4 : (i0 : Int) < (l.length : Int) := by omega
  have C1 := hid c1
  have cI := hid (fun (w' : World) (hB : Below w.heap.size w w') => Check_yes ((rt l h : Nat) : Int) l.length i0 hL.one hL.few hi h h6 ht lo po lc pc b q hb4 hbb hq64 hqc false ⟨fun e => (by cases e), fun e => hgb.2 e.1⟩ w' (yb' rb hB) (ub rq hB))
  have cK := hid (fun (pb : Option Addr) (pc' : Nat) (w' : World) (hpc : p.length ≤ pc') (hB : Below w.heap.size w w') (rp : URow w' pb p) => formB l.length i0 hL.one hL.few hi h h6 ht bo pb lo po cc pc' lc pc a p b q hsh hby hfw hpc hb4 hbb hq64 hqc false hga hgb w' (yb' hr1 hB) rp (yb' rb hB) (ub rq hB))
  generalize rt l h = s at *
  generalize a.length = na at *
  generalize b.length = nb at *
  generalize q.length = nq at *
  generalize l.length = n at *
  clear hgb
  clear r rb rq hbb hx hL ht hgd hpr hga hr1 hby hlm c1 hp haa
  go_enter Try.func8, Try.ntmps8
  go_wp2_with (first
    | (go_at_call 9; refine cA.mono ?_; rintro e w1 ⟨rfl, hB1⟩; have HB1 := hid hB1; clear hB1)
    | (go_at_call 13; refine (cB.out _ HB1.out).mono ?_; rintro e w2 ⟨⟨b2, c2, rfl, hc2, hr2⟩, hB2⟩; have HR2 := hid hr2; have HC2 := hid hc2; have HB2 := hid (below_trans HB1.out hB2); clear hB2 hr2 hc2)
    | (go_at_call 10; refine (cC.out _ HB2.out).mono ?_; rintro e w3 ⟨rfl, hw⟩; subst w3)
    | (go_at_call 16; refine (cI.out _ HB2.out).mono ?_; clear cI; rintro e w3 ⟨rfl, hB⟩; have HB3 := hid (below_trans HB2.out hB); have HR3 := hid (ub HR2.out hB); have d3 := (HB3.out.cell (p := ad.add i0) (cell_lt C1.out)).trans C1.out; clear hB)
    | (go_at_call 19; refine (cK.out b2 c2 _ HC2.out HB3.out HR3.out).mono ?_; clear cK; rintro e w4 ⟨rfl, hB⟩; have HB4 := hid (below_trans HB3.out hB); have HR4 := hid (ub HR3.out hB); have d4 := (HB4.out.cell (p := ad.add i0) (cell_lt C1.out)).trans C1.out; clear hB)
    | (go_at_call 16; refine (cD.out b2 c2 _ HC2.out HB4.out HR4.out).mono ?_; clear cD; rintro e w5 ⟨rfl, hB⟩; have HB5 := hid (below_trans HB4.out hB); clear hB))
  go_ret
  exact ⟨rfl, HB5.out⟩

set_option maxRecDepth 100000 in
set_option maxHeartbeats 4000000 in
theorem walkC (ad : Addr) (c : Nat) (l : List (List Nat)) (m : l.length ≤ 9223372036854775807) (hx : LfC l 0) (i0 : Nat) (hi : i0 < l.length) (h : Nat) (h6 : h ≤ 6) (ht : Top l.length h) (lo po : Option Addr) (lc pc : Nat) (b q : List Nat) (hbb : Byt b) (mb : b.length ≤ 9223372036854775807) (hqc : q.length ≤ pc) (hb4 : b.length ≤ 4095) (hq64 : q.length ≤ 64) (hgb : true = true ↔ GoodP l.length i0 q h) (hne : kn l.length i0 q b h ≠ rt l h) (w : World) (r : YRows w (some ad) l) (rb : YRow w lo b) (rq : URow w po q) :
    Calls Try.prog 8 #[.slice (some ad) l.length c, .int .i64 (i0 : Int), .slice lo b.length lc, .slice po q.length pc] w fun e w' => e = .returned (.bool true) ∧ Below w.heap.size w w' := by
  have hL := hx.ok
  obtain ⟨bo, cc, c1, hr1, hby, hcc, hlm⟩ := r.2 ad rfl i0 hi
  have hsh := hL.short _ (yr_mem hi)
  have hpr := pf_root hi ht
  have hgd := pf_good l i0 h
  have hfw := pf_few (L := l) (i := i0) h6
  have cA := Root_yes (some ad) c l hx h ht w r
  have cB := hid (fun (w' : World) (hB : Below w.heap.size w w') => Prove_yes (some ad) c l i0 hx hi h h6 ht w' (yrb r hB))
  have cC := hid (fun (w' : World) (hB : Below w.heap.size w w') => refLeafsCheck_any (some ad) c l 0 hx m w' (yrb r hB))
  obtain ⟨p, hp⟩ : ∃ p, p = pf l.length i0 (lf l) h := ⟨_, rfl⟩
  rw [← hp] at hpr hgd hfw cB
  obtain ⟨a, haa⟩ : ∃ a, a = yr l i0 := ⟨_, rfl⟩
  rw [← haa] at hpr hsh hr1 hby c1 hlm
  have hga : true = true ↔ GoodP l.length i0 p h := ⟨fun _ => hgd, fun _ => rfl⟩
  have cD := hid (fun pb pc' (w' : World) (hpc : p.length ≤ pc') (hB : Below w.heap.size w w') (rp : URow w' pb p) => Check_yes ((rt l h : Nat) : Int) l.length i0 hL.one hL.few hi h h6 ht bo pb cc pc' a p hsh hby hfw hpc true ⟨fun _ => ⟨hgd, by rw [hpr]⟩, fun _ => rfl⟩ w' (yb' hr1 hB) rp)
  have h1 : ¬ (i0 : Int) < 0 := by omega
  have d1 : decide ((i0 : Int) < 0) = false := decide_eq_false h1
  have h2 : ¬ (l.length : Int) ≤ (i0 : Int) := by omega
  have d2 : decide ((l.length : Int) ≤ (i0 : Int)) = false := decide_eq_false h2
  have h3 : (0 : Int) ≤ (i0 : Int) := by omega
  have h4 : (i0 : Int) < (l.length : Int) := by omega
  have C1 := hid c1
  have cI := hid (fun (w' : World) (hB : Below w.heap.size w w') => Check_yes ((rt l h : Nat) : Int) l.length i0 hL.one hL.few hi h h6 ht lo po lc pc b q hb4 hbb hq64 hqc false ⟨fun e => (by cases e), fun e => absurd (by have := e.2; omega) hne⟩ w' (yb' rb hB) (ub rq hB))
  have hne2 : kn l.length i0 p a h ≠ kn l.length i0 q b h := by rw [hpr]; exact fun e => hne e.symm
  have cK := hid (fun (pb : Option Addr) (pc' : Nat) (w' : World) (hpc : p.length ≤ pc') (hB : Below w.heap.size w w') (rp : URow w' pb p) => formC l.length i0 hL.one hL.few hi h h6 ht bo pb lo po cc pc' lc pc a p b q hsh hby hfw hpc hb4 hbb hq64 hqc hga hgb hne2 w' (yb' hr1 hB) rp (yb' rb hB) (ub rq hB))
  clear hgb hne hne2
  generalize rt l h = s at *
  generalize a.length = na at *
  generalize b.length = nb at *
  generalize q.length = nq at *
  generalize l.length = n at *
  clear r rb rq hbb hx hL ht hgd hpr hga hr1 hby hlm c1 hp haa
  go_enter Try.func8, Try.ntmps8
  go_wp2_with (first
    | (go_at_call 9; refine cA.mono ?_; rintro e w1 ⟨rfl, hB1⟩; have HB1 := hid hB1; clear hB1)
    | (go_at_call 13; refine (cB.out _ HB1.out).mono ?_; rintro e w2 ⟨⟨b2, c2, rfl, hc2, hr2⟩, hB2⟩; have HR2 := hid hr2; have HC2 := hid hc2; have HB2 := hid (below_trans HB1.out hB2); clear hB2 hr2 hc2)
    | (go_at_call 10; refine (cC.out _ HB2.out).mono ?_; rintro e w3 ⟨rfl, hw⟩; subst w3)
    | (go_at_call 16; refine (cI.out _ HB2.out).mono ?_; clear cI; rintro e w3 ⟨rfl, hB⟩; have HB3 := hid (below_trans HB2.out hB); have HR3 := hid (ub HR2.out hB); have d3 := (HB3.out.cell (p := ad.add i0) (cell_lt C1.out)).trans C1.out; clear hB)
    | (go_at_call 19; refine (cK.out b2 c2 _ HC2.out HB3.out HR3.out).mono ?_; clear cK; rintro e w4 ⟨rfl, hB⟩; have HB4 := hid (below_trans HB3.out hB); have HR4 := hid (ub HR3.out hB); have d4 := (HB4.out.cell (p := ad.add i0) (cell_lt C1.out)).trans C1.out; clear hB)
    | (go_at_call 16; refine (cD.out b2 c2 _ HC2.out HB4.out HR4.out).mono ?_; clear cD; rintro e w5 ⟨rfl, hB⟩; have HB5 := hid (below_trans HB4.out hB); clear hB))
  go_ret
  exact ⟨rfl, HB5.out⟩

set_option maxRecDepth 100000 in
set_option maxHeartbeats 4000000 in
theorem walkD (ad : Addr) (c : Nat) (l : List (List Nat)) (m : l.length ≤ 9223372036854775807) (hx : LfC l 0) (i0 : Nat) (hi : i0 < l.length) (h : Nat) (h6 : h ≤ 6) (ht : Top l.length h) (lo po : Option Addr) (lc pc : Nat) (b q : List Nat) (hbb : Byt b) (mb : b.length ≤ 9223372036854775807) (hqc : q.length ≤ pc) (hb4 : b.length ≤ 4095) (hq64 : q.length ≤ 64) (hgb : true = true ↔ GoodP l.length i0 q h) (he : kn l.length i0 q b h = rt l h) (hab : yr l i0 = b) (w : World) (r : YRows w (some ad) l) (rb : YRow w lo b) (rq : URow w po q) :
    Calls Try.prog 8 #[.slice (some ad) l.length c, .int .i64 (i0 : Int), .slice lo b.length lc, .slice po q.length pc] w fun e w' => e = .returned (.bool true) ∧ Below w.heap.size w w' := by
  have hL := hx.ok
  obtain ⟨bo, cc, c1, hr1, hby, hcc, hlm⟩ := r.2 ad rfl i0 hi
  have hsh := hL.short _ (yr_mem hi)
  have hpr := pf_root hi ht
  have hgd := pf_good l i0 h
  have hfw := pf_few (L := l) (i := i0) h6
  have cA := Root_yes (some ad) c l hx h ht w r
  have cB := hid (fun (w' : World) (hB : Below w.heap.size w w') => Prove_yes (some ad) c l i0 hx hi h h6 ht w' (yrb r hB))
  have cC := hid (fun (w' : World) (hB : Below w.heap.size w w') => refLeafsCheck_any (some ad) c l 0 hx m w' (yrb r hB))
  obtain ⟨p, hp⟩ : ∃ p, p = pf l.length i0 (lf l) h := ⟨_, rfl⟩
  rw [← hp] at hpr hgd hfw cB
  obtain ⟨a, haa⟩ : ∃ a, a = yr l i0 := ⟨_, rfl⟩
  rw [← haa] at hpr hsh hr1 hby c1 hlm
  have hga : true = true ↔ GoodP l.length i0 p h := ⟨fun _ => hgd, fun _ => rfl⟩
  have cD := hid (fun pb pc' (w' : World) (hpc : p.length ≤ pc') (hB : Below w.heap.size w w') (rp : URow w' pb p) => Check_yes ((rt l h : Nat) : Int) l.length i0 hL.one hL.few hi h h6 ht bo pb cc pc' a p hsh hby hfw hpc true ⟨fun _ => ⟨hgd, by rw [hpr]⟩, fun _ => rfl⟩ w' (yb' hr1 hB) rp)
  have h1 : ¬ (i0 : Int) < 0 := by omega
  have d1 : decide ((i0 : Int) < 0) = false := decide_eq_false h1
  have h2 : ¬ (l.length : Int) ≤ (i0 : Int) := by omega
  have d2 : decide ((l.length : Int) ≤ (i0 : Int)) = false := decide_eq_false h2
  have h3 : (0 : Int) ≤ (i0 : Int) := by omega
  have h4 : (i0 : Int) < (l.length : Int) := by omega
  have C1 := hid c1
  have cI := hid (fun (w' : World) (hB : Below w.heap.size w w') => Check_yes ((rt l h : Nat) : Int) l.length i0 hL.one hL.few hi h h6 ht lo po lc pc b q hb4 hbb hq64 hqc true ⟨fun _ => ⟨hgb.1 rfl, by rw [he]⟩, fun _ => rfl⟩ w' (yb' rb hB) (ub rq hB))
  have he2 : kn l.length i0 p a h = kn l.length i0 q b h := by rw [hpr]; exact he.symm
  rw [← haa] at hab
  have cK := hid (fun (pb : Option Addr) (pc' : Nat) (w' : World) (hpc : p.length ≤ pc') (hB : Below w.heap.size w w') (rp : URow w' pb p) => Clash_none l.length i0 hL.one hL.few hi h h6 ht bo pb lo po cc pc' lc pc a p b q hsh hby hfw hpc hb4 hbb hq64 hqc hga hgb he2 hab w' (yb' hr1 hB) rp (yb' rb hB) (ub rq hB))
  have cY := hid (fun (w' : World) (hB : Below w.heap.size w w') => refBytes_any bo lo cc lc a b true ⟨fun _ => hab, fun _ => rfl⟩ (by omega) w' (yb' hr1 hB) (yb' rb hB))
  clear hgb he he2 hab
  generalize rt l h = s at *
  generalize a.length = na at *
  generalize b.length = nb at *
  generalize q.length = nq at *
  generalize l.length = n at *
  clear r rb rq hbb hx hL ht hgd hpr hga hr1 hby hlm c1 hp haa
  go_enter Try.func8, Try.ntmps8
  go_wp2_with (first
    | (go_at_call 9; refine cA.mono ?_; rintro e w1 ⟨rfl, hB1⟩; have HB1 := hid hB1; clear hB1)
    | (go_at_call 13; refine (cB.out _ HB1.out).mono ?_; rintro e w2 ⟨⟨b2, c2, rfl, hc2, hr2⟩, hB2⟩; have HR2 := hid hr2; have HC2 := hid hc2; have HB2 := hid (below_trans HB1.out hB2); clear hB2 hr2 hc2)
    | (go_at_call 10; refine (cC.out _ HB2.out).mono ?_; rintro e w3 ⟨rfl, hw⟩; subst w3)
    | (go_at_call 16; refine (cI.out _ HB2.out).mono ?_; clear cI; rintro e w3 ⟨rfl, hB⟩; have HB3 := hid (below_trans HB2.out hB); have HR3 := hid (ub HR2.out hB); have d3 := (HB3.out.cell (p := ad.add i0) (cell_lt C1.out)).trans C1.out; clear hB)
    | (go_at_call 19; refine (cK.out b2 c2 _ HC2.out HB3.out HR3.out).mono ?_; clear cK; rintro e w4 ⟨rfl, hB⟩; have HB4 := hid (below_trans HB3.out hB); have HR4 := hid (ub HR3.out hB); have d4 := (HB4.out.cell (p := ad.add i0) (cell_lt C1.out)).trans C1.out; clear hB)
    | (go_at_call 16; refine (cD.out b2 c2 _ HC2.out HB4.out HR4.out).mono ?_; clear cD; rintro e w5 ⟨rfl, hB⟩; have HB5 := hid (below_trans HB4.out hB); have d5 := (HB5.out.cell (p := ad.add i0) (cell_lt C1.out)).trans C1.out; clear hB)
    | (go_at_call 21; refine (cY.out _ HB5.out).mono ?_; clear cY; rintro e w6 ⟨rfl, hB⟩; have HB6 := hid (below_trans HB5.out hB); clear hB))
  go_ret
  exact ⟨rfl, HB6.out⟩

set_option maxRecDepth 100000 in
set_option maxHeartbeats 4000000 in
theorem walkE (ad : Addr) (c : Nat) (l : List (List Nat)) (m : l.length ≤ 9223372036854775807) (hx : LfC l 0) (i0 : Nat) (hi : i0 < l.length) (h : Nat) (h6 : h ≤ 6) (ht : Top l.length h) (lo po : Option Addr) (lc pc : Nat) (b q : List Nat) (hbb : Byt b) (mb : b.length ≤ 9223372036854775807) (hqc : q.length ≤ pc) (hb4 : b.length ≤ 4095) (hq64 : q.length ≤ 64) (hgb : true = true ↔ GoodP l.length i0 q h) (he : kn l.length i0 q b h = rt l h) (hab : yr l i0 ≠ b) (w : World) (r : YRows w (some ad) l) (rb : YRow w lo b) (rq : URow w po q) :
    Calls Try.prog 8 #[.slice (some ad) l.length c, .int .i64 (i0 : Int), .slice lo b.length lc, .slice po q.length pc] w fun e w' => e = .returned (.bool true) ∧ Below w.heap.size w w' := by
  have hL := hx.ok
  obtain ⟨bo, cc, c1, hr1, hby, hcc, hlm⟩ := r.2 ad rfl i0 hi
  have hsh := hL.short _ (yr_mem hi)
  have hpr := pf_root hi ht
  have hgd := pf_good l i0 h
  have hfw := pf_few (L := l) (i := i0) h6
  have cA := Root_yes (some ad) c l hx h ht w r
  have cB := hid (fun (w' : World) (hB : Below w.heap.size w w') => Prove_yes (some ad) c l i0 hx hi h h6 ht w' (yrb r hB))
  have cC := hid (fun (w' : World) (hB : Below w.heap.size w w') => refLeafsCheck_any (some ad) c l 0 hx m w' (yrb r hB))
  obtain ⟨p, hp⟩ : ∃ p, p = pf l.length i0 (lf l) h := ⟨_, rfl⟩
  rw [← hp] at hpr hgd hfw cB
  obtain ⟨a, haa⟩ : ∃ a, a = yr l i0 := ⟨_, rfl⟩
  rw [← haa] at hpr hsh hr1 hby c1 hlm
  have hga : true = true ↔ GoodP l.length i0 p h := ⟨fun _ => hgd, fun _ => rfl⟩
  have cD := hid (fun pb pc' (w' : World) (hpc : p.length ≤ pc') (hB : Below w.heap.size w w') (rp : URow w' pb p) => Check_yes ((rt l h : Nat) : Int) l.length i0 hL.one hL.few hi h h6 ht bo pb cc pc' a p hsh hby hfw hpc true ⟨fun _ => ⟨hgd, by rw [hpr]⟩, fun _ => rfl⟩ w' (yb' hr1 hB) rp)
  have h1 : ¬ (i0 : Int) < 0 := by omega
  have d1 : decide ((i0 : Int) < 0) = false := decide_eq_false h1
  have h2 : ¬ (l.length : Int) ≤ (i0 : Int) := by omega
  have d2 : decide ((l.length : Int) ≤ (i0 : Int)) = false := decide_eq_false h2
  have h3 : (0 : Int) ≤ (i0 : Int) := by omega
  have h4 : (i0 : Int) < (l.length : Int) := by omega
  have C1 := hid c1
  have cI := hid (fun (w' : World) (hB : Below w.heap.size w w') => Check_yes ((rt l h : Nat) : Int) l.length i0 hL.one hL.few hi h h6 ht lo po lc pc b q hb4 hbb hq64 hqc true ⟨fun _ => ⟨hgb.1 rfl, by rw [he]⟩, fun _ => rfl⟩ w' (yb' rb hB) (ub rq hB))
  have he2 : kn l.length i0 p a h = kn l.length i0 q b h := by rw [hpr]; exact he.symm
  rw [← haa] at hab
  obtain ⟨f, hf⟩ := fst_ex (n := l.length) (i := i0) (h := h) (p := p) (a := a) (q := q) (b := b) he2
  have hf1 := hf.1
  have hee := hf.2.1
  have hnn := clash_ne hgd.1 (hgb.1 rfl).1 hab hf
  have fA := wl_at_fit (n := l.length) (i := i0) (p := p) hsh hby (k := h) (j := f) (by omega)
  have fB := wl_at_fit (n := l.length) (i := i0) (p := q) hb4 hbb (k := h) (j := f) (by omega)
  have cK := hid (fun (pb : Option Addr) (pc' : Nat) (w' : World) (hpc : p.length ≤ pc') (hB : Below w.heap.size w w') (rp : URow w' pb p) => Clash_yes l.length i0 hL.one hL.few hi h h6 ht bo pb lo po cc pc' lc pc a p b q hsh hby hfw hpc hb4 hbb hq64 hqc hga hgb he2 hab f hf w' (yb' hr1 hB) rp (yb' rb hB) (ub rq hB))
  have cY := hid (fun (w' : World) (hB : Below w.heap.size w w') => refBytes_any bo lo cc lc a b false ⟨fun e => (by cases e), fun e => absurd e hab⟩ (by omega) w' (yb' hr1 hB) (yb' rb hB))
  generalize yr (wl l.length i0 p a h) f = tA at *
  generalize yr (wl l.length i0 q b h) f = tB at *
  have cS := hid (fun so sc (w' : World) (hr : YRow w' so tA) => Sum_any so sc tA fA.1 fA.2.1 w' hr)
  have cT := hid (fun so sc (w' : World) (hr : YRow w' so tB) => Sum_any so sc tB fB.1 fB.2.1 w' hr)
  rw [← hee] at cT
  have cZ := hid (fun so to sc tc (w' : World) (hr : YRow w' so tA) (hr2 : YRow w' to tB) => refBytes_any so to sc tc tA tB false ⟨fun e => (by cases e), fun e => absurd e hnn⟩ (by have := fA.1; omega) w' hr hr2)
  clear hgb he he2 hab hf hf1 hee hnn fA fB
  generalize rt l h = s at *
  generalize a.length = na at *
  generalize b.length = nb at *
  generalize q.length = nq at *
  generalize l.length = n at *
  clear r rb rq hbb hx hL ht hgd hpr hga hr1 hby hlm c1 hp haa
  go_enter Try.func8, Try.ntmps8
  go_wp2_with (first
    | (go_at_call 9; refine cA.mono ?_; rintro e w1 ⟨rfl, hB1⟩; have HB1 := hid hB1; clear hB1)
    | (go_at_call 13; refine (cB.out _ HB1.out).mono ?_; rintro e w2 ⟨⟨b2, c2, rfl, hc2, hr2⟩, hB2⟩; have HR2 := hid hr2; have HC2 := hid hc2; have HB2 := hid (below_trans HB1.out hB2); clear hB2 hr2 hc2)
    | (go_at_call 10; refine (cC.out _ HB2.out).mono ?_; rintro e w3 ⟨rfl, hw⟩; subst w3)
    | (go_at_call 16; refine (cI.out _ HB2.out).mono ?_; clear cI; rintro e w3 ⟨rfl, hB⟩; have HB3 := hid (below_trans HB2.out hB); have HR3 := hid (ub HR2.out hB); have d3 := (HB3.out.cell (p := ad.add i0) (cell_lt C1.out)).trans C1.out; clear hB)
    | (go_at_call 19; refine (cK.out b2 c2 _ HC2.out HB3.out HR3.out).mono ?_; clear cK; rintro e w4 ⟨⟨so, sc, to, tc, rfl, _, _, hrs, hrt⟩, hB⟩; have HB4 := hid (below_trans HB3.out hB); have HR4 := hid (ub HR3.out hB); have d4 := (HB4.out.cell (p := ad.add i0) (cell_lt C1.out)).trans C1.out; have HS4 := hid hrs; have HT4 := hid hrt; clear hB hrs hrt)
    | (go_at_call 16; refine (cD.out b2 c2 _ HC2.out HB4.out HR4.out).mono ?_; clear cD; rintro e w5 ⟨rfl, hB⟩; have HB5 := hid (below_trans HB4.out hB); have d5 := (HB5.out.cell (p := ad.add i0) (cell_lt C1.out)).trans C1.out; have HS5 := hid (yb' HS4.out hB); have HT5 := hid (yb' HT4.out hB); clear hB)
    | (go_at_call 21; refine (cY.out _ HB5.out).mono ?_; clear cY; rintro e w6 ⟨rfl, hB⟩; have HB6 := hid (below_trans HB5.out hB); have HS6 := hid (yb' HS5.out hB); have HT6 := hid (yb' HT5.out hB); clear hB)
    | (go_at_call 23; refine (cS.out so sc _ HS6.out).mono ?_; clear cS; rintro e w7 ⟨rfl, hB⟩; have HB7 := hid (below_trans HB6.out hB); have HS7 := hid (yb' HS6.out hB); have HT7 := hid (yb' HT6.out hB); clear hB)
    | (go_at_call 23; refine (cT.out to tc _ HT7.out).mono ?_; clear cT; rintro e w8 ⟨rfl, hB⟩; have HB8 := hid (below_trans HB7.out hB); have HS8 := hid (yb' HS7.out hB); have HT8 := hid (yb' HT7.out hB); clear hB)
    | (go_at_call 21; refine (cZ.out so to sc tc _ HS8.out HT8.out).mono ?_; clear cZ; rintro e w9 ⟨rfl, hB⟩; have HB9 := hid (below_trans HB8.out hB); clear hB))
  go_ret
  exact ⟨rfl, HB9.out⟩

set_option maxRecDepth 100000 in
set_option maxHeartbeats 4000000 in
theorem walk (o : Option Addr) (c : Nat) (l : List (List Nat)) (k : l.length ≤ c) (m : l.length ≤ 9223372036854775807) (i : Int) (wi : (Lit.int .i64 i).wf = true) (lo : Option Addr) (lc : Nat) (b : List Nat) (hbb : ∀ x ∈ b, x < 256) (kb : b.length ≤ lc) (mb : b.length ≤ 9223372036854775807) (po : Option Addr) (pc : Nat) (q : List Nat) (hq : ∀ x ∈ q, x < 4294967296) (kq : q.length ≤ pc) (mq : q.length ≤ 9223372036854775807) (w : World) (r : YRows w o l) (rb : YRow w lo b) (rq : URow w po q) :
    Calls Try.prog 8 #[.slice o l.length c, .int .i64 i, .slice lo b.length lc, .slice po q.length pc] w fun e w' => e = .returned (.bool true) ∧ Below w.heap.size w w' := by
  obtain ⟨x, hx⟩ := lfc_ex l
  by_cases h0 : x = 0
  · subst h0
    have hL := hx.ok
    obtain ⟨h, hh, ht⟩ := top_six hL.one hL.few
    by_cases hb : i < 0 ∨ (l.length : Int) ≤ i
    · have cA := Root_yes o c l hx h ht w r
      have cC := hid (fun (w' : World) (hB : Below w.heap.size w w') => refLeafsCheck_any o c l 0 hx m w' (yrb r hB))
      have cB := hid (fun (w' : World) (hB : Below w.heap.size w w') => Prove_arg o c l i hx hb w' (yrb r hB))
      generalize l.length = n at *
      generalize b.length = nb at *
      generalize q.length = nq at *
      clear r hx hL ht rb rq hbb hq
      by_cases h1 : i < 0
      · have d1 : decide (i < 0) = true := decide_eq_true h1
        clear hb
        go_enter Try.func8, Try.ntmps8
        go_wp2_with (first
          | (go_at_call 9; refine cA.mono ?_; rintro e w1 ⟨rfl, hB1⟩; have HB1 := hid hB1; clear hB1)
          | (go_at_call 13; refine (cB.out _ HB1.out).mono ?_; rintro e w2 ⟨rfl, hw⟩; subst w2)
          | (go_at_call 10; refine (cC.out _ HB1.out).mono ?_; rintro e w2 ⟨rfl, hw⟩; subst w2))
        go_ret
        exact ⟨rfl, HB1.out⟩
      · have d1 : decide (i < 0) = false := decide_eq_false h1
        have h2 : (n : Int) ≤ i := by omega
        have d2 : decide ((n : Int) ≤ i) = true := decide_eq_true h2
        clear hb
        go_enter Try.func8, Try.ntmps8
        go_wp2_with (first
          | (go_at_call 9; refine cA.mono ?_; rintro e w1 ⟨rfl, hB1⟩; have HB1 := hid hB1; clear hB1)
          | (go_at_call 13; refine (cB.out _ HB1.out).mono ?_; rintro e w2 ⟨rfl, hw⟩; subst w2)
          | (go_at_call 10; refine (cC.out _ HB1.out).mono ?_; rintro e w2 ⟨rfl, hw⟩; subst w2))
        go_ret
        exact ⟨rfl, HB1.out⟩
    · obtain ⟨i0, rfl⟩ : ∃ q : Nat, i = (q : Int) := ⟨i.toNat, by omega⟩
      have hi : i0 < l.length := by omega
      rcases o with _ | ad
      · exact (yrows_none r hi).elim
      obtain ⟨d, hd⟩ := plc_ex (l.length : Int) (i0 : Int) b.length q.length
      by_cases h2 : d = 0
      · subst h2
        obtain ⟨_, _, _, _, hb4, hq64⟩ := hd.ok
        obtain ⟨gb, hgb⟩ := bool_of (GoodP l.length i0 q h)
        cases gb with
        | false => exact walkB ad c l m hx i0 hi h hh ht lo po lc pc b q hbb mb kq hb4 hq64 hgb w r rb rq
        | true =>
          by_cases he : kn l.length i0 q b h = rt l h
          · by_cases hab : yr l i0 = b
            · exact walkD ad c l m hx i0 hi h hh ht lo po lc pc b q hbb mb kq hb4 hq64 hgb he hab w r rb rq
            · exact walkE ad c l m hx i0 hi h hh ht lo po lc pc b q hbb mb kq hb4 hq64 hgb he hab w r rb rq
          · exact walkC ad c l m hx i0 hi h hh ht lo po lc pc b q hbb mb kq hb4 hq64 hgb he w r rb rq
      · exact walkA ad c l m hx i0 hi h hh ht lo po lc pc b q hbb mb kq d hd h2 w r rb rq
  · have cA := Root_bad o c l x hx h0 m w r
    have cB := Prove_bad o c l x i hx h0 m w r
    have cC := refLeafsCheck_any o c l x hx m w r
    have hx2 : (x == 0) = false := by simpa using h0
    have hx3 : (x != 0) = true := by simpa using h0
    clear r hx rb rq hbb hq
    generalize l.length = n at *
    generalize b.length = nb at *
    generalize q.length = nq at *
    go_enter Try.func8, Try.ntmps8
    go_wp2_with (first
      | (go_at_call 9; refine cA.mono ?_; rintro e w1 ⟨rfl, hw⟩; subst w1)
      | (go_at_call 13; refine cB.mono ?_; rintro e w1 ⟨rfl, hw⟩; subst w1)
      | (go_at_call 10; refine cC.mono ?_; rintro e w2 ⟨rfl, hw⟩; subst w2))
    go_ret
    exact ⟨rfl, Below.refl _ _⟩

set_option maxRecDepth 100000 in
theorem lifted (os : Os) (started : os.Started) (H : Type) (enc : TypeId × Value → H) :
    ReturnsInHanded {} Try.checked os 8 .any (Rows.treeBindsSpec.pre6 enc Try.prog Try.f8 Rows.treeBindsRow.domain false) (Rows.treeBindsSpec.post enc Try.prog Try.f8 false true false false) := by
  refine returnsInHanded_of_change (C := Try.checked) own started (by kernel_rfl) Try.func8
    (ChangeSpec.witness6 (enc := enc) (C := Try.checked) false ⟨#[], #[.slice none 0 0, .int .i64 0, .slice none 0 0, .slice none 0 0], []⟩ 8 (by kernel_rfl) (by kernel_rfl) (by kernel_rfl) (by kernel_rfl)) ?_
  intro W base args ds gs before hval0 hW hcnd _
  have hval : ∀ (j : Nat) t v, Try.f8.params[j]? = some t → args[j]? = some v → Value.okWide Try.prog W .any base t v := hval0
  have hW' := hW
  obtain ⟨p, q, hA0, hV, rfl, _, _⟩ := hW
  have hA : DataW.TrodAll enc Try.prog W 0 (fun _ => true) true Try.f8.params.toList args.toList ds p := hA0
  rw [Try.params8] at hA hval
  obtain ⟨v0, v1, v2, v3, d0, d1, d2, d3, p0, p1, p2, p3, rfl, rfl, rfl, h0, h1, h2, h3⟩ := trodAll_four hA
  obtain ⟨rfl, rfl⟩ := trodVars_none hV
  have hsl0 := okWide_slice Try.underlying22 (hval 0 22 v0 rfl rfl)
  obtain ⟨a1, rfl, rfl, rfl, w1⟩ := open_int Try.underlying3 (hval 1 3 v1 rfl rfl) h1
  have hsl2 := okWide_slice Try.underlying37 (hval 2 37 v2 rfl rfl)
  have hsl3 := okWide_slice Try.underlying31 (hval 3 31 v3 rfl rfl)
  clear hA0 hval0
  simp only [List.append_nil] at hW'
  have hlt0 : ∀ x ∈ p0, x.block < W.heap.size := fun x hx => by simpa using hW'.lt x (by simp [hx])
  have harg0 : ∀ (W' : World), Below W.heap.size W W' → DataW.Trod enc Try.prog W' 0 (fun b => decide (b < W.heap.size)) true 22 v0 d0 p0 :=
    fun W' hn => Below.trod laidOut (by kernel_rfl) (of_decide_eq_true (by kernel_rfl)) h0 hn hlt0
  obtain ⟨o0, c0, l0, rfl, r0, k0, m0⟩ := byterows_view Try.underlying22 cellsZ Try.underlying37 cells8 Try.underlying5 h0 hsl0
  have hlt2 : ∀ x ∈ p2, x.block < W.heap.size := fun x hx => by simpa using hW'.lt x (by simp [hx])
  have harg2 : ∀ (W' : World), Below W.heap.size W W' → DataW.Trod enc Try.prog W' 0 (fun b => decide (b < W.heap.size)) true 37 v2 d2 p2 :=
    fun W' hn => Below.trod laidOut (by kernel_rfl) (of_decide_eq_true (by kernel_rfl)) h2 hn hlt2
  obtain ⟨o2, c2, l2, rfl, r2, b2, k2, m2⟩ := bytes_view Try.underlying37 cells8 Try.underlying5 h2 hsl2
  have hlt3 : ∀ x ∈ p3, x.block < W.heap.size := fun x hx => by simpa using hW'.lt x (by simp [hx])
  have harg3 : ∀ (W' : World), Below W.heap.size W W' → DataW.Trod enc Try.prog W' 0 (fun b => decide (b < W.heap.size)) true 31 v3 d3 p3 :=
    fun W' hn => Below.trod laidOut (by kernel_rfl) (of_decide_eq_true (by kernel_rfl)) h3 hn hlt3
  obtain ⟨o3, c3, l3, rfl, r3, b3, k3, m3⟩ := u32s_view Try.underlying31 cellsU Try.underlying23 h3 hsl3
  refine (walk o0 c0 l0 k0 m0 a1 w1 o2 c2 l2 b2 k2 m2 o3 c3 l3 b3 k3 m3 W r0 r2 r3).mono fun e W' ⟨he, hg⟩ => ?_
  subst he
  refine ⟨_, rfl, _, _, _, [], p0 ++ (([] : List MemPlace) ++ (p2 ++ (p3))), [], hW', ?_, ?_, rfl, hg.frame _, fun h => by cases h⟩
  · exact trodAll_mk1 (shut_bool Try.underlying4 true)
  · exact trodAll_mk4 (harg0 _ hg) (shut_int Try.underlying3 w1) (harg2 _ hg) (harg3 _ hg)

theorem over : Rows.treeBindsRow.holds Try.pinned (OpenSpec.ofChange Rows.treeBindsSpec) :=
  OpenClaim.holds_of_wide 8 Try.f8 rfl rfl rfl rfl rfl rfl rfl ⟨rfl, rfl, rfl, rfl, rfl⟩ rfl rfl rfl rfl rfl (by kernel_rfl) Try.func8 (by kernel_rfl)
    (of_decide_eq_true (by kernel_rfl)) (by unfold Func.isWrapper; first | (rw [if_pos (by decide +kernel)]; kernel_rfl) | (rw [if_neg (by decide +kernel)]; exact ⟨rfl, rfl⟩))
    (fun os started H enc _ => lifted os started H enc)

/-- ████ THE STATEMENT ████ -/
theorem proved : Rows.TreeBindsSaid :=
  over

end Go.Proofs.Ythjmmibfgphlhaa.treeBinds
