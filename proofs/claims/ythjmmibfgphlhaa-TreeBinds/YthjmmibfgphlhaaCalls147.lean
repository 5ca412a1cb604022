/-
  Where two leafs clash: package tree's Clash, where nothing is wrong with the places.
-/
import Derived.Test.YthjmmibfgphlhaaCalls146
import Derived.Deep.RegionHeld3
namespace Go.Proofs.Ythjmmibfgphlhaa.Calls147
set_option linter.unusedVariables false
open Go.ChangeShapes Go.WideShapes Go.ChangeAt Go.RowKit Go.Deep Go.Proofs.Ythjmmibfgphlhaa.Base Go.Proofs.Ythjmmibfgphlhaa.Base2 Go.Proofs.Ythjmmibfgphlhaa.Base7 Go.Proofs.Ythjmmibfgphlhaa.Base8 Go.Proofs.Ythjmmibfgphlhaa.Base9 Go.Proofs.Ythjmmibfgphlhaa.Num55 Go.Proofs.Ythjmmibfgphlhaa.Num60 Go.Proofs.Ythjmmibfgphlhaa.Calls126 Go.Proofs.Ythjmmibfgphlhaa.Calls127 Go.Proofs.Ythjmmibfgphlhaa.Calls128 Go.Proofs.Ythjmmibfgphlhaa.Calls133 Go.Proofs.Ythjmmibfgphlhaa.Calls134 Go.Proofs.Ythjmmibfgphlhaa.Calls135 Go.Proofs.Ythjmmibfgphlhaa.Calls141 Go.Proofs.Ythjmmibfgphlhaa.Calls142 Go.Proofs.Ythjmmibfgphlhaa.Calls143 Go.Proofs.Ythjmmibfgphlhaa.Calls144 Go.Proofs.Ythjmmibfgphlhaa.Calls146

/-- The lowest place at which two rows of texts have one sum. -/
def Fst (A B : List (List Nat)) (K s : Nat) : Prop := s < K ∧ sum (yr A s) = sum (yr B s) ∧ ∀ j, j < s → sum (yr A j) ≠ sum (yr B j)

theorem Fst.uniq {A B : List (List Nat)} {K s t : Nat} (h : Fst A B K s) (h' : Fst A B K t) : s = t := by
  rcases Nat.lt_trichotomy s t with e | e | e
  · exact absurd h.2.1 (h'.2.2 s e)
  · exact e
  · exact absurd h'.2.1 (h.2.2 t e)

theorem fst_ex {n i h : Nat} {p a q b : List Nat} (he : kn n i p a h = kn n i q b h) : ∃ s, Fst (wl n i p a h) (wl n i q b h) (us n i h + 1) s := by
  obtain ⟨s, h1, h2, h3⟩ := least_place (P := fun s => sum (yr (wl n i p a h) s) = sum (yr (wl n i q b h) s)) (us n i h + 1) ⟨us n i h, by omega, by rw [wl_end, wl_end]; exact he⟩
  exact ⟨s, h1, h2, h3⟩

/-- The call has returned two texts. -/
def ClashR (A B : List Nat) (e : Ending) (w' : World) : Prop := ∃ so sc to tc, e = .returned (.tuple #[.slice so A.length sc, .slice to B.length tc, .int .i64 0]) ∧ A.length ≤ sc ∧ B.length ≤ tc ∧ YRow w' so A ∧ YRow w' to B

theorem wtab_form {W : World} {base : Nat} {v : Value} {u : Nat} {A : List (List Nat)} (h : WTab W base v (u + 1) A) : ∃ G C, v = .slice (some ⟨G, 0, none⟩) (u + 1) C ∧ u + 1 ≤ C := by
  obtain ⟨G, C, h1, h2, _⟩ := h.text (j := 0) (by omega)
  exact ⟨G, C, h1, h2⟩

theorem wtab_cell {W : World} {base G K C : Nat} {A : List (List Nat)} (h : WTab W base (.slice (some ⟨G, 0, none⟩) K C) K A) {j : Nat} (hj : j < K) :
    ∃ g c, W.cell? ⟨G, j, none⟩ = some (.slice (some ⟨g, 0, none⟩) (yr A j).length c) ∧ (yr A j).length ≤ c ∧ YRow W (some ⟨g, 0, none⟩) (yr A j) := by
  obtain ⟨G', C', h1, h2, g, c, h3, h4, h5⟩ := h.text hj
  simp only [Value.slice.injEq, Option.some.injEq, Addr.mk.injEq, and_true, true_and] at h1
  obtain ⟨rfl, rfl⟩ := h1
  exact ⟨g, c, h3, h4, h5⟩

set_option maxRecDepth 100000 in
set_option maxHeartbeats 4000000 in
theorem formA (n0 i0 : Nat) (h1 : 1 ≤ n0) (h64 : n0 ≤ 64) (hi : i0 < n0) (h : Nat) (h6 : h ≤ 6) (ht : Top n0 h) (ao po bo qo : Option Addr) (ca cp cb cq : Nat) (a p b q : List Nat) (ha : a.length ≤ 4095) (hba : Byt a) (hp64 : p.length ≤ 64) (hpc : p.length ≤ cp) (hb : b.length ≤ 4095) (hbb : Byt b) (hq64 : q.length ≤ 64) (hqc : q.length ≤ cq) (gb : Bool) (hga : false = true ↔ GoodP n0 i0 p h) (hgb : gb = true ↔ GoodP n0 i0 q h) (w : World) (ra : YRow w ao a) (rp : URow w po p) (rb : YRow w bo b) (rq : URow w qo q) :
    Calls Try.prog 19 #[.int .i64 (n0 : Int), .int .i64 (i0 : Int), .slice ao a.length ca, .slice po p.length cp, .slice bo b.length cb, .slice qo q.length cq] w fun e w' => e = .returned (.tuple #[.slice none 0 0, .slice none 0 0, .int .i64 4]) ∧ Below w.heap.size w w' := by
  have cA := checkProof_any (n0 : Int) (i0 : Int) ao po a.length p.length ca cp 0 (.inr ⟨by omega, .inr ⟨by omega, rfl⟩⟩) (by omega) w
  have cB := checkProof_any (n0 : Int) (i0 : Int) bo qo b.length q.length cb cq 0 (.inr ⟨by omega, .inr ⟨by omega, rfl⟩⟩) (by omega) w
  have x0 := two_e 0 0
  have x1 := two_f 0 0
  have cW := wayUp_any n0 i0 h1 h64 hi h h6 ht ao po ca cp a p ha hba hp64 hpc false hga w ra rp
  have cV := hid (fun (w' : World) (hB : Below w.heap.size w w') => wayUp_any n0 i0 h1 h64 hi h h6 ht bo qo cb cq b q hb hbb hq64 hqc gb hgb w' (yb' rb hB) (ub rq hB))
  generalize a.length = na at *
  generalize p.length = np at *
  generalize b.length = nb at *
  generalize q.length = nq at *
  clear hga hgb ra rp rb rq ht hba hbb
  go_enter Try.func19, Try.ntmps19
  go_wp2_with (first
    | (go_at_call 32; refine cA.mono ?_; clear cA; rintro e w1 ⟨rfl, hw⟩; subst w1)
    | (go_at_call 32; refine cB.mono ?_; clear cB; rintro e w1 ⟨rfl, hw⟩; subst w1))
  go_loop [33] (fun i => i = .int .i64 0 ∨ i = .int .i64 1 ∨ i = .int .i64 2) (fun i => 2 - (intOf i).toNat)
  case atStart => exact .inl rfl
  case round =>
    rcases hrel with rfl | rfl | rfl
    · go_wp2
      go_round
      case rel => exact .inr (.inl rfl)
      case measure => simp [intOf]
    · go_wp2
      go_round
      case rel => exact .inr (.inr rfl)
      case measure => simp [intOf]
    · clear x0 x1
      go_wp2_with (first
        | (go_at_call 33; refine cW.mono ?_; clear cW; rintro e w2 ⟨⟨v2, o2, m2, c2, hv2, rfl, hW⟩, hB⟩; have HB2 := hid hB; subst hv2; clear hW hB)
        | (go_at_call 33; refine (cV.out _ HB2.out).mono ?_; clear cV; rintro e w3 ⟨⟨v3, o3, m3, c3, hv3, rfl, hW⟩, hB⟩; have HB3 := hid (below_trans HB2.out hB); subst hv3; clear hW hB))
      go_ret3
      exact ⟨rfl, HB3.out⟩

set_option maxRecDepth 100000 in
set_option maxHeartbeats 4000000 in
theorem formB (n0 i0 : Nat) (h1 : 1 ≤ n0) (h64 : n0 ≤ 64) (hi : i0 < n0) (h : Nat) (h6 : h ≤ 6) (ht : Top n0 h) (ao po bo qo : Option Addr) (ca cp cb cq : Nat) (a p b q : List Nat) (ha : a.length ≤ 4095) (hba : Byt a) (hp64 : p.length ≤ 64) (hpc : p.length ≤ cp) (hb : b.length ≤ 4095) (hbb : Byt b) (hq64 : q.length ≤ 64) (hqc : q.length ≤ cq) (gb : Bool) (hga : true = true ↔ GoodP n0 i0 p h) (hgb : false = true ↔ GoodP n0 i0 q h) (w : World) (ra : YRow w ao a) (rp : URow w po p) (rb : YRow w bo b) (rq : URow w qo q) :
    Calls Try.prog 19 #[.int .i64 (n0 : Int), .int .i64 (i0 : Int), .slice ao a.length ca, .slice po p.length cp, .slice bo b.length cb, .slice qo q.length cq] w fun e w' => e = .returned (.tuple #[.slice none 0 0, .slice none 0 0, .int .i64 4]) ∧ Below w.heap.size w w' := by
  have cA := checkProof_any (n0 : Int) (i0 : Int) ao po a.length p.length ca cp 0 (.inr ⟨by omega, .inr ⟨by omega, rfl⟩⟩) (by omega) w
  have cB := checkProof_any (n0 : Int) (i0 : Int) bo qo b.length q.length cb cq 0 (.inr ⟨by omega, .inr ⟨by omega, rfl⟩⟩) (by omega) w
  have x0 := two_e 0 0
  have x1 := two_f 0 0
  have cW := wayUp_any n0 i0 h1 h64 hi h h6 ht ao po ca cp a p ha hba hp64 hpc true hga w ra rp
  have cV := hid (fun (w' : World) (hB : Below w.heap.size w w') => wayUp_any n0 i0 h1 h64 hi h h6 ht bo qo cb cq b q hb hbb hq64 hqc false hgb w' (yb' rb hB) (ub rq hB))
  generalize a.length = na at *
  generalize p.length = np at *
  generalize b.length = nb at *
  generalize q.length = nq at *
  clear hga hgb ra rp rb rq ht hba hbb
  go_enter Try.func19, Try.ntmps19
  go_wp2_with (first
    | (go_at_call 32; refine cA.mono ?_; clear cA; rintro e w1 ⟨rfl, hw⟩; subst w1)
    | (go_at_call 32; refine cB.mono ?_; clear cB; rintro e w1 ⟨rfl, hw⟩; subst w1))
  go_loop [33] (fun i => i = .int .i64 0 ∨ i = .int .i64 1 ∨ i = .int .i64 2) (fun i => 2 - (intOf i).toNat)
  case atStart => exact .inl rfl
  case round =>
    rcases hrel with rfl | rfl | rfl
    · go_wp2
      go_round
      case rel => exact .inr (.inl rfl)
      case measure => simp [intOf]
    · go_wp2
      go_round
      case rel => exact .inr (.inr rfl)
      case measure => simp [intOf]
    · clear x0 x1
      go_wp2_with (first
        | (go_at_call 33; refine cW.mono ?_; clear cW; rintro e w2 ⟨⟨v2, o2, m2, c2, hv2, rfl, hW⟩, hB⟩; have HB2 := hid hB; have HA := hid (hW rfl); clear hv2; clear hW hB)
        | (go_at_call 33; refine (cV.out _ HB2.out).mono ?_; clear cV; rintro e w3 ⟨⟨v3, o3, m3, c3, hv3, rfl, hW⟩, hB⟩; have HB3 := hid (below_trans HB2.out hB); have HA3 := hid (HA.out.below hB); subst hv3; clear hW hB))
      go_ret3
      exact ⟨rfl, HB3.out⟩

set_option maxRecDepth 100000 in
set_option maxHeartbeats 4000000 in
theorem formC (n0 i0 : Nat) (h1 : 1 ≤ n0) (h64 : n0 ≤ 64) (hi : i0 < n0) (h : Nat) (h6 : h ≤ 6) (ht : Top n0 h) (ao po bo qo : Option Addr) (ca cp cb cq : Nat) (a p b q : List Nat) (ha : a.length ≤ 4095) (hba : Byt a) (hp64 : p.length ≤ 64) (hpc : p.length ≤ cp) (hb : b.length ≤ 4095) (hbb : Byt b) (hq64 : q.length ≤ 64) (hqc : q.length ≤ cq) (hga : true = true ↔ GoodP n0 i0 p h) (hgb : true = true ↔ GoodP n0 i0 q h) (hne : kn n0 i0 p a h ≠ kn n0 i0 q b h) (w : World) (ra : YRow w ao a) (rp : URow w po p) (rb : YRow w bo b) (rq : URow w qo q) :
    Calls Try.prog 19 #[.int .i64 (n0 : Int), .int .i64 (i0 : Int), .slice ao a.length ca, .slice po p.length cp, .slice bo b.length cb, .slice qo q.length cq] w fun e w' => e = .returned (.tuple #[.slice none 0 0, .slice none 0 0, .int .i64 4]) ∧ Below w.heap.size w w' := by
  have cA := checkProof_any (n0 : Int) (i0 : Int) ao po a.length p.length ca cp 0 (.inr ⟨by omega, .inr ⟨by omega, rfl⟩⟩) (by omega) w
  have cB := checkProof_any (n0 : Int) (i0 : Int) bo qo b.length q.length cb cq 0 (.inr ⟨by omega, .inr ⟨by omega, rfl⟩⟩) (by omega) w
  have x0 := two_e 0 0
  have x1 := two_f 0 0
  have cW := wayUp_any n0 i0 h1 h64 hi h h6 ht ao po ca cp a p ha hba hp64 hpc true hga w ra rp
  have cV := hid (fun (w' : World) (hB : Below w.heap.size w w') => wayUp_any n0 i0 h1 h64 hi h h6 ht bo qo cb cq b q hb hbb hq64 hqc true hgb w' (yb' rb hB) (ub rq hB))
  have hus := Nat.le_trans (us_le (n := n0) (i := i0) h) h6
  have fitA := wl_at_fit (n := n0) (i := i0) (p := p) ha hba (k := h) (j := us n0 i0 h) (Nat.le_refl _)
  have fitB := wl_at_fit (n := n0) (i := i0) (p := q) hb hbb (k := h) (j := us n0 i0 h) (Nat.le_refl _)
  have cE := hid (fun v (w' : World) (hw : WTab w' w.heap.size v (us n0 i0 h + 1) (wl n0 i0 p a h)) => end_any w.heap.size v (us n0 i0 h) (wl n0 i0 p a h) (by omega) w' hw fitA.1 fitA.2.1)
  have cF := hid (fun B v (w' : World) (hw : WTab w' B v (us n0 i0 h + 1) (wl n0 i0 q b h)) => end_any B v (us n0 i0 h) (wl n0 i0 q b h) (by omega) w' hw fitB.1 fitB.2.1)
  rw [wl_end] at cE cF
  have hk1 : (((kn n0 i0 p a h : Nat) : Int) != ((kn n0 i0 q b h : Nat) : Int)) = true := bne_iff_ne.2 (by omega)
  have hk2 : (((kn n0 i0 p a h : Nat) : Int) == ((kn n0 i0 q b h : Nat) : Int)) = false := beq_eq_false_iff_ne.2 (by omega)
  generalize kn n0 i0 p a h = x at *
  generalize kn n0 i0 q b h = y at *
  generalize a.length = na at *
  generalize p.length = np at *
  generalize b.length = nb at *
  generalize q.length = nq at *
  clear hga hgb ra rp rb rq ht hba hbb fitA fitB hne
  go_enter Try.func19, Try.ntmps19
  go_wp2_with (first
    | (go_at_call 32; refine cA.mono ?_; clear cA; rintro e w1 ⟨rfl, hw⟩; subst w1)
    | (go_at_call 32; refine cB.mono ?_; clear cB; rintro e w1 ⟨rfl, hw⟩; subst w1))
  go_loop [33] (fun i => i = .int .i64 0 ∨ i = .int .i64 1 ∨ i = .int .i64 2) (fun i => 2 - (intOf i).toNat)
  case atStart => exact .inl rfl
  case round =>
    rcases hrel with rfl | rfl | rfl
    · go_wp2
      go_round
      case rel => exact .inr (.inl rfl)
      case measure => simp [intOf]
    · go_wp2
      go_round
      case rel => exact .inr (.inr rfl)
      case measure => simp [intOf]
    · clear x0 x1
      go_wp2_with (first
        | (go_at_call 33; refine cW.mono ?_; clear cW; rintro e w2 ⟨⟨v2, o2, m2, c2, hv2, rfl, hW⟩, hB⟩; have HB2 := hid hB; have HA := hid (hW rfl); clear hv2; clear hW hB)
        | (go_at_call 33; refine (cV.out _ HB2.out).mono ?_; clear cV; rintro e w3 ⟨⟨v3, o3, m3, c3, hv3, rfl, hW⟩, hB⟩; have HB3 := hid (below_trans HB2.out hB); have HA3 := hid (HA.out.below hB); have HBt := hid (hW rfl); clear hv3; clear hW hB)
        | (go_at_call 34; refine (cE.out v2 _ HA3.out).mono ?_; clear cE; rintro e w4 ⟨rfl, hB⟩; have HB4 := hid (below_trans HB3.out hB); have HA4 := hid (HA3.out.below hB); have HBt4 := hid (HBt.out.below hB); clear hB)
        | (go_at_call 34; refine (cF.out _ v3 _ HBt4.out).mono ?_; clear cF; rintro e w5 ⟨rfl, hB⟩; have HB5 := hid (below_trans HB4.out hB); have HA5 := hid (HA4.out.below hB); have HBt5 := hid (HBt4.out.below hB); clear hB))
      go_ret3
      exact ⟨rfl, HB5.out⟩

set_option maxRecDepth 100000 in
set_option maxHeartbeats 4000000 in
theorem Clash_none (n0 i0 : Nat) (h1 : 1 ≤ n0) (h64 : n0 ≤ 64) (hi : i0 < n0) (h : Nat) (h6 : h ≤ 6) (ht : Top n0 h) (ao po bo qo : Option Addr) (ca cp cb cq : Nat) (a p b q : List Nat) (ha : a.length ≤ 4095) (hba : Byt a) (hp64 : p.length ≤ 64) (hpc : p.length ≤ cp) (hb : b.length ≤ 4095) (hbb : Byt b) (hq64 : q.length ≤ 64) (hqc : q.length ≤ cq) (hga : true = true ↔ GoodP n0 i0 p h) (hgb : true = true ↔ GoodP n0 i0 q h) (he : kn n0 i0 p a h = kn n0 i0 q b h) (hab : a = b) (w : World) (ra : YRow w ao a) (rp : URow w po p) (rb : YRow w bo b) (rq : URow w qo q) :
    Calls Try.prog 19 #[.int .i64 (n0 : Int), .int .i64 (i0 : Int), .slice ao a.length ca, .slice po p.length cp, .slice bo b.length cb, .slice qo q.length cq] w fun e w' => e = .returned (.tuple #[.slice none 0 0, .slice none 0 0, .int .i64 5]) ∧ Below w.heap.size w w' := by
  have cA := checkProof_any (n0 : Int) (i0 : Int) ao po a.length p.length ca cp 0 (.inr ⟨by omega, .inr ⟨by omega, rfl⟩⟩) (by omega) w
  have cB := checkProof_any (n0 : Int) (i0 : Int) bo qo b.length q.length cb cq 0 (.inr ⟨by omega, .inr ⟨by omega, rfl⟩⟩) (by omega) w
  have x0 := two_e 0 0
  have x1 := two_f 0 0
  have cW := wayUp_any n0 i0 h1 h64 hi h h6 ht ao po ca cp a p ha hba hp64 hpc true hga w ra rp
  have cV := hid (fun (w' : World) (hB : Below w.heap.size w w') => wayUp_any n0 i0 h1 h64 hi h h6 ht bo qo cb cq b q hb hbb hq64 hqc true hgb w' (yb' rb hB) (ub rq hB))
  have hus := Nat.le_trans (us_le (n := n0) (i := i0) h) h6
  have fitA := wl_at_fit (n := n0) (i := i0) (p := p) ha hba (k := h) (j := us n0 i0 h) (Nat.le_refl _)
  have fitB := wl_at_fit (n := n0) (i := i0) (p := q) hb hbb (k := h) (j := us n0 i0 h) (Nat.le_refl _)
  have cE := hid (fun v (w' : World) (hw : WTab w' w.heap.size v (us n0 i0 h + 1) (wl n0 i0 p a h)) => end_any w.heap.size v (us n0 i0 h) (wl n0 i0 p a h) (by omega) w' hw fitA.1 fitA.2.1)
  have cF := hid (fun B v (w' : World) (hw : WTab w' B v (us n0 i0 h + 1) (wl n0 i0 q b h)) => end_any B v (us n0 i0 h) (wl n0 i0 q b h) (by omega) w' hw fitB.1 fitB.2.1)
  rw [wl_end] at cE cF
  have cQ := hid (fun (w' : World) (hB : Below w.heap.size w w') => Equal_any ao bo ca cb a b hba hbb w' (yb' ra hB) (yb' rb hB))
  rw [decide_eq_true hab] at cQ
  rw [← he] at cF
  generalize kn n0 i0 p a h = x at *
  have hk1 : ((x : Int) != (x : Int)) = false := by simp
  generalize a.length = na at *
  generalize p.length = np at *
  generalize b.length = nb at *
  generalize q.length = nq at *
  clear hga hgb ra rp rb rq ht hba hbb fitA fitB he hab
  go_enter Try.func19, Try.ntmps19
  go_wp2_with (first
    | (go_at_call 32; refine cA.mono ?_; clear cA; rintro e w1 ⟨rfl, hw⟩; subst w1)
    | (go_at_call 32; refine cB.mono ?_; clear cB; rintro e w1 ⟨rfl, hw⟩; subst w1))
  go_loop [33] (fun i => i = .int .i64 0 ∨ i = .int .i64 1 ∨ i = .int .i64 2) (fun i => 2 - (intOf i).toNat)
  case atStart => exact .inl rfl
  case round =>
    rcases hrel with rfl | rfl | rfl
    · go_wp2
      go_round
      case rel => exact .inr (.inl rfl)
      case measure => simp [intOf]
    · go_wp2
      go_round
      case rel => exact .inr (.inr rfl)
      case measure => simp [intOf]
    · clear x0 x1
      go_wp2_with (first
        | (go_at_call 33; refine cW.mono ?_; clear cW; rintro e w2 ⟨⟨v2, o2, m2, c2, hv2, rfl, hW⟩, hB⟩; have HB2 := hid hB; have HA := hid (hW rfl); clear hv2; clear hW hB)
        | (go_at_call 33; refine (cV.out _ HB2.out).mono ?_; clear cV; rintro e w3 ⟨⟨v3, o3, m3, c3, hv3, rfl, hW⟩, hB⟩; have HB3 := hid (below_trans HB2.out hB); have HA3 := hid (HA.out.below hB); have HBt := hid (hW rfl); clear hv3; clear hW hB)
        | (go_at_call 34; refine (cE.out v2 _ HA3.out).mono ?_; clear cE; rintro e w4 ⟨rfl, hB⟩; have HB4 := hid (below_trans HB3.out hB); have HA4 := hid (HA3.out.below hB); have HBt4 := hid (HBt.out.below hB); clear hB)
        | (go_at_call 34; refine (cF.out _ v3 _ HBt4.out).mono ?_; clear cF; rintro e w5 ⟨rfl, hB⟩; have HB5 := hid (below_trans HB4.out hB); have HA5 := hid (HA4.out.below hB); have HBt5 := hid (HBt4.out.below hB); clear hB)
        | (go_at_call 35; refine (cQ.out _ HB5.out).mono ?_; clear cQ; rintro e w6 ⟨rfl, hw⟩; subst w6))
      go_ret3
      exact ⟨rfl, HB5.out⟩

set_option maxRecDepth 100000 in
set_option maxHeartbeats 4000000 in
theorem Clash_yes (n0 i0 : Nat) (h1 : 1 ≤ n0) (h64 : n0 ≤ 64) (hi : i0 < n0) (h : Nat) (h6 : h ≤ 6) (ht : Top n0 h) (ao po bo qo : Option Addr) (ca cp cb cq : Nat) (a p b q : List Nat) (ha : a.length ≤ 4095) (hba : Byt a) (hp64 : p.length ≤ 64) (hpc : p.length ≤ cp) (hb : b.length ≤ 4095) (hbb : Byt b) (hq64 : q.length ≤ 64) (hqc : q.length ≤ cq) (hga : true = true ↔ GoodP n0 i0 p h) (hgb : true = true ↔ GoodP n0 i0 q h) (he : kn n0 i0 p a h = kn n0 i0 q b h) (hab : a ≠ b) (s : Nat) (hs : Fst (wl n0 i0 p a h) (wl n0 i0 q b h) (us n0 i0 h + 1) s) (w : World) (ra : YRow w ao a) (rp : URow w po p) (rb : YRow w bo b) (rq : URow w qo q) :
    Calls Try.prog 19 #[.int .i64 (n0 : Int), .int .i64 (i0 : Int), .slice ao a.length ca, .slice po p.length cp, .slice bo b.length cb, .slice qo q.length cq] w fun e w' => ClashR (yr (wl n0 i0 p a h) s) (yr (wl n0 i0 q b h) s) e w' ∧ Below w.heap.size w w' := by
  have cA := checkProof_any (n0 : Int) (i0 : Int) ao po a.length p.length ca cp 0 (.inr ⟨by omega, .inr ⟨by omega, rfl⟩⟩) (by omega) w
  have cB := checkProof_any (n0 : Int) (i0 : Int) bo qo b.length q.length cb cq 0 (.inr ⟨by omega, .inr ⟨by omega, rfl⟩⟩) (by omega) w
  have x0 := two_e 0 0
  have x1 := two_f 0 0
  have cW := wayUp_any n0 i0 h1 h64 hi h h6 ht ao po ca cp a p ha hba hp64 hpc true hga w ra rp
  have cV := hid (fun (w' : World) (hB : Below w.heap.size w w') => wayUp_any n0 i0 h1 h64 hi h h6 ht bo qo cb cq b q hb hbb hq64 hqc true hgb w' (yb' rb hB) (ub rq hB))
  have hus := Nat.le_trans (us_le (n := n0) (i := i0) h) h6
  have fitA := wl_at_fit (n := n0) (i := i0) (p := p) ha hba (k := h) (j := us n0 i0 h) (Nat.le_refl _)
  have fitB := wl_at_fit (n := n0) (i := i0) (p := q) hb hbb (k := h) (j := us n0 i0 h) (Nat.le_refl _)
  have cE := hid (fun v (w' : World) (hw : WTab w' w.heap.size v (us n0 i0 h + 1) (wl n0 i0 p a h)) => end_any w.heap.size v (us n0 i0 h) (wl n0 i0 p a h) (by omega) w' hw fitA.1 fitA.2.1)
  have cF := hid (fun B v (w' : World) (hw : WTab w' B v (us n0 i0 h + 1) (wl n0 i0 q b h)) => end_any B v (us n0 i0 h) (wl n0 i0 q b h) (by omega) w' hw fitB.1 fitB.2.1)
  rw [wl_end] at cE cF
  have cQ := hid (fun (w' : World) (hB : Below w.heap.size w w') => Equal_any ao bo ca cb a b hba hbb w' (yb' ra hB) (yb' rb hB))
  rw [decide_eq_false hab] at cQ
  rw [← he] at cF
  have fA := hid (fun j (hj : j ≤ us n0 i0 h) => wl_at_fit (n := n0) (i := i0) (p := p) ha hba (k := h) hj)
  have fB := hid (fun j (hj : j ≤ us n0 i0 h) => wl_at_fit (n := n0) (i := i0) (p := q) hb hbb (k := h) hj)
  have HS := hid hs
  obtain ⟨A, hA⟩ : ∃ A, A = wl n0 i0 p a h := ⟨_, rfl⟩
  obtain ⟨B, hBb⟩ : ∃ B, B = wl n0 i0 q b h := ⟨_, rfl⟩
  have HWA := hid hA
  have HWB := hid hBb
  rw [← hA] at cE fA HS ⊢
  rw [← hBb] at cF fB HS ⊢
  generalize kn n0 i0 p a h = x at *
  have hk1 : ((x : Int) != (x : Int)) = false := by simp
  generalize a.length = na at *
  generalize p.length = np at *
  generalize b.length = nb at *
  generalize q.length = nq at *
  clear hga hgb ra rp rb rq ht hba hbb fitA fitB he hab hs hA hBb
  go_enter Try.func19, Try.ntmps19
  go_wp2_with (first
    | (go_at_call 32; refine cA.mono ?_; clear cA; rintro e w1 ⟨rfl, hw⟩; subst w1)
    | (go_at_call 32; refine cB.mono ?_; clear cB; rintro e w1 ⟨rfl, hw⟩; subst w1))
  go_loop [33] (fun i => i = .int .i64 0 ∨ i = .int .i64 1 ∨ i = .int .i64 2) (fun i => 2 - (intOf i).toNat)
  case atStart => exact .inl rfl
  case round =>
    rcases hrel with rfl | rfl | rfl
    · go_wp2
      go_round
      case rel => exact .inr (.inl rfl)
      case measure => simp [intOf]
    · go_wp2
      go_round
      case rel => exact .inr (.inr rfl)
      case measure => simp [intOf]
    · clear x0 x1
      have hsl := HS.out.1
      go_wp2_with (first
        | (go_at_call 33; refine cW.mono ?_; clear cW; rintro e w2 ⟨⟨v2, o2, m2, c2, hv2, rfl, hW⟩, hB⟩; have HB2 := hid hB; have HA := hid (hW rfl); rw [← HWA.out] at HA; clear hv2; clear hW hB)
        | (go_at_call 33; refine (cV.out _ HB2.out).mono ?_; clear cV; rintro e w3 ⟨⟨v3, o3, m3, c3, hv3, rfl, hW⟩, hB⟩; have HB3 := hid (below_trans HB2.out hB); have HA3 := hid (HA.out.below hB); have HBt := hid (hW rfl); rw [← HWB.out] at HBt; clear hv3; clear hW hB)
        | (go_at_call 34; refine (cE.out v2 _ HA3.out).mono ?_; clear cE; rintro e w4 ⟨rfl, hB⟩; have HB4 := hid (below_trans HB3.out hB); have HA4 := hid (HA3.out.below hB); have HBt4 := hid (HBt.out.below hB); clear hB)
        | (go_at_call 34; refine (cF.out _ v3 _ HBt4.out).mono ?_; clear cF; rintro e w5 ⟨rfl, hB⟩; have HB5 := hid (below_trans HB4.out hB); have HA5 := hid (HA4.out.below hB); have HBt5 := hid (HBt4.out.below hB); clear hB)
        | (go_at_call 35; refine (cQ.out _ HB5.out).mono ?_; clear cQ; rintro e w6 ⟨rfl, hw⟩; subst w6))
      obtain ⟨GA, CA, rfl, hCA⟩ := wtab_form HA5.out
      obtain ⟨GB, CB, rfl, hCB⟩ := wtab_form HBt5.out
      generalize us n0 i0 h = u at *
      obtain ⟨K, hK⟩ : ∃ K, K = u + 1 := ⟨_, rfl⟩
      have HK := hid hK
      rw [← hK] at HA5 HBt5 hsl hCA hCB HS ⊢
      have hs6 : s ≤ 6 := by omega
      clear hK
      obtain ⟨W5, hW5⟩ : ∃ W5, W5 = w5 := ⟨_, rfl⟩
      rw [← hW5] at HA5 HBt5 HB5 ⊢
      clear hW5 HA HA3 HA4 HBt HBt4 HB2 HB3 HB4 hus
      go_loopw [21] (fun i wr => ∃ k : Nat, i = .int .i64 (k : Int) ∧ k ≤ s ∧ Hid (Below W5.heap.size W5 wr)) (fun i wr => ((s : Int) - intOf i).toNat)
      case atStart => exact ⟨0, rfl, by omega, Below.refl _ _⟩
      case round =>
        obtain ⟨k, rfl, hk, hB⟩ := hrel
        have hkK : k < K := by omega
        obtain ⟨gA, cA, dA, lA, rA⟩ := wtab_cell (HA5.out.below hB.out) hkK
        obtain ⟨gB, cB, dB, lB, rB⟩ := wtab_cell (HBt5.out.below hB.out) hkK
        have ftA := fA.out k (by have := HK.out; omega)
        have ftB := fB.out k (by have := HK.out; omega)
        have d0 : wr.drew.cell? ⟨GA, k, none⟩ = some (.slice (some ⟨gA, 0, none⟩) (yr A k).length cA) := dA
        have d1 : wr.drew.cell? ⟨GB, k, none⟩ = some (.slice (some ⟨gB, 0, none⟩) (yr B k).length cB) := dB
        have hk0 : (0 : Int) ≤ (k : Int) := by omega
        have hkK' : (k : Int) < (K : Int) := by omega
        have RA := hid (fun (w' : World) (hB' : Below wr.heap.size wr w') => yrow_below rA hB')
        have RB := hid (fun (w' : World) (hB' : Below wr.heap.size wr w') => yrow_below rB hB')
        have HS2 := hid (fun e : k < s => HS.out.2.2 k e)
        have HS3 := hid (fun e : k = s => HS.out.2.1)
        have HAA := hid (show k = s → yr A s = yr A k from fun e => by rw [e])
        have HBB := hid (show k = s → yr B s = yr B k from fun e => by rw [e])
        have HS4 : Hid (k = s → sum (yr A k) = sum (yr B k)) := fun e => by have := HS.out.2.1; rw [← e] at this; exact this
        have LA := hid lA
        have LB := hid lB
        clear rA rB dA dB lA lB HS3
        generalize yr A k = tA at *
        generalize yr B k = tB at *
        have cN := hid (fun (l : List Nat) (g c : Nat) (hl : (l = tA ∧ g = gA ∧ c = cA) ∨ (l = tB ∧ g = gB ∧ c = cB)) (w' : World) (hB' : Below wr.heap.size wr w') => show Calls Try.prog 36 #[.slice (some ⟨g, 0, none⟩) l.length c] w' fun e w'' => e = .returned (.int .u32 ((sum l : Nat) : Int)) ∧ Below w'.heap.size w' w'' from by
          rcases hl with ⟨rfl, rfl, rfl⟩ | ⟨rfl, rfl, rfl⟩
          · exact node_any _ c l ftA.1 ftA.2.1 w' (RA.out w' hB')
          · exact node_any _ c l ftB.1 ftB.2.1 w' (RB.out w' hB'))
        have HBd := hid ((Below.refl wr.heap.size wr).drew)
        clear ftA ftB
        by_cases hgo : k < s
        · have hne := HS2.out hgo
          have hk3 : (((sum tA : Nat) : Int) != ((sum tB : Nat) : Int)) = true := bne_iff_ne.2 (by omega)
          have hk4 : (((sum tA : Nat) : Int) == ((sum tB : Nat) : Int)) = false := beq_eq_false_iff_ne.2 (by omega)
          clear hne
          go_wp2
          go_region_held3 (fun w' => w'.cell? ⟨GA, k, none⟩ = some (.slice (some ⟨gA, 0, none⟩) tA.length cA) ∧ w'.cell? ⟨GB, k, none⟩ = some (.slice (some ⟨gB, 0, none⟩) tB.length cB)) (first | exact ⟨e0, e1⟩ | exact ⟨d0, d1⟩)
            (first
              | (go_at_call 36; refine (cN.out _ _ _ (by first | exact .inl ⟨rfl, rfl, rfl⟩ | exact .inr ⟨rfl, rfl, rfl⟩) _ (by first | exact HB3.out | exact HBd.out)).mono ?_; rintro e w7 ⟨rfl, hB7⟩; have e0 := (hB7.cell (p := ⟨GA, k, none⟩) (cell_lt (by first | exact e0 | exact d0))).trans (by first | exact e0 | exact d0); have e1 := (hB7.cell (p := ⟨GB, k, none⟩) (cell_lt (by first | exact e1 | exact d1))).trans (by first | exact e1 | exact d1); have HB3 := hid (below_trans (by first | exact HB3.out | exact HBd.out) hB7); clear hB7))
          all_goals
            go_wp2
            go_roundw
            case rel => exact ⟨k + 1, by simp, by omega, hid (below_trans hB.out HB3.out)⟩
            case measure => exact measK hgo
        · have hks := hid (show k = s by omega)
          have hee := HS4.out hks.out
          have hk3 : (((sum tA : Nat) : Int) != ((sum tB : Nat) : Int)) = false := by rw [hee]; simp
          have hk4 : (((sum tA : Nat) : Int) == ((sum tB : Nat) : Int)) = true := by rw [hee]; simp
          clear hee
          go_wp2
          go_region_held3 (fun w' => w'.cell? ⟨GA, k, none⟩ = some (.slice (some ⟨gA, 0, none⟩) tA.length cA) ∧ w'.cell? ⟨GB, k, none⟩ = some (.slice (some ⟨gB, 0, none⟩) tB.length cB)) (first | exact ⟨e0, e1⟩ | exact ⟨d0, d1⟩)
            (first
              | (go_at_call 36; refine (cN.out _ _ _ (by first | exact .inl ⟨rfl, rfl, rfl⟩ | exact .inr ⟨rfl, rfl, rfl⟩) _ (by first | exact HB3.out | exact HBd.out)).mono ?_; rintro e w7 ⟨rfl, hB7⟩; have e0 := (hB7.cell (p := ⟨GA, k, none⟩) (cell_lt (by first | exact e0 | exact d0))).trans (by first | exact e0 | exact d0); have e1 := (hB7.cell (p := ⟨GB, k, none⟩) (cell_lt (by first | exact e1 | exact d1))).trans (by first | exact e1 | exact d1); have HB3 := hid (below_trans (by first | exact HB3.out | exact HBd.out) hB7); clear hB7))
          all_goals
            go_wp2_with go_region
            go_ret3
            refine ⟨⟨some ⟨gA, 0, none⟩, cA, some ⟨gB, 0, none⟩, cB, ?_, ?_, ?_, ?_, ?_⟩, below_trans (below_trans HB5.out hB.out) HB3.out.drew⟩
            · rw [HAA.out hks.out, HBB.out hks.out]; rfl
            · rw [HAA.out hks.out]; exact LA.out
            · rw [HBB.out hks.out]; exact LB.out
            · rw [HAA.out hks.out]; exact RA.out _ HB3.out.drew
            · rw [HBB.out hks.out]; exact RB.out _ HB3.out.drew

end Go.Proofs.Ythjmmibfgphlhaa.Calls147
