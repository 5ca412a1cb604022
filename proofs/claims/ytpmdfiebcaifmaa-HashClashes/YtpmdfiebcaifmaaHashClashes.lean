/-
  For any two texts with one sum: package hash's Clash answers two mixes that are not the same, of which Step makes the same; and it answers so just where the texts are not the same and have one sum: at every input.
-/
import Derived.Test.YtpmdfiebcaifmaaRows
import Derived.Test.YtpmdfiebcaifmaaCalls132
import Derived.WalkKit
import Derived.ProofKit
import Derived.OpenShut
import Derived.Carry
namespace Go.Proofs.Ytpmdfiebcaifmaa.hashClashes
open Go.ChangeShapes Go.WideShapes Go.ChangeAt Go.RowKit Go.Deep Go.Proofs.Ytpmdfiebcaifmaa.Base Go.Proofs.Ytpmdfiebcaifmaa.Base2 Go.Proofs.Ytpmdfiebcaifmaa.Base7 Go.Proofs.Ytpmdfiebcaifmaa.Base8 Go.Proofs.Ytpmdfiebcaifmaa.Num55 Go.Proofs.Ytpmdfiebcaifmaa.Calls125 Go.Proofs.Ytpmdfiebcaifmaa.Calls126 Go.Proofs.Ytpmdfiebcaifmaa.Calls127 Go.Proofs.Ytpmdfiebcaifmaa.Calls128 Go.Proofs.Ytpmdfiebcaifmaa.Calls129 Go.Proofs.Ytpmdfiebcaifmaa.Calls130 Go.Proofs.Ytpmdfiebcaifmaa.Calls131 Go.Proofs.Ytpmdfiebcaifmaa.Calls132
set_option linter.unusedVariables false

theorem own : ownKnob Try.prog.godebug = none := by kernel_rfl

theorem laidOut : laidOutB Try.prog = true := by kernel_rfl

theorem cells2 : Try.prog.cellsOf 2 = 1 := by kernel_rfl

theorem cells8 : Try.prog.cellsOf 5 = 1 := by kernel_rfl

set_option maxRecDepth 100000 in
set_option maxHeartbeats 2000000 in
theorem walk_far (o0 : Option Addr) (c0 : Nat) (a : List Nat) (ha : Byt a) (o1 : Option Addr) (c1 : Nat) (b : List Nat) (hb : Byt b) (h : 4096 < a.length ∨ 4096 < b.length) (w : World) (ra : YRow w o0 a) (rb : YRow w o1 b) :
    Calls Try.prog 6 #[.slice o0 a.length c0, .slice o1 b.length c1] w fun e w' => e = .returned (.bool true) ∧ Below w.heap.size w w' := by
  have cC := hid (fun (w' : World) (hw : Below w.heap.size w w') => Clash_large o0 o1 c0 c1 a b h ha hb w' (yb' ra hw) (yb' rb hw))
  obtain ⟨s, p, hp, hp1, cS0⟩ := Sum_code o0 c0 a ha w ra
  obtain ⟨t, q, hq, hq1, cT0⟩ := Sum_code o1 c1 b hb w rb
  have cS := hid cS0
  have cT := hid cT0
  clear ra rb ha hb cS0 cT0
  by_cases h1 : 4096 < a.length
  · have h1' : (4096 : Int) < (a.length : Int) := by omega
    obtain rfl : p = 1 := hp1.2 h1
    clear h hp hq hp1 hq1 h1
    generalize a.length = n at *
    generalize b.length = m at *
    go_enter Try.func6, Try.ntmps6
    go_wp2_with (first
      | (go_at_call 11; refine (cS.out _ (Below.refl _ _)).mono ?_; rintro e W1 ⟨rfl, hB1⟩; have HB1 := hid hB1; clear hB1 cS)
      | (go_at_call 11; refine (cT.out _ HB1.out).mono ?_; rintro e W2 ⟨rfl, hB1⟩; have HB2 := hid (below_trans HB1.out hB1); clear hB1 cT)
      | (go_at_call 13; refine (cC.out _ HB2.out).mono ?_; rintro e W3 ⟨rfl, hB1⟩; have HB3 := hid (below_trans HB2.out hB1); have HT03 := hid (two_new W3 33 #[.int .u32 0, .int .u8 0] #[.int .u32 0, .int .u8 0]).1; have HT13 := hid (two_new W3 33 #[.int .u32 0, .int .u8 0] #[.int .u32 0, .int .u8 0]).2; have HA3 := hid (below_two HB3.out (.cells #[.int .u32 0, .int .u8 0] 33) (.cells #[.int .u32 0, .int .u8 0] 33)); clear hB1 cC))
    go_ret
    exact ⟨rfl, HA3.out⟩
  · have h1' : decide ((4096 : Int) < (a.length : Int)) = false := by simp; omega
    have h2 : 4096 < b.length := by omega
    have h2' : (4096 : Int) < (b.length : Int) := by omega
    obtain rfl : q = 1 := hq1.2 h2
    obtain rfl : p = 0 := by
      rcases hp with e | e
      · exact e
      · exact absurd (hp1.1 e) h1
    clear h hp hq hp1 hq1 h1 h2
    generalize a.length = n at *
    generalize b.length = m at *
    go_enter Try.func6, Try.ntmps6
    go_wp2_with (first
      | (go_at_call 11; refine (cS.out _ (Below.refl _ _)).mono ?_; rintro e W1 ⟨rfl, hB1⟩; have HB1 := hid hB1; clear hB1 cS)
      | (go_at_call 11; refine (cT.out _ HB1.out).mono ?_; rintro e W2 ⟨rfl, hB1⟩; have HB2 := hid (below_trans HB1.out hB1); clear hB1 cT)
      | (go_at_call 13; refine (cC.out _ HB2.out).mono ?_; rintro e W3 ⟨rfl, hB1⟩; have HB3 := hid (below_trans HB2.out hB1); have HT03 := hid (two_new W3 33 #[.int .u32 0, .int .u8 0] #[.int .u32 0, .int .u8 0]).1; have HT13 := hid (two_new W3 33 #[.int .u32 0, .int .u8 0] #[.int .u32 0, .int .u8 0]).2; have HA3 := hid (below_two HB3.out (.cells #[.int .u32 0, .int .u8 0] 33) (.cells #[.int .u32 0, .int .u8 0] 33)); clear hB1 cC))
    go_ret
    exact ⟨rfl, HA3.out⟩

set_option maxRecDepth 100000 in
set_option maxHeartbeats 2000000 in
theorem walk_same (o0 : Option Addr) (c0 : Nat) (a : List Nat) (ha : Byt a) (o1 : Option Addr) (c1 : Nat) (b : List Nat) (hb : Byt b) (la : a.length ≤ 4096) (lb : b.length ≤ 4096) (he : a = b) (w : World) (ra : YRow w o0 a) (rb : YRow w o1 b) :
    Calls Try.prog 6 #[.slice o0 a.length c0, .slice o1 b.length c1] w fun e w' => e = .returned (.bool true) ∧ Below w.heap.size w w' := by
  have cC := hid (fun (w' : World) (hw : Below w.heap.size w w') => Clash_same o0 o1 c0 c1 a b la lb ha hb he w' (yb' ra hw) (yb' rb hw))
  have cE := hid (fun (w' : World) (h : Below w.heap.size w w') => refBytes_any o0 o1 c0 c1 a b (decide (a = b)) (by simp) (by omega) w' (yb' ra h) (yb' rb h))
  have cS := hid (fun (w' : World) (h : Below w.heap.size w w') => Sum_any o0 c0 a la ha w' (yb' ra h))
  have cT := hid (fun (w' : World) (h : Below w.heap.size w w') => Sum_any o1 c1 b lb hb w' (yb' rb h))
  rw [decide_eq_true he] at cE
  have hs : sum b = sum a := by rw [he]
  rw [hs] at cT
  clear hs
  have h1 : ¬ (4096 : Int) < (a.length : Int) := by omega
  have h2 : ¬ (4096 : Int) < (b.length : Int) := by omega
  have cF := hid cE.out
  clear ra rb ha hb he la lb
  generalize sum a = s at *
  generalize a.length = n at *
  generalize b.length = m at *
  go_enter Try.func6, Try.ntmps6
  go_wp2_with (first
    | (go_at_call 11; refine (cS.out _ (Below.refl _ _)).mono ?_; rintro e W1 ⟨rfl, hB1⟩; have HB1 := hid hB1; clear hB1 cS)
    | (go_at_call 11; refine (cT.out _ HB1.out).mono ?_; rintro e W2 ⟨rfl, hB1⟩; have HB2 := hid (below_trans HB1.out hB1); clear hB1 cT)
    | (go_at_call 13; refine (cC.out _ HB2.out).mono ?_; rintro e W3 ⟨rfl, hB1⟩; have HB3 := hid (below_trans HB2.out hB1); have HT03 := hid (two_new W3 33 #[.int .u32 0, .int .u8 0] #[.int .u32 0, .int .u8 0]).1; have HT13 := hid (two_new W3 33 #[.int .u32 0, .int .u8 0] #[.int .u32 0, .int .u8 0]).2; have HA3 := hid (below_two HB3.out (.cells #[.int .u32 0, .int .u8 0] 33) (.cells #[.int .u32 0, .int .u8 0] 33)); clear hB1 cC)
    | (go_at_call 14; refine (cE.out _ HA3.out).mono ?_; rintro e W4 ⟨rfl, hB1⟩; have HT04 := hid (HT03.out.below hB1 HT03.out.lt); have HT14 := hid (HT13.out.below hB1 HT13.out.lt); have HA4 := hid (below_trans HA3.out hB1); clear hB1; clear cE)
    | (go_at_call 14; refine (cF.out _ HA4.out).mono ?_; rintro e W5 ⟨rfl, hB1⟩; have HT05 := hid (HT04.out.below hB1 HT04.out.lt); have HT15 := hid (HT14.out.below hB1 HT14.out.lt); have HA5 := hid (below_trans HA4.out hB1); clear hB1; clear cF))
  go_ret
  exact ⟨rfl, HA5.out⟩

set_option maxRecDepth 100000 in
set_option maxHeartbeats 2000000 in
theorem walk_none (o0 : Option Addr) (c0 : Nat) (a : List Nat) (ha : Byt a) (o1 : Option Addr) (c1 : Nat) (b : List Nat) (hb : Byt b) (la : a.length ≤ 4096) (lb : b.length ≤ 4096) (he : a ≠ b) (hs : sum a ≠ sum b) (w : World) (ra : YRow w o0 a) (rb : YRow w o1 b) :
    Calls Try.prog 6 #[.slice o0 a.length c0, .slice o1 b.length c1] w fun e w' => e = .returned (.bool true) ∧ Below w.heap.size w w' := by
  have cC := hid (fun (w' : World) (hw : Below w.heap.size w w') => Clash_none o0 o1 c0 c1 a b la lb ha hb he hs w' (yb' ra hw) (yb' rb hw))
  have cE := hid (fun (w' : World) (h : Below w.heap.size w w') => refBytes_any o0 o1 c0 c1 a b (decide (a = b)) (by simp) (by omega) w' (yb' ra h) (yb' rb h))
  have cS := hid (fun (w' : World) (h : Below w.heap.size w w') => Sum_any o0 c0 a la ha w' (yb' ra h))
  have cT := hid (fun (w' : World) (h : Below w.heap.size w w') => Sum_any o1 c1 b lb hb w' (yb' rb h))
  rw [decide_eq_false he] at cE
  have h1 : ¬ (4096 : Int) < (a.length : Int) := by omega
  have h2 : ¬ (4096 : Int) < (b.length : Int) := by omega
  have h3 : ¬ ((sum a : Nat) : Int) = ((sum b : Nat) : Int) := by omega
  have h4 : (((sum a : Nat) : Int) == ((sum b : Nat) : Int)) = false := by simp; omega
  clear ra rb ha hb he la lb hs
  generalize sum a = s at *
  generalize sum b = t at *
  generalize a.length = n at *
  generalize b.length = m at *
  go_enter Try.func6, Try.ntmps6
  go_wp2_with (first
    | (go_at_call 11; refine (cS.out _ (Below.refl _ _)).mono ?_; rintro e W1 ⟨rfl, hB1⟩; have HB1 := hid hB1; clear hB1 cS)
    | (go_at_call 11; refine (cT.out _ HB1.out).mono ?_; rintro e W2 ⟨rfl, hB1⟩; have HB2 := hid (below_trans HB1.out hB1); clear hB1 cT)
    | (go_at_call 13; refine (cC.out _ HB2.out).mono ?_; rintro e W3 ⟨rfl, hB1⟩; have HB3 := hid (below_trans HB2.out hB1); have HT03 := hid (two_new W3 33 #[.int .u32 0, .int .u8 0] #[.int .u32 0, .int .u8 0]).1; have HT13 := hid (two_new W3 33 #[.int .u32 0, .int .u8 0] #[.int .u32 0, .int .u8 0]).2; have HA3 := hid (below_two HB3.out (.cells #[.int .u32 0, .int .u8 0] 33) (.cells #[.int .u32 0, .int .u8 0] 33)); clear hB1 cC)
    | (go_at_call 14; refine (cE.out _ HA3.out).mono ?_; rintro e W4 ⟨rfl, hB1⟩; have HT04 := hid (HT03.out.below hB1 HT03.out.lt); have HT14 := hid (HT13.out.below hB1 HT13.out.lt); have HA4 := hid (below_trans HA3.out hB1); clear hB1; clear cE))
  go_ret
  exact ⟨rfl, HA4.out⟩

set_option maxRecDepth 100000 in
set_option maxHeartbeats 2000000 in
theorem walk_yes (o0 : Option Addr) (c0 : Nat) (a : List Nat) (ha : Byt a) (o1 : Option Addr) (c1 : Nat) (b : List Nat) (hb : Byt b) (la : a.length ≤ 4096) (lb : b.length ≤ 4096) (he : a ≠ b) (hs : sum a = sum b) (k x y x' y' : Nat) (hk : Clash (pad a) (pad b) k) (hxa : mx (pad a) k = (x, y)) (hxb : mx (pad b) k = (x', y')) (w : World) (ra : YRow w o0 a) (rb : YRow w o1 b) :
    Calls Try.prog 6 #[.slice o0 a.length c0, .slice o1 b.length c1] w fun e w' => e = .returned (.bool true) ∧ Below w.heap.size w w' := by
  have cC := hid (fun (w' : World) (hw : Below w.heap.size w w') => Clash_yes o0 o1 c0 c1 a b la lb ha hb he hs k x y x' y' hk hxa hxb w' (yb' ra hw) (yb' rb hw))
  have cE := hid (fun (w' : World) (h : Below w.heap.size w w') => refBytes_any o0 o1 c0 c1 a b (decide (a = b)) (by simp) (by omega) w' (yb' ra h) (yb' rb h))
  have cS := hid (fun (w' : World) (h : Below w.heap.size w w') => Sum_any o0 c0 a la ha w' (yb' ra h))
  have cT := hid (fun (w' : World) (h : Below w.heap.size w w') => Sum_any o1 c1 b lb hb w' (yb' rb h))
  rw [decide_eq_false he] at cE
  have h1 : ¬ (4096 : Int) < (a.length : Int) := by omega
  have h2 : ¬ (4096 : Int) < (b.length : Int) := by omega
  rw [← hs] at cT
  have hne := hk.2.2.1
  have hst := hk.same hs
  rw [hxa, hxb] at hne hst
  simp only at hst
  have b1 : x < 65536 := by have h := congrArg Prod.fst hxa; simp only at h; rw [← h]; exact run_lt32 _ _
  have b2 : x' < 65536 := by have h := congrArg Prod.fst hxb; simp only at h; rw [← h]; exact run_lt32 _ _
  have b3 : y < 256 := by have h := congrArg Prod.snd hxa; simp only at h; rw [← h]; exact pad_byt ha _ (yb_mem (by have := hk.1; omega))
  have b4 : y' < 256 := by have h := congrArg Prod.snd hxb; simp only at h; rw [← h]; exact pad_byt hb _ (yb_mem (by have := hk.2.1; omega))
  have cX := fun w => Step_any x y (by omega) b3 w
  have cY := fun w => Step_any x' y' (by omega) b4 w
  rw [← hst] at cY
  generalize stp x y = z at *
  have cZ : ∀ (u v : Nat) (h : (u = x ∧ v = y) ∨ (u = x' ∧ v = y')) (w : World), Calls Try.prog 9 #[.int .u32 (u : Int), .int .u8 (v : Int)] w fun e w' => e = .returned (.int .u32 (z : Int)) ∧ w' = w := fun u v h w => by
    rcases h with ⟨rfl, rfl⟩ | ⟨rfl, rfl⟩
    · exact cX w
    · exact cY w
  clear cX cY
  clear ra rb ha hb he la lb hs hk hxa hxb hst b1 b2 b3 b4
  generalize sum a = s at *
  generalize a.length = n at *
  generalize b.length = m at *
  rcases ne_parts hne with e0 | ⟨e0, hy⟩
  · clear hne
    have e1 : ((x : Int) == (x' : Int)) = false := by simp; omega
    have e2 : ¬ (x : Int) = (x' : Int) := by omega
    have e3 : (x == x') = false := by simpa using e0
    have e4 : (x != x') = true := by simpa using e0
    have e5 : ((x : Int) != (x' : Int)) = true := by simp; omega
    go_enter Try.func6, Try.ntmps6
    go_wp2_with (first
      | (go_at_call 11; refine (cS.out _ (Below.refl _ _)).mono ?_; rintro e W1 ⟨rfl, hB1⟩; have HB1 := hid hB1; clear hB1 cS)
      | (go_at_call 11; refine (cT.out _ HB1.out).mono ?_; rintro e W2 ⟨rfl, hB1⟩; have HB2 := hid (below_trans HB1.out hB1); clear hB1 cT)
      | (go_at_call 13; refine (cC.out _ HB2.out).mono ?_; rintro e W3 ⟨rfl, hB1⟩; have HB3 := hid (below_trans HB2.out hB1); have HT03 := hid (two_new W3 33 #[.int .u32 (x : Int), .int .u8 (y : Int)] #[.int .u32 (x' : Int), .int .u8 (y' : Int)]).1; have HT13 := hid (two_new W3 33 #[.int .u32 (x : Int), .int .u8 (y : Int)] #[.int .u32 (x' : Int), .int .u8 (y' : Int)]).2; have HA3 := hid (below_two HB3.out (.cells #[.int .u32 (x : Int), .int .u8 (y : Int)] 33) (.cells #[.int .u32 (x' : Int), .int .u8 (y' : Int)] 33)); clear hB1 cC)
      | (go_at_call 14; refine (cE.out _ HA3.out).mono ?_; rintro e W4 ⟨rfl, hB1⟩; have HT04 := hid (HT03.out.below hB1 HT03.out.lt); have HT14 := hid (HT13.out.below hB1 HT13.out.lt); have HA4 := hid (below_trans HA3.out hB1); clear hB1; clear cE))
    have d0 := HT04.out.cell 0
    have d1 := HT04.out.cell 1
    have d2 := HT14.out.cell 0
    have d3 := HT14.out.cell 1
    simp at d0 d1 d2 d3
    go_quiet ((go_at_call 9; exact Calls.quiet_of_same (cZ _ _ (by first | exact .inl ⟨rfl, rfl⟩ | exact .inr ⟨rfl, rfl⟩) _)))
    go_wp2
    go_ret
    exact ⟨rfl, below_drewN HA4.out _⟩
  · subst e0
    clear hne
    have e1 : ((y : Int) == (y' : Int)) = false := by simp; omega
    have e2 : ¬ (y : Int) = (y' : Int) := by omega
    have e3 : (y == y') = false := by simpa using hy
    have e4 : (y != y') = true := by simpa using hy
    have e5 : ((y : Int) != (y' : Int)) = true := by simp; omega
    go_enter Try.func6, Try.ntmps6
    go_wp2_with (first
      | (go_at_call 11; refine (cS.out _ (Below.refl _ _)).mono ?_; rintro e W1 ⟨rfl, hB1⟩; have HB1 := hid hB1; clear hB1 cS)
      | (go_at_call 11; refine (cT.out _ HB1.out).mono ?_; rintro e W2 ⟨rfl, hB1⟩; have HB2 := hid (below_trans HB1.out hB1); clear hB1 cT)
      | (go_at_call 13; refine (cC.out _ HB2.out).mono ?_; rintro e W3 ⟨rfl, hB1⟩; have HB3 := hid (below_trans HB2.out hB1); have HT03 := hid (two_new W3 33 #[.int .u32 (x : Int), .int .u8 (y : Int)] #[.int .u32 (x : Int), .int .u8 (y' : Int)]).1; have HT13 := hid (two_new W3 33 #[.int .u32 (x : Int), .int .u8 (y : Int)] #[.int .u32 (x : Int), .int .u8 (y' : Int)]).2; have HA3 := hid (below_two HB3.out (.cells #[.int .u32 (x : Int), .int .u8 (y : Int)] 33) (.cells #[.int .u32 (x : Int), .int .u8 (y' : Int)] 33)); clear hB1 cC)
      | (go_at_call 14; refine (cE.out _ HA3.out).mono ?_; rintro e W4 ⟨rfl, hB1⟩; have HT04 := hid (HT03.out.below hB1 HT03.out.lt); have HT14 := hid (HT13.out.below hB1 HT13.out.lt); have HA4 := hid (below_trans HA3.out hB1); clear hB1; clear cE))
    have d0 := HT04.out.cell 0
    have d1 := HT04.out.cell 1
    have d2 := HT14.out.cell 0
    have d3 := HT14.out.cell 1
    simp at d0 d1 d2 d3
    go_quiet ((go_at_call 9; exact Calls.quiet_of_same (cZ _ _ (by first | exact .inl ⟨rfl, rfl⟩ | exact .inr ⟨rfl, rfl⟩) _)))
    go_wp2
    go_ret
    exact ⟨rfl, below_drewN HA4.out _⟩

theorem walk (o0 : Option Addr) (c0 : Nat) (a : List Nat) (ha : ∀ b ∈ a, b < 256) (k0 : a.length ≤ c0) (m0 : a.length ≤ 9223372036854775807) (o1 : Option Addr) (c1 : Nat) (b : List Nat) (hb : ∀ x ∈ b, x < 256) (k1 : b.length ≤ c1) (m1 : b.length ≤ 9223372036854775807) (w : World) (ra : YRow w o0 a) (rb : YRow w o1 b) :
    Calls Try.prog 6 #[.slice o0 a.length c0, .slice o1 b.length c1] w fun e w' => e = .returned (.bool true) ∧ Below w.heap.size w w' := by
  by_cases h : 4096 < a.length ∨ 4096 < b.length
  · exact walk_far o0 c0 a ha o1 c1 b hb h w ra rb
  · have la : a.length ≤ 4096 := by omega
    have lb : b.length ≤ 4096 := by omega
    by_cases he : a = b
    · exact walk_same o0 c0 a ha o1 c1 b hb la lb he w ra rb
    · by_cases hs : sum a = sum b
      · obtain ⟨k, x, y, x', y', hk, h1, h2⟩ := clash_at la lb he
        exact walk_yes o0 c0 a ha o1 c1 b hb la lb he hs k x y x' y' hk h1 h2 w ra rb
      · exact walk_none o0 c0 a ha o1 c1 b hb la lb he hs w ra rb

set_option maxRecDepth 100000 in
theorem lifted (os : Os) (started : os.Started) (H : Type) (enc : TypeId × Value → H) :
    ReturnsInHanded {} Try.checked os 6 .any (Rows.hashClashesSpec.pre6 enc Try.prog Try.f6 Rows.hashClashesRow.domain false) (Rows.hashClashesSpec.post enc Try.prog Try.f6 false true false false) := by
  refine returnsInHanded_of_change (C := Try.checked) own started (by kernel_rfl) Try.func6
    (ChangeSpec.witness6 (enc := enc) (C := Try.checked) false ⟨#[], #[.slice none 0 0, .slice none 0 0], []⟩ 8 (by kernel_rfl) (by kernel_rfl) (by kernel_rfl) (by kernel_rfl)) ?_
  intro W base args ds gs before hval0 hW hcnd _
  have hval : ∀ (j : Nat) t v, Try.f6.params[j]? = some t → args[j]? = some v → Value.okWide Try.prog W .any base t v := hval0
  have hW' := hW
  obtain ⟨p, q, hA0, hV, rfl, _, _⟩ := hW
  have hA : DataW.TrodAll enc Try.prog W 0 (fun _ => true) true Try.f6.params.toList args.toList ds p := hA0
  rw [Try.params6] at hA hval
  obtain ⟨v0, v1, d0, d1, p0, p1, rfl, rfl, rfl, h0, h1⟩ := trodAll_two hA
  obtain ⟨rfl, rfl⟩ := trodVars_none hV
  have hsl0 := okWide_slice Try.underlying26 (hval 0 26 v0 rfl rfl)
  have hsl1 := okWide_slice Try.underlying26 (hval 1 26 v1 rfl rfl)
  clear hA0 hval0
  simp only [List.append_nil] at hW'
  have hlt0 : ∀ x ∈ p0, x.block < W.heap.size := fun x hx => by simpa using hW'.lt x (by simp [hx])
  have harg0 : ∀ (W' : World), Below W.heap.size W W' → DataW.Trod enc Try.prog W' 0 (fun b => decide (b < W.heap.size)) true 26 v0 d0 p0 :=
    fun W' hn => Below.trod laidOut (by kernel_rfl) (of_decide_eq_true (by kernel_rfl)) h0 hn hlt0
  obtain ⟨o0, c0, l0, rfl, r0, b0, k0, m0⟩ := bytes_view Try.underlying26 cells8 Try.underlying5 h0 hsl0
  have hlt1 : ∀ x ∈ p1, x.block < W.heap.size := fun x hx => by simpa using hW'.lt x (by simp [hx])
  have harg1 : ∀ (W' : World), Below W.heap.size W W' → DataW.Trod enc Try.prog W' 0 (fun b => decide (b < W.heap.size)) true 26 v1 d1 p1 :=
    fun W' hn => Below.trod laidOut (by kernel_rfl) (of_decide_eq_true (by kernel_rfl)) h1 hn hlt1
  obtain ⟨o1, c1, l1, rfl, r1, b1, k1, m1⟩ := bytes_view Try.underlying26 cells8 Try.underlying5 h1 hsl1
  refine (walk o0 c0 l0 b0 k0 m0 o1 c1 l1 b1 k1 m1 W r0 r1).mono fun e W' ⟨he, hg⟩ => ?_
  subst he
  refine ⟨_, rfl, _, _, _, [], p0 ++ (p1), [], hW', ?_, ?_, rfl, hg.frame _, fun h => by cases h⟩
  · exact trodAll_mk1 (shut_bool Try.underlying4 true)
  · exact trodAll_mk2 (harg0 _ hg) (harg1 _ hg)

theorem over : Rows.hashClashesRow.holds Try.pinned (OpenSpec.ofChange Rows.hashClashesSpec) :=
  OpenClaim.holds_of_wide 6 Try.f6 rfl rfl rfl rfl rfl rfl rfl ⟨rfl, rfl, rfl, rfl, rfl⟩ rfl rfl rfl rfl rfl (by kernel_rfl) Try.func6 (by kernel_rfl)
    (of_decide_eq_true (by kernel_rfl)) (by unfold Func.isWrapper; first | (rw [if_pos (by decide +kernel)]; kernel_rfl) | (rw [if_neg (by decide +kernel)]; exact ⟨rfl, rfl⟩))
    (fun os started H enc _ => lifted os started H enc)

/-- ████ THE STATEMENT ████ -/
theorem proved : Rows.HashClashesSaid :=
  over

end Go.Proofs.Ytpmdfiebcaifmaa.hashClashes
