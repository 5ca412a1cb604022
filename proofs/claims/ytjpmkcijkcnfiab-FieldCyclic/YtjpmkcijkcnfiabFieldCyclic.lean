/-
  GAUSS: for any field: the powers of what is told are all elements but 0.
-/
import Derived.Test.YtjpmkcijkcnfiabRows
import Derived.Test.YtjpmkcijkcnfiabCalls86
import Derived.WalkKit
import Derived.ProofKit
import Derived.OpenShut
import Derived.Carry
namespace Go.Proofs.Ytjpmkcijkcnfiab.fieldCyclic
open Go.ChangeShapes Go.WideShapes Go.ChangeAt Go.RowKit Go.Deep Go.Proofs.Ytjpmkcijkcnfiab.Base Go.Proofs.Ytjpmkcijkcnfiab.Base2 Go.Proofs.Ytjpmkcijkcnfiab.Num Go.Proofs.Ytjpmkcijkcnfiab.Num16 Go.Proofs.Ytjpmkcijkcnfiab.Num17 Go.Proofs.Ytjpmkcijkcnfiab.Num21 Go.Proofs.Ytjpmkcijkcnfiab.Num23 Go.Proofs.Ytjpmkcijkcnfiab.Num34 Go.Proofs.Ytjpmkcijkcnfiab.Num35 Go.Proofs.Ytjpmkcijkcnfiab.Num36 Go.Proofs.Ytjpmkcijkcnfiab.Num37 Go.Proofs.Ytjpmkcijkcnfiab.Num38 Go.Proofs.Ytjpmkcijkcnfiab.Base4 Go.Proofs.Ytjpmkcijkcnfiab.Calls56 Go.Proofs.Ytjpmkcijkcnfiab.Calls57 Go.Proofs.Ytjpmkcijkcnfiab.Calls20 Go.Proofs.Ytjpmkcijkcnfiab.Calls62 Go.Proofs.Ytjpmkcijkcnfiab.Calls75 Go.Proofs.Ytjpmkcijkcnfiab.Calls76 Go.Proofs.Ytjpmkcijkcnfiab.Calls77 Go.Proofs.Ytjpmkcijkcnfiab.Calls81 Go.Proofs.Ytjpmkcijkcnfiab.Calls82 Go.Proofs.Ytjpmkcijkcnfiab.Calls83 Go.Proofs.Ytjpmkcijkcnfiab.Calls84 Go.Proofs.Ytjpmkcijkcnfiab.Calls85 Go.Proofs.Ytjpmkcijkcnfiab.Calls86
set_option linter.unusedVariables false

theorem own : ownKnob Try.prog.godebug = none := by kernel_rfl

theorem laidOut : laidOutB Try.prog = true := by kernel_rfl

theorem cells2 : Try.prog.cellsOf 2 = 1 := by kernel_rfl

set_option maxRecDepth 100000 in
set_option maxHeartbeats 2000000 in
theorem walk (p : Int) (fo : Option Addr) (cf : Nat) (f : List Int) (kf : f.length ≤ cf) (mf : f.length ≤ 9223372036854775807) (w : World) (rf : IRow w fo f) :
    Calls Try.prog 6 #[.int .i64 p, .slice fo f.length cf] w fun e w' => e = .returned (.bool true) ∧ Below w.heap.size w w' := by
  obtain ⟨c, hc⟩ := fc_ex p f
  by_cases h0 : c = 0
  · subst h0
    have cW := fun w' (hB : Below w.heap.size w w') => within_nil p fo cf f mf true ⟨fun _ => EC.nil hc, fun _ => rfl⟩ w w' rf hB
    obtain ⟨P, rfl, hF⟩ := hc.ok
    obtain ⟨F, hFi⟩ := hF.ex
    have hs := hF.size
    obtain ⟨m, hm⟩ : ∃ m, P ^ (f.length - 1) - 1 = m := ⟨_, rfl⟩
    obtain ⟨G, hG⟩ := base_is hF.1 hF.fl.1 hFi
    rw [hm] at hG
    obtain ⟨hG1, hG2, hG3⟩ := base_facts hF hFi hm hG
    have cA := fBase_el P f hF F hFi m G hm hG fo cf w rf
    have cZ := fun w => refFieldSize_any P hF.1.1 hF.2.1 fo cf f (by have := hF.fl; omega) w
    rw [fsz_of hF.2.2.2.2.2.2.1] at cZ
    obtain ⟨y, hy⟩ := hF.el (a := G) hG2
    have hO := (hG3 y).2 hy
    have cM := fun (x : Go.Proofs.Ytjpmkcijkcnfiab.Num22.El P f) w' (hB : Below w.heap.size w w') => fMul_el P f hF F hFi x y fo cf w' (irow_below rf hB (Nat.le_refl _))
    simp only [hy] at cM
    have HNext : Hid (∀ k v, k < m → Sn F y k v → v (num (Go.Proofs.Ytjpmkcijkcnfiab.Num20.pw F y (k + 1))) = false ∧ Sn F y (k + 1) (fun j => if j = num (Go.Proofs.Ytjpmkcijkcnfiab.Num20.pw F y (k + 1)) then true else v j)) := fun k v hk h => h.next hF hFi hO (by omega) hk
    have HPos : Hid (∀ k, 1 ≤ num (Go.Proofs.Ytjpmkcijkcnfiab.Num20.pw F y k) ∧ num (Go.Proofs.Ytjpmkcijkcnfiab.Num20.pw F y k) < P ^ (f.length - 1)) := fun k => ⟨pw_pos hF hFi (by omega) k, num_lt (by have := hF.1.1; omega) _⟩
    have HEnd : Hid (num (Go.Proofs.Ytjpmkcijkcnfiab.Num20.pw F y m) = 1) := by show _ = _; rw [(hO.2 m).2 (Nat.dvd_refl _), hFi.one]
    have HOne : Hid (1 = num (Go.Proofs.Ytjpmkcijkcnfiab.Num20.pw F y 0)) := by show _ = _; exact hFi.one.symm
    obtain ⟨i4, hi1, hi2, hi3, hi4⟩ := infoBool_ex
    obtain ⟨S, hS⟩ : ∃ S, S = P ^ (f.length - 1) := ⟨_, rfl⟩
    rw [← hS] at hs hm HPos hG2
    simp only [← hS] at cZ
    clear hS hG hG3 hc hF hFi hO rf
    generalize f.length = n at *
    go_enter Try.func6, Try.ntmps6
    go_wp2_with (first
      | (go_at_call 13; refine (cA).mono ?_; rintro e w1 ⟨rfl, hB1⟩; have HB1 := hid hB1; clear hB1)
      | (go_at_call 8; refine (cW _ HB1.out).mono ?_; rintro e w2 ⟨rfl, hB2⟩; have HB2 := hid hB2; clear hB2)
      | (go_at_call 12; refine (cZ _).mono ?_; rintro e wz ⟨rfl, hw⟩; subst wz)
      | (at_make; refine wpList_make_full _ rfl _ _ 33 rfl w2.heap.size 4 i4 (.bool false) 1 Try.underlying33 hi1 hi2 hi3 .i64 .i64 (S : Int) (S : Int) S rfl rfl rfl rfl (by rw [hi4]; omega) (by unfold maxLen; omega) (Nat.le_refl _) ?_; intro w3 hown3 hgrow3))
    have hrow0 : Hid (w3.ownsRow w2.heap.size 4 1 (.slice (some ⟨w2.heap.size, 0, none⟩) S S) S (bs S (fun _ => false))) := by
      rw [← bs_zero S]; exact hown3
    have hB3 : Hid (Below w2.heap.size w2 w3) := (Below.refl _ w2).grown hgrow3 (Nat.le_refl _) (fun j e => by cases e)
    clear hown3 hgrow3 cA cW cZ hi1 hi2 hi3 hi4
    go_loopw [9, 10] (fun u i wr => ∃ (k a : Nat) (v : Nat → Bool), u = .int .i64 (a : Int) ∧ i = .int .i64 ((k : Int) + 1) ∧ k ≤ m ∧ Hid (a = num (Go.Proofs.Ytjpmkcijkcnfiab.Num20.pw F y k)) ∧ Hid (Sn F y k v) ∧ Hid (wr.ownsRow w2.heap.size 4 1 (.slice (some ⟨w2.heap.size, 0, none⟩) S S) S (bs S v)) ∧ Hid (Below w2.heap.size w2 wr)) (fun u i wr => ((m : Int) + 1 - intOf i).toNat)
    case atStart => exact ⟨0, 1, _, rfl, rfl, by omega, HOne, Sn.start F y, hrow0, hB3⟩
    case round =>
      obtain ⟨k, a, v, rfl, rfl, hk, hA, hV, hrow, hB⟩ := hrel
      by_cases hlt : k < m
      · have hcond : (k : Int) + 1 < (S : Int) := by omega
        have cM1 := cM (Go.Proofs.Ytjpmkcijkcnfiab.Num20.pw F y k) wr (below_trans HB2.out hB.out)
        rw [← hA.out] at cM1
        have hU2 : Hid (num (F.mul (Go.Proofs.Ytjpmkcijkcnfiab.Num20.pw F y k) y) = num (Go.Proofs.Ytjpmkcijkcnfiab.Num20.pw F y (k + 1))) := rfl
        rw [hU2.out] at cM1
        obtain ⟨hv0, hN⟩ := HNext.out k v hlt hV.out
        obtain ⟨hz1, hz2⟩ := HPos.out (k + 1)
        obtain ⟨z, hz⟩ : ∃ z, z = num (Go.Proofs.Ytjpmkcijkcnfiab.Num20.pw F y (k + 1)) := ⟨_, rfl⟩
        rw [← hz] at cM1 hv0 hN hz1 hz2
        have HZ := hid hz
        have HN := hid hN
        have hd1 : decide ((z : Int) < 1) = false := by simp; omega
        have hd2 : decide ((S : Int) ≤ (z : Int)) = false := by simp; omega
        have hd3 : (z : Int) < (S : Int) := by omega
        have HRow : Hid (∀ W, Below wr.heap.size wr W → W.cell? ⟨w2.heap.size, z, none⟩ = some (.bool false) ∧ W.frozen? ⟨w2.heap.size, z, none⟩ = false ∧ (W.setCell ⟨w2.heap.size, z, none⟩ (.bool true)).ownsRow w2.heap.size 4 1 (.slice (some ⟨w2.heap.size, 0, none⟩) S S) S (bs S (fun j => if j = z then true else v j))) := fun W hW => by
          have hr := owns_below hrow.out hW
          refine ⟨?_, World.ownsRow.frozenAt hr z, ?_⟩
          · rw [(World.ownsRow.cellAt hr z (by omega)).trans (bs_get v (by omega)), hv0]
          · have := (hr.stored z (.bool true)).1
            rwa [bs_set] at this
        clear hz hN hv0 hU2 cM hz1 hz2
        go_wp2_with (go_at_call 9; refine cM1.mono ?_; rintro e w4 ⟨rfl, hB4⟩; have R4 := HRow.out w4 hB4; have hc4 := R4.1; have hf4 := R4.2.1; have HR4 := hid R4.2.2; have HB4 := hid (hB.out.trans (hB4.mono hB.out.size)); clear R4 hB4)
        go_roundw
        case rel => exact ⟨k + 1, z, _, rfl, by simp, by omega, HZ, HN, HR4, HB4.out.setCell (p := ⟨w2.heap.size, z, none⟩) (Nat.le_refl _) _⟩
        case measure => show ((m : Int) + 1 - ((k : Int) + 1 + 1)).toNat < ((m : Int) + 1 - ((k : Int) + 1)).toNat; omega
      · have hcond : ¬ (k : Int) + 1 < (S : Int) := by omega
        obtain rfl : k = m := by omega
        have ha1 : a = 1 := by rw [hA.out, HEnd.out]
        subst ha1
        clear cM
        go_wp2
        go_ret
        exact ⟨rfl, below_trans HB2.out hB.out⟩
  · have cW := fun w' (hB : Below w.heap.size w w') => within_nil p fo cf f mf false ⟨fun e => (by cases e), fun e => absurd e (ec_no (EC.nil hc) h0)⟩ w w' rf hB
    have cA := fBase_bad p fo cf f mf c hc h0 w rf
    have g1 : (c != 0) = true := by simpa using h0
    have g2 : (c == 0) = false := by simpa using h0
    generalize f.length = n at *
    clear rf hc
    go_enter Try.func6, Try.ntmps6
    go_wp2_with (first
      | (go_at_call 13; refine (cA).mono ?_; rintro e w1 ⟨rfl, hB1⟩; have HB1 := hid hB1; clear hB1)
      | (go_at_call 8; refine (cW _ HB1.out).mono ?_; rintro e w2 ⟨rfl, hB2⟩; have HB2 := hid hB2; clear hB2))
    go_ret
    exact ⟨by simp, HB2.out⟩

set_option maxRecDepth 100000 in
theorem lifted (os : Os) (started : os.Started) (H : Type) (enc : TypeId × Value → H) :
    ReturnsInHanded {} Try.checked os 6 .any (Rows.fieldCyclicSpec.pre6 enc Try.prog Try.f6 Rows.fieldCyclicRow.domain false) (Rows.fieldCyclicSpec.post enc Try.prog Try.f6 false true false false) := by
  refine returnsInHanded_of_change (C := Try.checked) own started (by kernel_rfl) Try.func6
    (ChangeSpec.witness6 (enc := enc) (C := Try.checked) false ⟨#[], #[.int .i64 0, .slice none 0 0], []⟩ 8 (by kernel_rfl) (by kernel_rfl) (by kernel_rfl) (by kernel_rfl)) ?_
  intro W base args ds gs before hval0 hW hcnd _
  have hval : ∀ (j : Nat) t v, Try.f6.params[j]? = some t → args[j]? = some v → Value.okWide Try.prog W .any base t v := hval0
  have hW' := hW
  obtain ⟨p, q, hA0, hV, rfl, _, _⟩ := hW
  have hA : DataW.TrodAll enc Try.prog W 0 (fun _ => true) true Try.f6.params.toList args.toList ds p := hA0
  rw [Try.params6] at hA hval
  obtain ⟨v0, v1, d0, d1, p0, p1, rfl, rfl, rfl, h0, h1⟩ := trodAll_two hA
  obtain ⟨rfl, rfl⟩ := trodVars_none hV
  obtain ⟨a0, rfl, rfl, rfl, w0⟩ := open_int Try.underlying2 (hval 0 2 v0 rfl rfl) h0
  have hsl1 := okWide_slice Try.underlying22 (hval 1 22 v1 rfl rfl)
  clear hA0 hval0
  simp only [List.append_nil, List.nil_append] at hW'
  have hlt1 : ∀ x ∈ p1, x.block < W.heap.size := fun x hx => by simpa using hW'.lt x (by simp [hx])
  have harg1 : ∀ (W' : World), Below W.heap.size W W' → DataW.Trod enc Try.prog W' 0 (fun b => decide (b < W.heap.size)) true 22 v1 d1 p1 :=
    fun W' hn => Below.trod laidOut (by kernel_rfl) (of_decide_eq_true (by kernel_rfl)) h1 hn hlt1
  obtain ⟨o1, c1, l1, rfl, r1, k1, m1⟩ := longs_view Try.underlying22 cells2 Try.underlying2 h1 hsl1
  refine (walk a0 o1 c1 l1 k1 m1 W r1).mono fun e W' ⟨he, hg⟩ => ?_
  subst he
  refine ⟨_, rfl, _, _, _, [], ([] : List MemPlace) ++ (p1), [], hW', ?_, ?_, rfl, hg.frame _, fun h => by cases h⟩
  · exact trodAll_mk1 (shut_bool Try.underlying4 true)
  · exact trodAll_mk2 (shut_int Try.underlying2 w0) (harg1 _ hg)

theorem over : Rows.fieldCyclicRow.holds Try.pinned (OpenSpec.ofChange Rows.fieldCyclicSpec) :=
  OpenClaim.holds_of_wide 6 Try.f6 rfl rfl rfl rfl rfl rfl rfl ⟨rfl, rfl, rfl, rfl, rfl⟩ rfl rfl rfl rfl rfl (by kernel_rfl) Try.func6 (by kernel_rfl)
    (of_decide_eq_true (by kernel_rfl)) (by unfold Func.isWrapper; first | (rw [if_pos (by decide +kernel)]; kernel_rfl) | (rw [if_neg (by decide +kernel)]; exact ⟨rfl, rfl⟩))
    (fun os started H enc _ => lifted os started H enc)

/-- ████ THE STATEMENT ████ -/
theorem proved : Rows.FieldCyclicSaid :=
  over

end Go.Proofs.Ytjpmkcijkcnfiab.fieldCyclic
