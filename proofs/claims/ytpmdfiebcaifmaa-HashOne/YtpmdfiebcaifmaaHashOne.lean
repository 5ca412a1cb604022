/-
  For any text, any place and any byte: with that byte in place of the one that stood there package hash's Sum answers another number, unless it is the same byte: at every input.
-/
import Derived.Test.YtpmdfiebcaifmaaRows
import Derived.Test.YtpmdfiebcaifmaaCalls132
import Derived.WalkKit
import Derived.ProofKit
import Derived.OpenShut
import Derived.Carry
namespace Go.Proofs.Ytpmdfiebcaifmaa.hashOne
open Go.ChangeShapes Go.WideShapes Go.ChangeAt Go.RowKit Go.Deep Go.Proofs.Ytpmdfiebcaifmaa.Base Go.Proofs.Ytpmdfiebcaifmaa.Base2 Go.Proofs.Ytpmdfiebcaifmaa.Base7 Go.Proofs.Ytpmdfiebcaifmaa.Base8 Go.Proofs.Ytpmdfiebcaifmaa.Num55 Go.Proofs.Ytpmdfiebcaifmaa.Calls125 Go.Proofs.Ytpmdfiebcaifmaa.Calls126 Go.Proofs.Ytpmdfiebcaifmaa.Calls127 Go.Proofs.Ytpmdfiebcaifmaa.Calls128 Go.Proofs.Ytpmdfiebcaifmaa.Calls129 Go.Proofs.Ytpmdfiebcaifmaa.Calls130 Go.Proofs.Ytpmdfiebcaifmaa.Calls131 Go.Proofs.Ytpmdfiebcaifmaa.Calls132
set_option linter.unusedVariables false

theorem own : ownKnob Try.prog.godebug = none := by kernel_rfl

theorem laidOut : laidOutB Try.prog = true := by kernel_rfl

theorem cells2 : Try.prog.cellsOf 2 = 1 := by kernel_rfl

theorem cells8 : Try.prog.cellsOf 5 = 1 := by kernel_rfl

set_option maxRecDepth 100000 in
set_option maxHeartbeats 1000000 in
theorem walk_far (o : Option Addr) (c n : Nat) (hn : 4096 < n) (k x : Int) (w : World) :
    Calls Try.prog 7 #[.slice o n c, .int .u16 k, .int .u8 x] w fun e w' => e = .returned (.bool true) ∧ Below w.heap.size w w' := by
  have cA := Sum_large o n c hn w
  have hl' : (4096 : Int) < (n : Int) := by omega
  go_enter Try.func7, Try.ntmps7
  go_wp2_with (go_at_call 11; refine cA.mono ?_; rintro e w1 ⟨rfl, hw⟩; subst w1)
  go_ret
  exact ⟨rfl, Below.refl _ _⟩

set_option maxRecDepth 100000 in
set_option maxHeartbeats 1000000 in
theorem walk_nil (o : Option Addr) (c : Nat) (k x : Int) (w : World) (r : YRow w o []) :
    Calls Try.prog 7 #[.slice o 0 c, .int .u16 k, .int .u8 x] w fun e w' => e = .returned (.bool true) ∧ Below w.heap.size w w' := by
  have cA := Sum_any o c [] (by simp) (fun b hb => by cases hb) w r
  simp only [List.length_nil] at cA
  generalize sum [] = s at *
  go_enter Try.func7, Try.ntmps7
  go_wp2_with (go_at_call 11; refine cA.mono ?_; rintro e w1 ⟨rfl, hB⟩)
  go_ret
  exact ⟨rfl, hB⟩

/-- One byte turned: the sum is the same just if the text is. -/
theorem one_turned {l : List Nat} (hl : l.length ≤ 4096) (hb : Byt l) {i x : Nat} (hi : i < l.length) (hx : x < 256) : sum l = sum (l.set i x) ↔ l = l.set i x := by
  constructor
  · intro e
    have h1 : pad l = l.take i ++ yb l i :: (l.drop (i + 1) ++ len4 l.length) := by
      have : l = l.take i ++ yb l i :: l.drop (i + 1) := by
        have h2 : yb l i = l[i] := by simp [yb, List.getD, hi]
        rw [h2, List.getElem_cons_drop, List.take_append_drop]
      show l ++ len4 l.length = _
      generalize len4 l.length = z
      conv => lhs; rw [this]
      simp
    have h2 : pad (l.set i x) = l.take i ++ x :: (l.drop (i + 1) ++ len4 l.length) := by
      show l.set i x ++ len4 (l.set i x).length = _
      rw [List.length_set, List.set_eq_take_append_cons_drop, if_pos hi]
      simp
    have hm : Byt (l.drop (i + 1) ++ len4 l.length) := fun b h => by
      rcases List.mem_append.1 h with h | h
      · exact hb b (List.mem_of_mem_drop h)
      · exact len4_byt _ b h
    have e2 : run 0 (l.take i ++ yb l i :: (l.drop (i + 1) ++ len4 l.length)) = run 0 (l.take i ++ x :: (l.drop (i + 1) ++ len4 l.length)) := by
      rw [← h1, ← h2]; exact e
    have e3 := (run_one (l := l.take i) hm (hb _ (yb_mem hi)) hx).1 e2
    refine yb_ext (by simp) fun j hj => ?_
    by_cases ej : j = i
    · subst ej
      rw [e3]; simp [yb, List.getD, hj]
    · simp [yb, List.getD, show ¬ i = j from fun h => ej h.symm]
  · intro e; rw [← e]

set_option maxRecDepth 100000 in
set_option maxHeartbeats 1000000 in
theorem walk_in (o : Option Addr) (c : Nat) (l : List Nat) (hl : l.length ≤ 4096) (hl1 : 1 ≤ l.length) (hb : Byt l) (k x : Nat) (hk : k < 65536) (hx : x < 256) (w : World) (r : YRow w o l) :
    Calls Try.prog 7 #[.slice o l.length c, .int .u16 (k : Int), .int .u8 (x : Int)] w fun e w' => e = .returned (.bool true) ∧ Below w.heap.size w w' := by
  obtain ⟨i0, hi, hz0, hz1, hz2⟩ := infoY infoU8
  obtain ⟨n, hn⟩ : ∃ n, n = l.length := ⟨_, rfl⟩
  obtain ⟨i, hi1⟩ : ∃ i, i = k % n := ⟨_, rfl⟩
  have hin : i < n := by rw [hi1]; exact Nat.mod_lt _ (by omega)
  have hit : ((k : Int)).tmod (n : Int) = (i : Int) := by
    rw [Int.tmod_eq_emod_of_nonneg (by omega), hi1]; simp
  have hone := one_turned hl hb (i := i) (x := x) (by rw [← hn]; exact hin) hx
  obtain ⟨m, hm⟩ : ∃ m, m = l.set i x := ⟨_, rfl⟩
  have HM := hid hm
  have hml : m.length = l.length := by rw [hm]; simp
  have hmb : Byt m := fun b h => by
    rw [hm] at h
    rcases List.mem_or_eq_of_mem_set h with h | h
    · exact hb b h
    · rw [h]; exact hx
  rw [← hm] at hone
  have cA := Sum_any o c l hl hb w r
  have cB := hid (fun (ao : Option Addr) (ca : Nat) (w' : World) (ra : YRow w' ao m) => Sum_any ao ca m (by omega) hmb w' ra)
  have cE := hid (fun (ao bo : Option Addr) (ca cb : Nat) (w' : World) (ra : YRow w' ao l) (rb : YRow w' bo m) => refBytes_any ao bo ca cb l m (decide (l = m)) (by simp) (by omega) w' ra rb)
  have HR := hid (fun (w' : World) (h : Below w.heap.size w w') => yb' r h)
  rw [hml] at cB cE
  have HN : Hid (n = (yv l).length) := by show _ = _; rw [yv_length]; exact hn
  have HNL := hid hn
  have hgi : Hid ((yv l)[i]? = some (.int .u8 (yb l i : Int))) := yv_get (by rw [← hn]; exact hin)
  generalize yb l i = yi at *
  rw [← hn] at cA cB cE hl hl1 ⊢
  have one := hid (yv_one l)
  have hd : (((sum l : Nat) : Int) == ((sum m : Nat) : Int)) = decide (l = m) := by
    rw [Bool.eq_iff_iff, beq_iff_eq, decide_eq_true_iff, Int.ofNat_inj]; exact hone
  have h1 : ¬ (4096 : Int) < (n : Int) := by omega
  have h2 : ((n : Int) == 0) = false := by simp; omega
  have h3 : ¬ (n : Int) = 0 := by omega
  have h4 : ¬ n = 0 := by omega
  have HD := hid hd
  clear hd hone hm hml hmb r hb hn hi1
  generalize decide (l = m) = d at *
  generalize sum l = s at *
  generalize sum m = t at *
  go_enter Try.func7, Try.ntmps7
  go_wp2_with (first
    | (go_at_call 11; refine cA.mono ?_; rintro e w1 ⟨rfl, hB1⟩; have HB1 := hid hB1; have HBA := hid (hB1.alloc hB1.size (.cells #[] 5)); have HR1 := hid (HR.out _ HBA.out); have hsz := hB1.size; clear hB1 cA)
    | (at_builtin; refine wpList_copyV _ rfl _ _ 26 rfl w1.heap.size 5 i0 (.int .u8 0) 1 Try.underlying26 hi hz0 hz1 hz2 rfl (by omega) (by omega) w1.heap.size rfl (owns_empty w1 w1.heap.size 5 1 (Nat.le_refl _)) o n c (yv l) rfl HN.out HR1.out one.out (by omega) (by simp) ?_; intro g cap w2 hO hG hlt; have HO2 := hid hO; have HB2 := hid (HBA.out.grown hG (by simp; omega) (fun j ej => by simp at ej; omega)); have cc := (World.ownsRow.cellAt hO i (by omega)).trans hgi.out; have ff := World.ownsRow.frozenAt hO i; have HY := hid (y_owned (l := m) (by have := (World.ownsRow.stored hO i (.int .u8 (x : Int))).1; rw [yv_set, ← HM.out] at this; exact this)); have hgl := (World.ownsRow.lt hO g rfl).1; have HB3 := hid (HB2.out.setCell (p := ⟨g, i, none⟩) (by show _ ≤ g; omega) (.int .u8 (x : Int))); clear hO hG hlt)
    | (go_at_call 11; refine (cB.out _ _ _ HY.out).mono ?_; rintro e w3 ⟨rfl, hB1⟩; have HB4 := hid (below_trans HB3.out hB1); have HY2 := hid (yb' HY.out hB1); have HL2 := hid (HR.out _ HB4.out); clear hB1 cB)
    | (go_at_call 14; refine (cE.out _ _ _ _ _ HL2.out HY2.out).mono ?_; rintro e w4 ⟨rfl, hB1⟩; have HB5 := hid (below_trans HB4.out hB1); clear hB1 cE))
  go_ret
  exact ⟨ret_bool (by rw [HD.out]; simp), HB5.out⟩

theorem walk (o : Option Addr) (c : Nat) (l : List Nat) (hb : ∀ b ∈ l, b < 256) (kk : l.length ≤ c) (m : l.length ≤ 9223372036854775807) (k : Int) (wk : (Lit.int .u16 k).wf = true) (x : Int) (wx : (Lit.int .u8 x).wf = true) (w : World) (r : YRow w o l) :
    Calls Try.prog 7 #[.slice o l.length c, .int .u16 k, .int .u8 x] w fun e w' => e = .returned (.bool true) ∧ Below w.heap.size w w' := by
  obtain ⟨k, hk, rfl⟩ := u16_of wk
  obtain ⟨x, hx, rfl⟩ := u8_of wx
  by_cases h1 : 4096 < l.length
  · exact walk_far o c l.length h1 _ _ w
  · by_cases h2 : l.length = 0
    · have e : l = [] := List.length_eq_zero_iff.1 h2
      subst e
      exact walk_nil o c _ _ w r
    · exact walk_in o c l (by omega) (by omega) hb k x hk hx w r

set_option maxRecDepth 100000 in
theorem lifted (os : Os) (started : os.Started) (H : Type) (enc : TypeId × Value → H) :
    ReturnsInHanded {} Try.checked os 7 .any (Rows.hashOneSpec.pre6 enc Try.prog Try.f7 Rows.hashOneRow.domain false) (Rows.hashOneSpec.post enc Try.prog Try.f7 false true false false) := by
  refine returnsInHanded_of_change (C := Try.checked) own started (by kernel_rfl) Try.func7
    (ChangeSpec.witness6 (enc := enc) (C := Try.checked) false ⟨#[], #[.slice none 0 0, .int .u16 0, .int .u8 0], []⟩ 8 (by kernel_rfl) (by kernel_rfl) (by kernel_rfl) (by kernel_rfl)) ?_
  intro W base args ds gs before hval0 hW hcnd _
  have hval : ∀ (j : Nat) t v, Try.f7.params[j]? = some t → args[j]? = some v → Value.okWide Try.prog W .any base t v := hval0
  have hW' := hW
  obtain ⟨p, q, hA0, hV, rfl, _, _⟩ := hW
  have hA : DataW.TrodAll enc Try.prog W 0 (fun _ => true) true Try.f7.params.toList args.toList ds p := hA0
  rw [Try.params7] at hA hval
  obtain ⟨v0, v1, v2, d0, d1, d2, p0, p1, p2, rfl, rfl, rfl, h0, h1, h2⟩ := trodAll_three hA
  obtain ⟨rfl, rfl⟩ := trodVars_none hV
  have hsl0 := okWide_slice Try.underlying26 (hval 0 26 v0 rfl rfl)
  obtain ⟨a1, rfl, rfl, rfl, w1⟩ := open_int Try.underlying39 (hval 1 39 v1 rfl rfl) h1
  obtain ⟨a2, rfl, rfl, rfl, w2⟩ := open_int Try.underlying5 (hval 2 5 v2 rfl rfl) h2
  clear hA0 hval0
  simp only [List.append_nil] at hW'
  have hlt0 : ∀ x ∈ p0, x.block < W.heap.size := fun x hx => by simpa using hW'.lt x (by simp [hx])
  have harg0 : ∀ (W' : World), Below W.heap.size W W' → DataW.Trod enc Try.prog W' 0 (fun b => decide (b < W.heap.size)) true 26 v0 d0 p0 :=
    fun W' hn => Below.trod laidOut (by kernel_rfl) (of_decide_eq_true (by kernel_rfl)) h0 hn hlt0
  obtain ⟨o0, c0, l0, rfl, r0, b0, k0, m0⟩ := bytes_view Try.underlying26 cells8 Try.underlying5 h0 hsl0
  refine (walk o0 c0 l0 b0 k0 m0 a1 w1 a2 w2 W r0).mono fun e W' ⟨he, hg⟩ => ?_
  subst he
  refine ⟨_, rfl, _, _, _, [], p0 ++ (([] : List MemPlace) ++ (([] : List MemPlace))), [], hW', ?_, ?_, rfl, hg.frame _, fun h => by cases h⟩
  · exact trodAll_mk1 (shut_bool Try.underlying4 true)
  · exact trodAll_mk3 (harg0 _ hg) (shut_int Try.underlying39 w1) (shut_int Try.underlying5 w2)

theorem over : Rows.hashOneRow.holds Try.pinned (OpenSpec.ofChange Rows.hashOneSpec) :=
  OpenClaim.holds_of_wide 7 Try.f7 rfl rfl rfl rfl rfl rfl rfl ⟨rfl, rfl, rfl, rfl, rfl⟩ rfl rfl rfl rfl rfl (by kernel_rfl) Try.func7 (by kernel_rfl)
    (of_decide_eq_true (by kernel_rfl)) (by unfold Func.isWrapper; first | (rw [if_pos (by decide +kernel)]; kernel_rfl) | (rw [if_neg (by decide +kernel)]; exact ⟨rfl, rfl⟩))
    (fun os started H enc _ => lifted os started H enc)

/-- ████ THE STATEMENT ████ -/
theorem proved : Rows.HashOneSaid :=
  over

end Go.Proofs.Ytpmdfiebcaifmaa.hashOne
