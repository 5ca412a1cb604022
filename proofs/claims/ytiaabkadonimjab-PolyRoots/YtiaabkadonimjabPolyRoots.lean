/-
  LAGRANGE: for any polynomial that has numbers: it is 0 at no more places than its degree: with no condition.
-/
import Derived.Test.YtiaabkadonimjabRows
import Derived.Test.YtiaabkadonimjabCalls67
import Derived.Test.YtiaabkadonimjabCalls68
import Derived.WalkKit
import Derived.ProofKit
import Derived.OpenShut
import Derived.Carry
namespace Go.Proofs.Ytiaabkadonimjab.polyRoots
open Go.ChangeShapes Go.WideShapes Go.ChangeAt Go.RowKit Go.Deep Go.Proofs.Ytiaabkadonimjab.Base Go.Proofs.Ytiaabkadonimjab.Base2 Go.Proofs.Ytiaabkadonimjab.Num Go.Proofs.Ytiaabkadonimjab.Num7 Go.Proofs.Ytiaabkadonimjab.Num13 Go.Proofs.Ytiaabkadonimjab.Num16 Go.Proofs.Ytiaabkadonimjab.Num17 Go.Proofs.Ytiaabkadonimjab.Num34 Go.Proofs.Ytiaabkadonimjab.Num35 Go.Proofs.Ytiaabkadonimjab.Base4 Go.Proofs.Ytiaabkadonimjab.Calls56 Go.Proofs.Ytiaabkadonimjab.Calls57 Go.Proofs.Ytiaabkadonimjab.Calls62 Go.Proofs.Ytiaabkadonimjab.Calls67 Go.Proofs.Ytiaabkadonimjab.Calls68
set_option linter.unusedVariables false

theorem own : ownKnob Try.prog.godebug = none := by kernel_rfl

theorem laidOut : laidOutB Try.prog = true := by kernel_rfl

theorem cells2 : Try.prog.cellsOf 2 = 1 := by kernel_rfl

/-- The places so far at which it is 0. -/
def rl (P : Nat) (a : List Int) : Nat → List Int
  | 0 => []
  | k + 1 => if rs (ev a (k : Int)) P = 0 then rl P a k ++ [(k : Int)] else rl P a k

theorem rl_mem {P : Nat} {a : List Int} {x : Int} : ∀ {k : Nat}, x ∈ rl P a k → ∃ t : Nat, t < k ∧ x = (t : Int) ∧ rs (ev a x) P = 0
  | 0, h => by simp [rl] at h
  | k + 1, h => by
    by_cases h0 : rs (ev a (k : Int)) P = 0
    · rw [rl, if_pos h0, List.mem_append] at h
      rcases h with h | h
      · obtain ⟨t, h1, h2, h3⟩ := rl_mem h
        exact ⟨t, by omega, h2, h3⟩
      · obtain rfl : x = (k : Int) := by simpa using h
        exact ⟨k, by omega, rfl, h0⟩
    · rw [rl, if_neg h0] at h
      obtain ⟨t, h1, h2, h3⟩ := rl_mem h
      exact ⟨t, by omega, h2, h3⟩

theorem rl_len {P : Nat} {a : List Int} : ∀ k : Nat, (rl P a k).length ≤ k
  | 0 => by simp [rl]
  | k + 1 => by
    have := rl_len (P := P) (a := a) k
    rw [rl]; split
    · simp; omega
    · omega

theorem rl_pair {P : Nat} {a : List Int} : ∀ k : Nat, k ≤ P → (rl P a k).Pairwise (fun x y => ¬ (P : Int) ∣ x - y)
  | 0, _ => by simp [rl]
  | k + 1, hk => by
    have ih := rl_pair (P := P) (a := a) k (by omega)
    rw [rl]; split
    · rw [List.pairwise_append]
      refine ⟨ih, by simp, fun x hx y hy => ?_⟩
      obtain rfl : y = (k : Int) := by simpa using hy
      obtain ⟨t, h1, rfl, _⟩ := rl_mem hx
      intro hd
      have := small_of hd ⟨by omega, by omega⟩ ⟨by omega, by omega⟩
      omega
    · exact ih

theorem rl_few {P : Nat} (hP : Pr P) {a : List Int} (ha : Cn P a) (na : a ≠ []) : (rl P a P).length ≤ a.length - 1 :=
  few_roots hP ha na (rl_pair P (Nat.le_refl _)) (fun x hx => by
    obtain ⟨t, _, _, h⟩ := rl_mem hx
    have h1 := rs_cong (p := P) (by have := hP.1; omega) (ev a x)
    rw [h] at h1
    have := cong_sy h1
    simpa using this)

theorem rl_all {P : Nat} (hp : 1 ≤ P) : ∀ k : Nat, (rl P [] k).length = k
  | 0 => by simp [rl]
  | k + 1 => by
    rw [rl, if_pos (by show rs 0 P = 0; exact rs_zero hp (Int.dvd_zero _))]
    simp [rl_all hp k]

theorem al {w W : World} (h : Below w.heap.size w W) (o : Obj) : Below w.heap.size w (W.alloc o) := h.alloc h.size o

set_option maxRecDepth 100000 in
theorem walk_yes (P : Nat) (hP : Pr P) (hP2 : P ≤ 251) (ao : Option Addr) (ca : Nat) (a : List Int) (ha : a.length ≤ 13) (hca : Cn P a) (w : World) (ra : IRow w ao a) :
    Calls Try.prog 6 #[.int .i64 (P : Int), .slice ao a.length ca] w fun e w' => e = .returned (.bool true) ∧ Below w.heap.size w w' := by
  have hp1 : 1 ≤ P := by have := hP.1; omega
  have cS := sound1 (P : Int) ao ca a (by omega) 0 (PC.of hP hP2 ha hca) true (by simp) w ra
  have cA := fun (k : Nat) (hk : k ≤ 251) w' (hB : Below w.heap.size w w') => At_yes P hP hP2 ao ca a ha hca (k : Int) ⟨by omega, by omega⟩ w' (irow_below ra hB (Nat.le_refl _))
  have HF : Hid (a ≠ [] → (rl P a P).length ≤ a.length - 1) := fun h => rl_few hP hca h
  have HN : Hid (a = [] → (rl P a P).length = P) := fun h => by rw [h]; exact rl_all hp1 P
  have HAB := hid (al (Below.refl _ w) (.cells #[.slice ao a.length ca] 23))
  have HE : Hid (a.length = 0 → a = []) := fun h => List.length_eq_zero_iff.1 h
  have HE2 : Hid (a = [] → a.length = 0) := fun h => by rw [h]; rfl
  obtain ⟨na, hna⟩ : ∃ na, na = a.length := ⟨_, rfl⟩
  simp only [← hna] at *
  clear ra hca hna
  go_enter Try.func6, Try.ntmps6
  go_wp2_with (go_at_call 14; refine cS.mono ?_; rintro e w2 ⟨rfl, hw⟩; subst w2)
  go_loopw [5, 6] (fun r i wr => ∃ (k n : Nat), r = .int .i64 (n : Int) ∧ i = .int .i64 (k : Int) ∧ k ≤ P ∧ n ≤ k ∧ Hid (n = (rl P a k).length) ∧ Hid (Below w.heap.size w wr)) (fun r i wr => ((P : Int) - intOf i).toNat)
  case atStart => exact ⟨0, 0, rfl, rfl, by omega, by omega, rfl, HAB⟩
  case round =>
    obtain ⟨k, n, rfl, rfl, hk, hn, hR, hB⟩ := hrel
    by_cases hgo : k < P
    · have hgo' : (k : Int) < (P : Int) := by omega
      have cA1 := cA k (by omega) wr hB.out
      by_cases h0 : rs (ev a (k : Int)) P = 0
      · have hR2 : Hid (n + 1 = (rl P a (k + 1)).length) := by show _ = _; rw [rl, if_pos h0, List.length_append, ← hR.out]; rfl
        rw [h0] at cA1
        clear h0 cA
        go_wp2_with (go_at_call 19; refine cA1.mono ?_; rintro e w2 ⟨rfl, hB2⟩)
        go_roundw
        case rel => exact ⟨k + 1, n + 1, by simp, by simp, by omega, by omega, hR2, below_trans hB.out hB2⟩
        case measure => exact measK hgo
      · have hR2 : Hid (n = (rl P a (k + 1)).length) := by show _ = _; rw [rl, if_neg h0]; exact hR.out
        generalize rs (ev a (k : Int)) P = y at *
        have h0' : ((y : Int) == 0) = false := by simp; omega
        clear h0 cA
        go_wp2_with (go_at_call 19; refine cA1.mono ?_; rintro e w2 ⟨rfl, hB2⟩)
        go_roundw
        case rel => exact ⟨k + 1, n, rfl, by simp, by omega, by omega, hR2, below_trans hB.out hB2⟩
        case measure => exact measK hgo
    · have hgo' : decide ((k : Int) < (P : Int)) = false := by simp; omega
      obtain rfl : k = P := by omega
      clear cA cS
      rcases Nat.eq_zero_or_pos na with hz | hz
      · have h1 := HN.out (HE.out hz)
        have h2 : ((na : Int) == 0) = true := by simp; omega
        have h3 : ((n : Int) == (k : Int)) = true := by have := hR.out; simp; omega
        clear h1 hz
        go_wp2
        go_ret
        exact ⟨rfl, hB.out⟩
      · have h1 := HF.out (fun e => by have := HE2.out e; omega)
        have h2 : ((na : Int) == 0) = false := by simp; omega
        have h3 : decide ((n : Int) ≤ (na : Int) - 1) = true := by have := hR.out; simp; omega
        clear h1
        go_wp2
        go_ret
        exact ⟨rfl, hB.out⟩

theorem walk (p : Int) (ao : Option Addr) (ca : Nat) (a : List Int) (ka : a.length ≤ ca) (ma : a.length ≤ 9223372036854775807) (w : World) (ra : IRow w ao a) :
    Calls Try.prog 6 #[.int .i64 p, .slice ao a.length ca] w fun e w' => e = .returned (.bool true) ∧ Below w.heap.size w w' := by
  obtain ⟨c, hc⟩ := pc_ex p a
  by_cases h0 : c = 0
  · subst h0
    obtain ⟨P, rfl, hP, hP2, ha, hca⟩ := hc.ok
    exact walk_yes P hP hP2 ao ca a ha hca w ra
  · have cS := sound1 p ao ca a ma c hc false (by simp [h0]) w ra
    have HAB := hid (al (Below.refl _ w) (.cells #[.slice ao a.length ca] 23))
    have cC := Check_any p ao ca a ma c hc _ (irow_below ra HAB.out (Nat.le_refl _))
    generalize a.length = na at *
    have h1 : (c != 0) = true := by simpa using h0
    have h2 : (c == 0) = false := by simpa using h0
    clear hc ra
    go_enter Try.func6, Try.ntmps6
    go_wp2_with (first
      | (go_at_call 14; refine cS.mono ?_; rintro e w2 ⟨rfl, hw⟩; subst w2)
      | (go_at_call 18; refine cC.mono ?_; rintro e w2 ⟨rfl, hB2⟩))
    go_ret
    exact ⟨rfl, below_trans HAB.out hB2⟩

set_option maxRecDepth 100000 in
theorem lifted (os : Os) (started : os.Started) (H : Type) (enc : TypeId × Value → H) :
    ReturnsInHanded {} Try.checked os 6 .any (Rows.polyRootsSpec.pre6 enc Try.prog Try.f6 Rows.polyRootsRow.domain false) (Rows.polyRootsSpec.post enc Try.prog Try.f6 false true false false) := by
  refine returnsInHanded_of_change (C := Try.checked) own started (by kernel_rfl) Try.func6
    (ChangeSpec.witness6 (enc := enc) (C := Try.checked) false ⟨#[], #[.int .i64 0, .slice none 0 0], []⟩ 8 (by kernel_rfl) (by kernel_rfl) (by kernel_rfl) (by kernel_rfl)) ?_
  intro W base args ds gs before hval0 hW hcnd _
  have hval : ∀ (j : Nat) t v, Try.f6.params[j]? = some t → args[j]? = some v → Value.okWide Try.prog W .any base t v := hval0
  have hW' := hW
  obtain ⟨p, q, hA0, hV, rfl, _, _⟩ := hW
  have hA : DataW.TrodAll enc Try.prog W 0 (fun _ => true) true Try.f6.params.toList args.toList ds p := hA0
  rw [Try.params6] at hA hval
  obtain ⟨v0, v1, d0, d1, p0, p1, rfl, rfl, rfl, h0, h1⟩ := trodAll_two hA
  obtain ⟨rfl, rfl⟩ := trodVars_none hV
  obtain ⟨a0, rfl, rfl, rfl, w0⟩ := open_int Try.underlying2 (hval 0 2 v0 rfl rfl) h0
  have hsl1 := okWide_slice Try.underlying23 (hval 1 23 v1 rfl rfl)
  clear hA0 hval0
  simp only [List.append_nil, List.nil_append] at hW'
  have hlt1 : ∀ x ∈ p1, x.block < W.heap.size := fun x hx => by simpa using hW'.lt x (by simp [hx])
  have harg1 : ∀ (W' : World), Below W.heap.size W W' → DataW.Trod enc Try.prog W' 0 (fun b => decide (b < W.heap.size)) true 23 v1 d1 p1 :=
    fun W' hn => Below.trod laidOut (by kernel_rfl) (of_decide_eq_true (by kernel_rfl)) h1 hn hlt1
  obtain ⟨o1, c1, l1, rfl, r1, k1, m1⟩ := longs_view Try.underlying23 cells2 Try.underlying2 h1 hsl1
  refine (walk a0 o1 c1 l1 k1 m1 W r1).mono fun e W' ⟨he, hg⟩ => ?_
  subst he
  refine ⟨_, rfl, _, _, _, [], ([] : List MemPlace) ++ (p1), [], hW', ?_, ?_, rfl, hg.frame _, fun h => by cases h⟩
  · exact trodAll_mk1 (shut_bool Try.underlying4 true)
  · exact trodAll_mk2 (shut_int Try.underlying2 w0) (harg1 _ hg)

theorem over : Rows.polyRootsRow.holds Try.pinned (OpenSpec.ofChange Rows.polyRootsSpec) :=
  OpenClaim.holds_of_wide 6 Try.f6 rfl rfl rfl rfl rfl rfl rfl ⟨rfl, rfl, rfl, rfl, rfl⟩ rfl rfl rfl rfl rfl (by kernel_rfl) Try.func6 (by kernel_rfl)
    (of_decide_eq_true (by kernel_rfl)) (by unfold Func.isWrapper; first | (rw [if_pos (by decide +kernel)]; kernel_rfl) | (rw [if_neg (by decide +kernel)]; exact ⟨rfl, rfl⟩))
    (fun os started H enc _ => lifted os started H enc)

/-- ████ THE STATEMENT ████ -/
theorem proved : Rows.PolyRootsSaid :=
  over

end Go.Proofs.Ytiaabkadonimjab.polyRoots
