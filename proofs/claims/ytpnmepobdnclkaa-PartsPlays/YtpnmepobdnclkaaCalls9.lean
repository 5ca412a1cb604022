/-
  The document's test for a prime, the statements' tests of a modulus, and the program's answers in their plain form.
-/
import Derived.Test.YtpnmepobdnclkaaCalls8
import Derived.WalkKit
import Derived.ProofKit
import Derived.OpenShut
import Derived.WalkSpells
import Derived.Deep.QuietTactic
import Derived.BigQuiet
namespace Go.Proofs.Ytpnmepobdnclkaa.Calls9
set_option linter.unusedVariables false
open Go.ChangeShapes Go.WideShapes Go.ChangeAt Go.RowKit Go.Proofs.Ytpnmepobdnclkaa.Num Go.Proofs.Ytpnmepobdnclkaa.Calls7 Go.Proofs.Ytpnmepobdnclkaa.Calls8

theorem hid {p : Prop} (h : p) : Hid p := h

theorem ret_int {k : IntKind} {a b : Int} (h : a = b) : Ending.returned (.int k a) = .returned (.int k b) := by rw [h]

theorem ret_bool {a b : Bool} (h : a = b) : Ending.returned (.bool a) = .returned (.bool b) := by rw [h]

/-- Where an argument holds no memory: what lies below the call's own blocks lies as it lay. -/
theorem post_of_kept {H : Type} {enc : TypeId × Value → H} {P : Program} {f : Func} {s : ChangeSpec} {apart fresh handsOn : Bool} {W W' : World} {args : Array Value} {v : Value} {ds gs : List (DataW H)} {before pa pv : List MemPlace}
    (hW : DataW.Whole enc P f.params.toList s.vars apart W args.toList ds gs before)
    (hres : ∀ (b : Nat) (sp : Nat → Bool) (hd : Bool), DataW.TrodAll enc P W' b sp hd f.resultTypes.toList (v.resultList f.resultTypes.size) (s.fn H (ds ++ gs)).results [])
    (hargs : ∀ sp : Nat → Bool, (∀ p ∈ before, sp p.block = true) → DataW.TrodAll enc P W' 0 sp true f.params.toList args.toList (s.fn H (ds ++ gs)).args pa)
    (hvars : ∀ sp : Nat → Bool, (∀ p ∈ before, sp p.block = true) → DataW.TrodVars enc P W' sp s.vars (s.fn H (ds ++ gs)).vars pv)
    (hps : before = pa ++ pv) (hk : W.keptBut W' (· ∈ before)) :
    s.post enc P f apart fresh handsOn false W args v W' := by
  have hold : ∀ p ∈ before, (fun b => decide (b < W.heap.size)) p.block = true := fun p hp => by simpa using hW.lt p hp
  refine ⟨ds, gs, before, [], pa, pv, hW, hres _ _ _, hargs _ hold, hvars _ hold, World.keptBut_mono (fun p hp => ⟨hp, ?_⟩) hk, fun h => by cases h⟩
  rw [hps, List.mem_append] at hp
  exact Or.inr hp

/-- Is it a prime? By counting. -/
def prB (m : Nat) : Bool := decide (2 ≤ m) && (List.range m).all (fun d => decide (d < 2) || !(m % d == 0))

theorem prB_iff (m : Nat) : prB m = true ↔ Pr m := by
  unfold prB
  rw [Bool.and_eq_true, decide_eq_true_eq, List.all_eq_true]
  constructor
  · rintro ⟨h2, h⟩
    refine pr_of_small h2 (fun d hd hdd hdv => ?_)
    have hlt : d < m := by
      have : 2 * d ≤ d * d := Nat.mul_le_mul_right d hd
      omega
    have := h d (List.mem_range.2 hlt)
    simp at this
    rcases this with h | h
    · omega
    · exact h (Nat.mod_eq_zero_of_dvd hdv)
  · intro h
    refine ⟨h.1, fun d hd => ?_⟩
    have hlt := List.mem_range.1 hd
    simp
    by_cases h2 : d < 2
    · exact .inl h2
    · right
      intro h0
      exact not_pr_of_dvd (by omega) hlt (Nat.dvd_of_mod_eq_zero h0) h

theorem prB_eq {b : Bool} {m : Nat} (h : b = true ↔ Pr m) : b = prB m := by
  have h2 := prB_iff m
  cases b <;> cases hh : prB m <;> simp_all

theorem prB_one : prB 1 = false := rfl

theorem Is_yes (m : Nat) (hm1 : 1 ≤ m) (hm2 : m ≤ 1048576) (w : World) :
    Calls Try.prog 68 #[.int .i64 (m : Int)] w fun e w' => e = .returned (.tuple #[.bool (prB m), .int .i64 0]) ∧ Below w.heap.size w w' := by
  refine ((callsIn_wide (n := 3)).1 (Is_in Fence.wide 3 trivial trivial trivial trivial rfl (by omega) m hm1 hm2 w)).mono ?_
  rintro e w' ⟨⟨b, hb, rfl⟩, h⟩
  rw [prB_eq hb]
  exact ⟨rfl, h⟩

theorem Is_no (m : Int) (hm : ¬ (1 ≤ m ∧ m ≤ 1048576)) (w : World) :
    Calls Try.prog 68 #[.int .i64 m] w fun e w' => e = .returned (.tuple #[.bool false, .int .i64 2]) ∧ Below w.heap.size w w' :=
  (callsIn_wide (n := 3)).1 (Is_out Fence.wide 3 trivial trivial rfl (by omega) m hm w)

theorem mod_zero_iff (a b : Nat) : ((a : Int) % (b : Int) == 0) = decide (b ∣ a) := by
  rw [show (a : Int) % (b : Int) = ((a % b : Nat) : Int) by simp]
  by_cases h : b ∣ a
  · rw [decide_eq_true h, Nat.mod_eq_zero_of_dvd h]; rfl
  · rw [decide_eq_false h]
    have : ¬ a % b = 0 := fun h0 => h (Nat.dvd_of_mod_eq_zero h0)
    simp; omega

set_option maxRecDepth 100000 in
theorem refIs_any (m : Nat) (hm2 : m ≤ 1048576) (w : World) :
    Calls Try.prog 22 #[.int .i64 (m : Int)] w fun e w' => e = .returned (.bool (prB m)) ∧ w' = w := by
  by_cases hs : m < 2
  · have e : prB m = false := by
      unfold prB; rw [decide_eq_false (by omega)]; rfl
    rw [e]
    have hs' : (m : Int) < 2 := by omega
    clear hs
    go_enter Try.func22, Try.ntmps22
    go_wp2
    go_ret
    exact ⟨rfl, rfl⟩
  · have hs' : ¬ (m : Int) < 2 := by omega
    go_enter Try.func22, Try.ntmps22
    go_wp2
    go_loop [3] (fun d => ∃ q : Nat, d = .int .i64 (q : Int) ∧ 2 ≤ q ∧ q ≤ 1025 ∧ Hid (∀ x, 2 ≤ x → x < q → ¬ x ∣ m)) (fun d => (1048577 - intOf d).toNat)
    case atStart => exact ⟨2, rfl, by omega, by omega, fun x h1 h2 => by omega⟩
    case round =>
      obtain ⟨q, rfl, hq2, hq3, hno⟩ := hrel
      have hqq : q * q ≤ 1050625 := Nat.mul_le_mul hq3 hq3
      have hqq' : (q : Int) * (q : Int) ≤ 1050625 := by have h := Int.ofNat_le.2 hqq; rw [Int.natCast_mul] at h; omega
      have hqq0 : 0 ≤ (q : Int) * (q : Int) := by exact_mod_cast Nat.zero_le (q * q)
      have hq0 : ¬ (q : Int) = 0 := by omega
      by_cases hgo : q < m ∧ q * q ≤ m
      · obtain ⟨hg1, hg2⟩ := hgo
        have hg1' : (q : Int) < (m : Int) := by omega
        have hg2' : (q : Int) * (q : Int) ≤ (m : Int) := by exact_mod_cast hg2
        have hq4 : q ≤ 1024 := by
          by_cases h : q ≤ 1024
          · exact h
          · have : 1025 * 1025 ≤ q * q := Nat.mul_le_mul (by omega) (by omega)
            omega
        have hmod := mod_zero_iff m q
        by_cases hd : q ∣ m
        · rw [decide_eq_true hd] at hmod
          have e : prB m = false := by
            cases h : prB m
            · rfl
            · exact absurd ((prB_iff m).1 h) (not_pr_of_dvd hq2 hg1 hd)
          clear hd
          go_wp2
          go_ret
          exact ⟨rfl, rfl⟩
        · rw [decide_eq_false hd] at hmod
          have hno2 : Hid (∀ x, 2 ≤ x → x < q + 1 → ¬ x ∣ m) := fun x h1 h2 => by
            by_cases e : x = q
            · subst e; exact hd
            · exact hno.out x h1 (by omega)
          clear hd
          go_wp2
          go_round
          case rel => exact ⟨q + 1, by simp, by omega, by omega, hno2⟩
          case measure => exact meas hq4
      · have e : prB m = true := by
          rw [prB_iff]
          refine pr_of_small (by omega) (fun d h2 hdd hdv => ?_)
          by_cases hlt : d < q
          · exact hno.out d h2 hlt hdv
          · have h3 : q * q ≤ d * d := Nat.mul_le_mul (by omega) (by omega)
            have h4 : d < m := by
              have : 2 * d ≤ d * d := Nat.mul_le_mul_right d h2
              omega
            exact hgo ⟨by omega, by omega⟩
        by_cases hg1 : q < m
        · have hg1' : (q : Int) < (m : Int) := by omega
          have hg2' : ¬ (q : Int) * (q : Int) ≤ (m : Int) := fun h => hgo ⟨hg1, by exact_mod_cast h⟩
          clear hgo
          go_wp2
          go_ret
          exact ⟨rfl, rfl⟩
        · have hg1' : ¬ (q : Int) < (m : Int) := by omega
          clear hgo
          go_wp2
          go_ret
          exact ⟨rfl, rfl⟩

end Go.Proofs.Ytpnmepobdnclkaa.Calls9
