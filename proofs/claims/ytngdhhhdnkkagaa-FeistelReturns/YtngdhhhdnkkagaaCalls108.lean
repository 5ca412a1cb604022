/-
  The order: the least number of both; package feistel's way through all numbers.
-/
import Derived.Test.YtngdhhhdnkkagaaCalls105
import Derived.Test.YtngdhhhdnkkagaaCalls4
import Derived.Test.YtngdhhhdnkkagaaNum53
namespace Go.Proofs.Ytngdhhhdnkkagaa.Calls108
set_option linter.unusedVariables false
open Go.ChangeShapes Go.WideShapes Go.ChangeAt Go.RowKit Go.Deep Go.Proofs.Ytngdhhhdnkkagaa.Base Go.Proofs.Ytngdhhhdnkkagaa.Base2 Go.Proofs.Ytngdhhhdnkkagaa.Num16 Go.Proofs.Ytngdhhhdnkkagaa.Num17 Go.Proofs.Ytngdhhhdnkkagaa.Num18 Go.Proofs.Ytngdhhhdnkkagaa.Num34 Go.Proofs.Ytngdhhhdnkkagaa.Num51 Go.Proofs.Ytngdhhhdnkkagaa.Num52 Go.Proofs.Ytngdhhhdnkkagaa.Num53 Go.Proofs.Ytngdhhhdnkkagaa.Base4 Go.Proofs.Ytngdhhhdnkkagaa.Base5 Go.Proofs.Ytngdhhhdnkkagaa.Calls96 Go.Proofs.Ytngdhhhdnkkagaa.Calls103 Go.Proofs.Ytngdhhhdnkkagaa.Calls104 Go.Proofs.Ytngdhhhdnkkagaa.Calls105
open Go.Proofs.Ytngdhhhdnkkagaa.Math (gg gg_abs)
open Go.Proofs.Ytngdhhhdnkkagaa.Calls1 (abs_any)
open Go.Proofs.Ytngdhhhdnkkagaa.Calls2 (extend_any)
open Go.Proofs.Ytngdhhhdnkkagaa.Calls3 (two_yes)

theorem Gcd_d (a b : Int) (w : World) (ha1 : -2147483648 ≤ a) (ha2 : a ≤ 2147483648) (hb1 : -2147483648 ≤ b) (hb2 : b ≤ 2147483648) :
    Calls Try.prog 28 #[.int .i64 a, .int .i64 b] w fun e w' =>
      e = .returned (.tuple #[.int .i64 (gg a b), .int .i64 0]) ∧ Below w.heap.size w w' := by
  have H := gg_abs a b
  rw [← H]; clear H
  go_enter Try.func28, Try.ntmps28
  go_wp2_with (first
    | (go_at_call 33; refine (two_yes a b _ ha1 ha2 hb1 hb2).mono ?_; rintro e w' ⟨rfl, rfl⟩)
    | (go_at_call 35; refine (abs_any _ _ (by omega) (by omega)).mono ?_; rintro e w' ⟨rfl, rfl⟩)
    | (go_at_call 34; refine (extend_any _ _ _ (by omega) (by omega) (by omega) (by omega)).mono ?_; rintro e w' ⟨x, rfl, hx1, hx2, hx3, rfl⟩; clear hx3))
  go_ret2
  exact ⟨rfl, (Below.refl _ _).alloc (Nat.le_refl _) _⟩

theorem gg_rest {o k : Nat} (hk : 1 ≤ k) : gg ((o % k : Nat) : Int) (k : Int) = ((Nat.gcd o k : Nat) : Int) := by
  unfold gg
  rw [Int.gcd_natCast_natCast, Go.Proofs.Ytngdhhhdnkkagaa.Num6.gcd_mod]

theorem lcm_parts {o k : Nat} : o / Nat.gcd o k * k = Nat.lcm o k := by
  unfold Nat.lcm
  exact (Nat.div_mul_right_comm (Nat.gcd_dvd_left o k) k)

theorem both_any (o k : Nat) (ho : 1 ≤ o) (hk : 1 ≤ k) (hk2 : k ≤ 256) (hl : Nat.lcm o k ≤ 2 ^ 58) (w : World) :
    Calls Try.prog 20 #[.int .i64 (o : Int), .int .i64 (k : Int)] w fun e w' => e = .returned (.int .i64 ((Nat.lcm o k : Nat) : Int)) ∧ Below w.heap.size w w' := by
  have hr : o % k < k := Nat.mod_lt _ (by omega)
  have cG := fun w' => Gcd_d ((o % k : Nat) : Int) (k : Int) w' (by omega) (by omega) (by omega) (by omega)
  rw [gg_rest hk] at cG
  have hg : 1 ≤ Nat.gcd o k := Nat.gcd_pos_of_pos_right _ (by omega)
  have hg2 : Nat.gcd o k ≤ k := Nat.gcd_le_right _ (by omega)
  have e := lcm_parts (o := o) (k := k)
  have hor : ((o % k : Nat) : Int) = (o : Int) % (k : Int) := by simp
  rw [hor] at cG
  have hk0 : ¬ (k : Int) = 0 := by omega
  have h58 : (2 : Nat) ^ 58 = 288230376151711744 := by decide
  rw [h58] at hl
  generalize Nat.gcd o k = g at *
  generalize Nat.lcm o k = l at *
  have hg0 : ¬ (g : Int) = 0 := by omega
  have e2 : (o : Int) / (g : Int) * (k : Int) = (l : Int) := by rw [← e]; simp
  have hm1 : 0 ≤ (o : Int) / (g : Int) * (k : Int) := by omega
  have hm2 : (o : Int) / (g : Int) * (k : Int) ≤ 288230376151711744 := by omega
  have HE := hid e2
  have hm3 : 0 ≤ (o : Int) / (g : Int) := Int.ediv_nonneg (by omega) (by omega)
  have hm4 : (o : Int) / (g : Int) ≤ 288230376151711744 := by
    have h1 : (o : Int) / (g : Int) * 1 ≤ (o : Int) / (g : Int) * (k : Int) := Int.mul_le_mul_of_nonneg_left (by omega) hm3
    omega
  clear e e2 hor h58
  go_enter Try.func20, Try.ntmps20
  go_wp2_with (go_at_call 28; refine (cG _).mono ?_; rintro e w1 ⟨rfl, hB⟩)
  go_ret
  exact ⟨ret_int HE.out, hB⟩

/-! ### the array of what was seen -/

theorem infoA : (Try.prog.info? 42).map (fun i => i.zero) = some (some (.agg (Array.replicate 256 (.bool false)))) := by kernel_rfl

theorem infoA_ex : ∃ i, Try.prog.info? 42 = some i ∧ i.zero = some (.agg (Array.replicate 256 (.bool false))) := by
  have h := infoA
  cases e : Try.prog.info? 42 with
  | none => rw [e] at h; simp at h
  | some i => rw [e] at h; simp at h; exact ⟨i, rfl, h⟩

/-- A new variable of a type, its cells under a letter. -/
theorem wpList_allocZ {P : Program} (w : World) {ops : Array Oper} {rest : List Oper} {o : Oper} {a : Act} {Q : Exit → Act → World → Prop}
    (hg : o.guard = none) (t : TypeId) (hop : o.op = Op.alloc t) (i : TypeInfo) (z : Value) (h2 : P.info? t = some i) (h3 : i.zero = some z) (zs : Array Value) (h4 : z.cells = zs)
    (hK : wpList P ops Q rest (a.put o.dst (.pointer (some ⟨w.heap.size, 0, none⟩))) (w.alloc (.cells zs t))) :
    wpList P ops Q (o :: rest) a w := by
  subst h4
  refine wpList_plain hg fun K hK' => ?_
  unfold Oper.wp
  have hrun : (Instr.alloc t true (.tuple #[])).run P w = .ok (.pointer (some ⟨w.heap.size, 0, none⟩)) (w.alloc (.cells z.cells t)) := by
    simp [Instr.alloc, zeroValue, typeInfo, h2, h3, newVar, newRow, newObj, go_sem]
    rfl
  simp [execOp, hop, hrun, Result.andThen]
  exact hK' _ _ hK

/-- Which numbers were seen. -/
def SeenB (W : World) (B : Nat) (g : Nat → Bool) : Prop := ∃ zs, BoxC W B 42 zs ∧ zs.size = 256 ∧ ∀ j, j < 256 → zs[j]? = some (.bool (g j))

theorem SeenB.cell {W : World} {B : Nat} {g : Nat → Bool} (h : SeenB W B g) {j : Nat} (hj : j < 256) : W.cell? ⟨B, j, none⟩ = some (.bool (g j)) := by
  obtain ⟨zs, h1, _, h3⟩ := h
  rw [h1.cell j, h3 j hj]

theorem SeenB.frozen {W : World} {B : Nat} {g : Nat → Bool} (h : SeenB W B g) (j : Nat) : W.frozen? ⟨B, j, none⟩ = false := by
  obtain ⟨zs, h1, _, _⟩ := h
  exact h1.frozen j

theorem SeenB.below {W W' : World} {B n : Nat} {g : Nat → Bool} (h : SeenB W B g) (hb : Below n W W') (hn : B < n) : SeenB W' B g := by
  obtain ⟨zs, h1, h2, h3⟩ := h
  exact ⟨zs, h1.below hb hn, h2, h3⟩

theorem SeenB.lt {W : World} {B : Nat} {g : Nat → Bool} (h : SeenB W B g) : B < W.heap.size := by
  obtain ⟨zs, h1, _, _⟩ := h
  exact h1.lt

theorem SeenB.set {W : World} {B : Nat} {g : Nat → Bool} (h : SeenB W B g) (x : Nat) : SeenB (W.setCell ⟨B, x, none⟩ (.bool true)) B (one g x) := by
  obtain ⟨zs, h1, h2, h3⟩ := h
  refine ⟨_, h1.set x _, by simp [h2], fun j hj => ?_⟩
  unfold one
  by_cases e : j = x
  · subst e
    rw [if_pos rfl]
    simp [h2, hj]
  · rw [if_neg e, Array.getElem?_setIfInBounds_ne (fun e2 => e e2.symm), h3 j hj]

theorem SeenB.new (W : World) : SeenB (W.alloc (.cells (Array.replicate 256 (.bool false)) 42)) W.heap.size (fun _ => false) :=
  ⟨_, BoxC.new W _ _, by simp, fun j hj => by simp [hj]⟩

end Go.Proofs.Ytngdhhhdnkkagaa.Calls108
