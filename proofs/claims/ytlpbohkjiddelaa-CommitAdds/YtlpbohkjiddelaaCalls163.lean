/-
  Package commit: what is asked of exponents, one by one; Commit, Other.
-/
import Derived.Test.YtlpbohkjiddelaaCalls160
import Derived.Test.YtlpbohkjiddelaaCalls52
namespace Go.Proofs.Ytlpbohkjiddelaa.Calls163
set_option linter.unusedVariables false
open Go.ChangeShapes Go.WideShapes Go.ChangeAt Go.RowKit Go.Deep Go.Proofs.Ytlpbohkjiddelaa.Base Go.Proofs.Ytlpbohkjiddelaa.Base2 Go.Proofs.Ytlpbohkjiddelaa.Num Go.Proofs.Ytlpbohkjiddelaa.Num13 Go.Proofs.Ytlpbohkjiddelaa.Num16 Go.Proofs.Ytlpbohkjiddelaa.Num17 Go.Proofs.Ytlpbohkjiddelaa.Num32 Go.Proofs.Ytlpbohkjiddelaa.Num34 Go.Proofs.Ytlpbohkjiddelaa.Base4 Go.Proofs.Ytlpbohkjiddelaa.Num56 Go.Proofs.Ytlpbohkjiddelaa.Calls157 Go.Proofs.Ytlpbohkjiddelaa.Calls158 Go.Proofs.Ytlpbohkjiddelaa.Calls160

open Go.Proofs.Ytlpbohkjiddelaa.Calls52 (Log_yes)

/-! ### the questions one by one -/

theorem aC_G (P Q G H : Int) (le : List Int) : aC P Q G H le [G] = aC P Q G H le [] := by
  unfold aC
  by_cases h : gC P Q G H = 0
  · obtain ⟨p, q, g, k, rfl, rfl, rfl, rfl, hG⟩ := gC_zero h
    have e : noM (p : Int) (q : Int) (g : Int) = false := (noM_iff p q _).2 ⟨g, rfl, hG.g.mem⟩
    simp [e]
  · rw [if_neg h, if_neg h]

theorem aC_H (P Q G H : Int) (le : List Int) : aC P Q G H le [H] = aC P Q G H le [] := by
  unfold aC
  by_cases h : gC P Q G H = 0
  · obtain ⟨p, q, g, k, rfl, rfl, rfl, rfl, hG⟩ := gC_zero h
    have e : noM (p : Int) (q : Int) (k : Int) = false := (noM_iff p q _).2 ⟨k, rfl, hG.h.mem⟩
    simp [e]
  · rw [if_neg h, if_neg h]

theorem aC_Gc (P Q G H c : Int) (le : List Int) : aC P Q G H le [G, c] = aC P Q G H le [c] := by
  unfold aC
  by_cases h : gC P Q G H = 0
  · obtain ⟨p, q, g, k, rfl, rfl, rfl, rfl, hG⟩ := gC_zero h
    have e : noM (p : Int) (q : Int) (g : Int) = false := (noM_iff p q _).2 ⟨g, rfl, hG.g.mem⟩
    simp [e]
  · rw [if_neg h, if_neg h]

/-- Where one exponent is wrong, so are more. -/
theorem aC_bad {P Q G H : Int} {le le' : List Int} (lm : List Int) (h : aC P Q G H le [] ≠ 0) (hs : ∀ x ∈ le, x ∈ le') : aC P Q G H le' lm = aC P Q G H le [] := by
  unfold aC at h ⊢
  by_cases h0 : gC P Q G H = 0
  · rw [if_pos h0] at h
    rw [if_pos h0, if_pos h0]
    by_cases h1 : le.any (exB Q) = true
    · obtain ⟨x, hx, e⟩ := List.any_eq_true.1 h1
      rw [if_pos h1, if_pos (List.any_eq_true.2 ⟨x, hs x hx, e⟩)]
    · rw [if_neg h1] at h; simp at h
  · rw [if_neg h0, if_neg h0]

/-- Where none of the first ones is wrong, the others decide. -/
theorem aC_good {P Q G H : Int} {le le' ld : List Int} (lm : List Int) (h : aC P Q G H le [] = 0) (hs : ∀ x, x ∈ ld ↔ x ∈ le ∨ x ∈ le') : aC P Q G H ld lm = aC P Q G H le' lm := by
  obtain ⟨p, q, g, k, rfl, rfl, rfl, rfl, hG, h1, _⟩ := aC_zero h
  have e : ld.any (exB (q : Int)) = le'.any (exB (q : Int)) := by
    rw [Bool.eq_iff_iff, List.any_eq_true, List.any_eq_true]
    constructor
    · rintro ⟨x, hx, e⟩
      rcases (hs x).1 hx with h2 | h2
      · obtain ⟨n, rfl, hn⟩ := h1 x h2
        rw [(exB_iff (q : Int) (n : Int)).2 ⟨by omega, by omega⟩] at e; cases e
      · exact ⟨x, h2, e⟩
    · rintro ⟨x, hx, e⟩
      exact ⟨x, (hs x).2 (.inr hx), e⟩
  unfold aC
  rw [e]

/-! ### arrays of two -/

theorem box_set {W : World} {B : Nat} {t : TypeId} {a b : Value} (h : BoxC W B t #[a, b]) (a' b' : Value) : BoxC ((W.setCell ⟨B, 0, none⟩ a').setCell ⟨B, 1, none⟩ b') B t #[a', b'] := h.set2 a' b'

/-! ### exponent -/

theorem exponent_any (P Q x : Nat) {H : Nat} (hH : Gp P Q H) (hP : P ≤ 1048576) (hx : Mem P Q x) : ∃ k : Nat, (k < Q ∧ H ^ k % P = x) ∧ ∀ w : World,
    Calls Try.prog 21 #[.int .i64 (H : Int), .int .i64 (x : Int), .int .i64 (P : Int)] w fun e w' => e = .returned (.int .i64 (k : Int)) ∧ Below w.heap.size w w' := by
  obtain ⟨i, hi, e⟩ := log_ex hH hx
  obtain ⟨j, hj, hji⟩ := log_of e
  have hx2 := hx.2.1
  have hh2 := hH.lt
  refine ⟨j, ⟨by omega, hj.1⟩, fun w => ?_⟩
  have cL := fun w => Log_yes (H : Int) (x : Int) P j ⟨by omega, by omega⟩ ⟨by omega, by omega⟩ hH.pr hP (by rw [rs_nat, rs_nat, Nat.mod_eq_of_lt hh2, Nat.mod_eq_of_lt hx2]; exact hj) w
  clear hH hx hj hi e hji hP hx2 hh2
  go_enter Try.func21, Try.ntmps21
  go_wp2_with (go_at_call 29; refine (cL _).mono ?_; rintro e w1 ⟨rfl, hB1⟩)
  go_ret
  exact ⟨rfl, hB1⟩

/-- The group's box, and an array of two behind it. -/
def Ga (w wr : World) (P Q G H : Int) (a b : Value) : Prop := Gb w wr P Q G H ∧ BoxC wr (w.heap.size + 1) 38 #[a, b]

theorem Ga.below {w wr w' : World} {P Q G H : Int} {a b : Value} (h : Ga w wr P Q G H a b) (hb : Below wr.heap.size wr w') : Ga w w' P Q G H a b := ⟨h.1.below hb, (hb.block _ h.2.lt).trans h.2⟩

theorem Ga.drew {w wr : World} {P Q G H : Int} {a b : Value} (h : Ga w wr P Q G H a b) : Ga w wr.drew P Q G H a b := ⟨h.1.drew, h.2⟩

theorem Ga.new (w : World) (P Q G H : Int) (a b : Value) : Ga w ((w.alloc (.cells #[.int .i64 P, .int .i64 Q, .int .i64 G, .int .i64 H] 23)).alloc (.cells #[a, b] 38)) P Q G H a b := by
  have h := BoxC.new (w.alloc (.cells #[.int .i64 P, .int .i64 Q, .int .i64 G, .int .i64 H] 23)) 38 #[a, b]
  rw [World.size_alloc] at h
  exact ⟨(Gb.new w P Q G H).alloc _, h⟩

theorem Ga.cells {w wr : World} {P Q G H : Int} {a b : Value} (h : Ga w wr P Q G H a b) : wr.cell? ⟨w.heap.size + 1, 0, none⟩ = some a ∧ wr.cell? ⟨w.heap.size + 1, 1, none⟩ = some b := ⟨by rw [h.2.cell 0]; rfl, by rw [h.2.cell 1]; rfl⟩

theorem Ga.alloc {w wr : World} {P Q G H : Int} {a b : Value} (h : Ga w wr P Q G H a b) (o : Obj) : Ga w (wr.alloc o) P Q G H a b := ⟨h.1.alloc o, h.2.alloc o⟩

theorem Ga.put0 {w wr : World} {P Q G H : Int} {a b : Value} (h : Ga w wr P Q G H a b) (u : Value) : Ga w (wr.setCell ⟨w.heap.size + 1, 0, none⟩ u) P Q G H u b := ⟨Gb.setCell h.1 (by omega) 0 u, by have := h.2.set 0 u; simpa using this⟩

theorem Ga.put1 {w wr : World} {P Q G H : Int} {a b : Value} (h : Ga w wr P Q G H a b) (u : Value) : Ga w (wr.setCell ⟨w.heap.size + 1, 1, none⟩ u) P Q G H a u := ⟨Gb.setCell h.1 (by omega) 1 u, by have := h.2.set 1 u; simpa using this⟩

set_option maxRecDepth 100000 in
set_option maxHeartbeats 2000000 in
theorem Commit_one (P Q G H m r : Int) (h : aC P Q G H [m] [] ≠ 0) (w : World) :
    Calls Try.prog 9 #[.agg #[.int .i64 P, .int .i64 Q, .int .i64 G, .int .i64 H], .int .i64 m, .int .i64 r] w fun e w' => e = .returned (.tuple #[.int .i64 0, .int .i64 (aC P Q G H [m] [])]) ∧ Below w.heap.size w w' := by
  have j0 : ∀ w, (Instr.index 38 (.agg #[.int .i64 G, .int .i64 H]) (.int .i64 0)).run Try.prog w = .ok (.int .i64 G) w := fun _ => by kernel_rfl
  have K := hid (Ga.new w P Q G H (.int .i64 m) (.int .i64 r))
  have cA := fun w => Shared_bad P Q G H m G (by rw [aC_G]; exact h) w
  rw [aC_G] at cA
  generalize aC P Q G H [m] [] = c at *
  have h2 : (c != 0) = true := by simpa using h
  clear h
  go_enter Try.func9, Try.ntmps9
  go_wp2
  go_loopw [9, 22] (fun v i wr => i = .int .i64 0 ∧ Hid (Ga w wr P Q G H (.int .i64 m) (.int .i64 r))) (fun v i wr => ((2 : Int) - intOf i).toNat)
  case atStart => exact ⟨rfl, K⟩
  case round =>
    obtain ⟨rfl, KR⟩ := hrel
    obtain ⟨d0, d1, d2, d3⟩ := KR.out.1.cells
    obtain ⟨x0, x1⟩ := KR.out.cells
    go_wp2
    go_region_held3 (fun w' => w'.cell? ⟨w.heap.size, 0, none⟩ = some (.int .i64 P) ∧ w'.cell? ⟨w.heap.size, 1, none⟩ = some (.int .i64 Q) ∧ w'.cell? ⟨w.heap.size, 2, none⟩ = some (.int .i64 G) ∧ w'.cell? ⟨w.heap.size, 3, none⟩ = some (.int .i64 H) ∧ w'.cell? ⟨w.heap.size + 1, 0, none⟩ = some (.int .i64 m) ∧ w'.cell? ⟨w.heap.size + 1, 1, none⟩ = some (.int .i64 r)) (first | exact ⟨d0, d1, d2, d3, x0, x1⟩)
      (first | (go_at_call 16; refine (cA _).mono ?_; rintro e w2 ⟨rfl, hB2⟩; have KR := hid (show Ga w w2 _ _ _ _ _ _ by first | exact KR.out.below hB2 | exact KR.out.drew.below hB2); obtain ⟨x0, x1⟩ := KR.out.cells; obtain ⟨d0, d1, d2, d3⟩ := KR.out.1.cells; clear hB2))
    all_goals
      go_wp2
      go_ret2
      exact ⟨rfl, KR.out.1.2⟩

set_option maxRecDepth 100000 in
set_option maxHeartbeats 2000000 in
theorem Commit_two (P Q G H m : Nat) (r : Int) (hG : Grp P Q G H) (hm : m < Q) (h : aC (P : Int) (Q : Int) (G : Int) (H : Int) [r] [] ≠ 0) (w : World) :
    Calls Try.prog 9 #[.agg #[.int .i64 (P : Int), .int .i64 (Q : Int), .int .i64 (G : Int), .int .i64 (H : Int)], .int .i64 (m : Int), .int .i64 r] w fun e w' => e = .returned (.tuple #[.int .i64 0, .int .i64 (aC (P : Int) (Q : Int) (G : Int) (H : Int) [r] [])]) ∧ Below w.heap.size w w' := by
  have j0 : ∀ w, (Instr.index 38 (.agg #[.int .i64 (G : Int), .int .i64 (H : Int)]) (.int .i64 0)).run Try.prog w = .ok (.int .i64 (G : Int)) w := fun _ => by kernel_rfl
  have j1 : ∀ w, (Instr.index 38 (.agg #[.int .i64 (G : Int), .int .i64 (H : Int)]) (.int .i64 1)).run Try.prog w = .ok (.int .i64 (H : Int)) w := fun _ => by kernel_rfl
  have K := hid (Ga.new w (P : Int) (Q : Int) (G : Int) (H : Int) (.int .i64 (m : Int)) (.int .i64 r))
  have pb := hG.big
  have p3 := hG.p3
  have cA := fun w => Shared_yes P Q G H m G hG hm hG.g.mem w
  have cB := fun w => Shared_bad (P : Int) (Q : Int) (G : Int) (H : Int) r (H : Int) (by rw [aC_H]; exact h) w
  rw [aC_H] at cB
  have xl : G ^ m % P < P := Nat.mod_lt _ (by omega)
  have n0 : ¬ (P : Int) = 0 := by omega
  have n1 : ¬ P = 0 := by omega
  generalize aC (P : Int) (Q : Int) (G : Int) (H : Int) [r] [] = c at *
  have h2 : (c != 0) = true := by simpa using h
  generalize G ^ m % P = x at *
  have hx1 : IntKind.i64.wrap ((1 : Int) * (x : Int)) = (x : Int) := by rw [Int.one_mul]; exact wrap_in _ (by omega) (by omega)
  have hx2 : IntKind.i64.wrap (x : Int) = (x : Int) := wrap_in _ (by omega) (by omega)
  clear h hG hm
  go_enter Try.func9, Try.ntmps9
  go_wp2
  go_loopw [9, 22] (fun v i wr => ((i = .int .i64 0 ∧ v = .int .i64 1) ∨ (i = .int .i64 1 ∧ ∃ y : Int, v = .int .i64 y)) ∧ Hid (Ga w wr (P : Int) (Q : Int) (G : Int) (H : Int) (.int .i64 (m : Int)) (.int .i64 r))) (fun v i wr => ((2 : Int) - intOf i).toNat)
  case atStart => exact ⟨.inl ⟨rfl, rfl⟩, K⟩
  case round =>
    obtain ⟨hc, KR⟩ := hrel
    obtain ⟨d0, d1, d2, d3⟩ := KR.out.1.cells
    obtain ⟨x0, x1⟩ := KR.out.cells
    rcases hc with ⟨rfl, rfl⟩ | ⟨rfl, y, rfl⟩
    · clear cB
      go_wp2
      go_region_held3 (fun w' => w'.cell? ⟨w.heap.size, 0, none⟩ = some (.int .i64 (P : Int)) ∧ w'.cell? ⟨w.heap.size, 1, none⟩ = some (.int .i64 (Q : Int)) ∧ w'.cell? ⟨w.heap.size, 2, none⟩ = some (.int .i64 (G : Int)) ∧ w'.cell? ⟨w.heap.size, 3, none⟩ = some (.int .i64 (H : Int)) ∧ w'.cell? ⟨w.heap.size + 1, 0, none⟩ = some (.int .i64 (m : Int)) ∧ w'.cell? ⟨w.heap.size + 1, 1, none⟩ = some (.int .i64 r)) (first | exact ⟨d0, d1, d2, d3, x0, x1⟩)
        (first | (go_at_call 16; refine (cA _).mono ?_; rintro e w2 ⟨rfl, hB2⟩; have KR := hid (show Ga w w2 _ _ _ _ _ _ by first | exact KR.out.below hB2 | exact KR.out.drew.below hB2); obtain ⟨x0, x1⟩ := KR.out.cells; obtain ⟨d0, d1, d2, d3⟩ := KR.out.1.cells; clear hB2))
      all_goals
        go_wp2
        go_roundw
        case rel => exact ⟨.inr ⟨rfl, _, rfl⟩, KR⟩
        case measure => simp [intOf]
    · clear cA
      go_wp2
      go_region_held3 (fun w' => w'.cell? ⟨w.heap.size, 0, none⟩ = some (.int .i64 (P : Int)) ∧ w'.cell? ⟨w.heap.size, 1, none⟩ = some (.int .i64 (Q : Int)) ∧ w'.cell? ⟨w.heap.size, 2, none⟩ = some (.int .i64 (G : Int)) ∧ w'.cell? ⟨w.heap.size, 3, none⟩ = some (.int .i64 (H : Int)) ∧ w'.cell? ⟨w.heap.size + 1, 0, none⟩ = some (.int .i64 (m : Int)) ∧ w'.cell? ⟨w.heap.size + 1, 1, none⟩ = some (.int .i64 r)) (first | exact ⟨d0, d1, d2, d3, x0, x1⟩)
        (first | (go_at_call 16; refine (cB _).mono ?_; rintro e w2 ⟨rfl, hB2⟩; have KR := hid (show Ga w w2 _ _ _ _ _ _ by first | exact KR.out.below hB2 | exact KR.out.drew.below hB2); obtain ⟨x0, x1⟩ := KR.out.cells; obtain ⟨d0, d1, d2, d3⟩ := KR.out.1.cells; clear hB2))
      all_goals
        go_wp2
        go_ret2
        exact ⟨rfl, KR.out.1.2⟩

set_option maxRecDepth 100000 in
set_option maxHeartbeats 2000000 in
theorem Commit_yes (P Q G H m r : Nat) (hG : Grp P Q G H) (hm : m < Q) (hr : r < Q) (w : World) :
    Calls Try.prog 9 #[.agg #[.int .i64 (P : Int), .int .i64 (Q : Int), .int .i64 (G : Int), .int .i64 (H : Int)], .int .i64 (m : Int), .int .i64 (r : Int)] w fun e w' => e = .returned (.tuple #[.int .i64 (bd P G H m r : Nat), .int .i64 0]) ∧ Below w.heap.size w w' := by
  have j0 : ∀ w, (Instr.index 38 (.agg #[.int .i64 (G : Int), .int .i64 (H : Int)]) (.int .i64 0)).run Try.prog w = .ok (.int .i64 (G : Int)) w := fun _ => by kernel_rfl
  have j1 : ∀ w, (Instr.index 38 (.agg #[.int .i64 (G : Int), .int .i64 (H : Int)]) (.int .i64 1)).run Try.prog w = .ok (.int .i64 (H : Int)) w := fun _ => by kernel_rfl
  have K := hid (Ga.new w (P : Int) (Q : Int) (G : Int) (H : Int) (.int .i64 (m : Int)) (.int .i64 (r : Int)))
  have pb := hG.big
  have p3 := hG.p3
  have cA := fun w => Shared_yes P Q G H m G hG hm hG.g.mem w
  have cB := fun w => Shared_yes P Q G H r H hG hr hG.h.mem w
  have xl : G ^ m % P < P := Nat.mod_lt _ (by omega)
  have zl : H ^ r % P < P := Nat.mod_lt _ (by omega)
  have n0 : ¬ (P : Int) = 0 := by omega
  have n1 : ¬ P = 0 := by omega
  unfold bd
  generalize G ^ m % P = x at *
  generalize H ^ r % P = z at *
  have hx1 : IntKind.i64.wrap ((1 : Int) * (x : Int)) = (x : Int) := by rw [Int.one_mul]; exact wrap_in _ (by omega) (by omega)
  have hx2 : IntKind.i64.wrap (x : Int) = (x : Int) := wrap_in _ (by omega) (by omega)
  have hx3 : (x : Int).tmod (P : Int) = (x : Int) := by rw [← Int.ofNat_tmod, Nat.mod_eq_of_lt xl]
  have hx4 : (x : Int) % (P : Int) = (x : Int) := Int.emod_eq_of_lt (by omega) (by omega)
  obtain ⟨m1, m2⟩ := mul_bds pb xl zl
  have hz1 : IntKind.i64.wrap ((x : Int) * (z : Int)) = (x : Int) * (z : Int) := wrap_in _ (by omega) (by omega)
  have HE := hid (mul_tmod x z P)
  have hz2 : (x : Int) * (z : Int) % (P : Int) = ((x * z % P : Nat) : Int) := by rw [Int.natCast_emod, Int.natCast_mul]
  have HE2 := hid hz2
  clear hG hm hr hz2
  go_enter Try.func9, Try.ntmps9
  go_wp2
  go_loopw [9, 22] (fun v i wr => ((i = .int .i64 0 ∧ v = .int .i64 1) ∨ (i = .int .i64 1 ∧ v = .int .i64 (x : Int)) ∨ (i = .int .i64 2 ∧ v = .int .i64 (x * z % P : Nat))) ∧ Hid (Ga w wr (P : Int) (Q : Int) (G : Int) (H : Int) (.int .i64 (m : Int)) (.int .i64 (r : Int)))) (fun v i wr => ((2 : Int) - intOf i).toNat)
  case atStart => exact ⟨.inl ⟨rfl, rfl⟩, K⟩
  case round =>
    obtain ⟨hc, KR⟩ := hrel
    obtain ⟨d0, d1, d2, d3⟩ := KR.out.1.cells
    obtain ⟨x0, x1⟩ := KR.out.cells
    rcases hc with ⟨rfl, rfl⟩ | ⟨rfl, rfl⟩ | ⟨rfl, rfl⟩
    · clear cB
      go_wp2
      go_region_held3 (fun w' => w'.cell? ⟨w.heap.size, 0, none⟩ = some (.int .i64 (P : Int)) ∧ w'.cell? ⟨w.heap.size, 1, none⟩ = some (.int .i64 (Q : Int)) ∧ w'.cell? ⟨w.heap.size, 2, none⟩ = some (.int .i64 (G : Int)) ∧ w'.cell? ⟨w.heap.size, 3, none⟩ = some (.int .i64 (H : Int)) ∧ w'.cell? ⟨w.heap.size + 1, 0, none⟩ = some (.int .i64 (m : Int)) ∧ w'.cell? ⟨w.heap.size + 1, 1, none⟩ = some (.int .i64 (r : Int))) (first | exact ⟨d0, d1, d2, d3, x0, x1⟩)
        (first | (go_at_call 16; refine (cA _).mono ?_; rintro e w2 ⟨rfl, hB2⟩; have KR := hid (show Ga w w2 _ _ _ _ _ _ by first | exact KR.out.below hB2 | exact KR.out.drew.below hB2); obtain ⟨x0, x1⟩ := KR.out.cells; obtain ⟨d0, d1, d2, d3⟩ := KR.out.1.cells; clear hB2))
      all_goals
        go_wp2
        go_roundw
        case rel => exact ⟨.inr (.inl ⟨rfl, by first | rfl | rw [hx3] | rw [hx4] | simp [hx3, hx4]⟩), KR⟩
        case measure => simp [intOf]
    · clear cA
      go_wp2
      go_region_held3 (fun w' => w'.cell? ⟨w.heap.size, 0, none⟩ = some (.int .i64 (P : Int)) ∧ w'.cell? ⟨w.heap.size, 1, none⟩ = some (.int .i64 (Q : Int)) ∧ w'.cell? ⟨w.heap.size, 2, none⟩ = some (.int .i64 (G : Int)) ∧ w'.cell? ⟨w.heap.size, 3, none⟩ = some (.int .i64 (H : Int)) ∧ w'.cell? ⟨w.heap.size + 1, 0, none⟩ = some (.int .i64 (m : Int)) ∧ w'.cell? ⟨w.heap.size + 1, 1, none⟩ = some (.int .i64 (r : Int))) (first | exact ⟨d0, d1, d2, d3, x0, x1⟩)
        (first | (go_at_call 16; refine (cB _).mono ?_; rintro e w2 ⟨rfl, hB2⟩; have KR := hid (show Ga w w2 _ _ _ _ _ _ by first | exact KR.out.below hB2 | exact KR.out.drew.below hB2); obtain ⟨x0, x1⟩ := KR.out.cells; obtain ⟨d0, d1, d2, d3⟩ := KR.out.1.cells; clear hB2))
      all_goals
        go_wp2
        go_roundw
        case rel => exact ⟨.inr (.inr ⟨rfl, by first | rw [HE.out] | rw [HE2.out]⟩), KR⟩
        case measure => simp [intOf]
    · clear cA cB
      go_wp2
      go_ret2
      exact ⟨rfl, KR.out.1.2⟩

theorem Commit_bad (P Q G H m r : Int) (h : aC P Q G H [m, r] [] ≠ 0) (w : World) :
    Calls Try.prog 9 #[.agg #[.int .i64 P, .int .i64 Q, .int .i64 G, .int .i64 H], .int .i64 m, .int .i64 r] w fun e w' => e = .returned (.tuple #[.int .i64 0, .int .i64 (aC P Q G H [m, r] [])]) ∧ Below w.heap.size w w' := by
  by_cases h1 : aC P Q G H [m] [] = 0
  · have e : aC P Q G H [m, r] [] = aC P Q G H [r] [] := aC_good [] h1 (by simp)
    rw [e] at h ⊢
    obtain ⟨p, q, g, k, rfl, rfl, rfl, rfl, hG, hx, _⟩ := aC_zero h1
    obtain ⟨a, rfl, ha⟩ := hx m (by simp)
    exact Commit_two p q g k a r hG ha h w
  · rw [aC_bad [] h1 (by simp)]
    exact Commit_one P Q G H m r h1 w

end Go.Proofs.Ytlpbohkjiddelaa.Calls163
