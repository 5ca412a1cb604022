/-
  Package commit: Other, Break.
-/
import Derived.Test.YtlpbohkjiddelaaCalls163
import Derived.Test.YtlpbohkjiddelaaNum68
namespace Go.Proofs.Ytlpbohkjiddelaa.Calls165
set_option linter.unusedVariables false
open Go.ChangeShapes Go.WideShapes Go.ChangeAt Go.RowKit Go.Deep Go.Proofs.Ytlpbohkjiddelaa.Base Go.Proofs.Ytlpbohkjiddelaa.Base2 Go.Proofs.Ytlpbohkjiddelaa.Num Go.Proofs.Ytlpbohkjiddelaa.Num7 Go.Proofs.Ytlpbohkjiddelaa.Num13 Go.Proofs.Ytlpbohkjiddelaa.Num16 Go.Proofs.Ytlpbohkjiddelaa.Base4 Go.Proofs.Ytlpbohkjiddelaa.Num56 Go.Proofs.Ytlpbohkjiddelaa.Num68 Go.Proofs.Ytlpbohkjiddelaa.Calls157 Go.Proofs.Ytlpbohkjiddelaa.Calls158 Go.Proofs.Ytlpbohkjiddelaa.Calls160 Go.Proofs.Ytlpbohkjiddelaa.Calls163
open Go.Proofs.Ytlpbohkjiddelaa.Num3 (gcd_prime)
open Go.Proofs.Ytlpbohkjiddelaa.Math (gg)
open Go.Proofs.Ytlpbohkjiddelaa.Calls51 (Inverse_b)

/-! ### Other -/

set_option maxRecDepth 100000 in
theorem Other_one (P Q G H c m l : Int) (h : aC P Q G H [l] [] ≠ 0) (w : World) :
    Calls Try.prog 12 #[.agg #[.int .i64 P, .int .i64 Q, .int .i64 G, .int .i64 H], .int .i64 c, .int .i64 m, .int .i64 l] w fun e w' => e = .returned (.tuple #[.int .i64 0, .int .i64 (aC P Q G H [l] [])]) ∧ Below w.heap.size w w' := by
  have cA := fun w => Public_bad P Q G H l h w
  have K := hid (Gb.new w P Q G H)
  obtain ⟨c0, c1, c2, c3⟩ := K.out.cells
  generalize aC P Q G H [l] [] = d at *
  have h1 : (d != 0) = true := by simpa using h
  go_enter Try.func12, Try.ntmps12
  go_wp2_with (go_at_call 19; refine (cA _).mono ?_; clear cA; rintro e w1 ⟨rfl, hB1⟩; have K1 := hid (K.out.below hB1); clear hB1)
  go_ret2
  exact ⟨rfl, K1.out.2⟩

set_option maxRecDepth 100000 in
set_option maxHeartbeats 1000000 in
theorem Other_two (P Q G H l : Nat) (c m : Int) (hG : Grp P Q G H) (hl : l < Q) (h : aC (P : Int) (Q : Int) (G : Int) (H : Int) [m] [c] ≠ 0) (w : World) :
    Calls Try.prog 12 #[.agg #[.int .i64 (P : Int), .int .i64 (Q : Int), .int .i64 (G : Int), .int .i64 (H : Int)], .int .i64 c, .int .i64 m, .int .i64 (l : Int)] w fun e w' => e = .returned (.tuple #[.int .i64 0, .int .i64 (aC (P : Int) (Q : Int) (G : Int) (H : Int) [m] [c])]) ∧ Below w.heap.size w w' := by
  have cA := fun w => Public_yes P Q G H l hG hl w
  have cB := fun w => Open_bad (P : Int) (Q : Int) (G : Int) (H : Int) m (G : Int) c (by rw [aC_Gc]; exact h) w
  rw [aC_Gc] at cB
  have K := hid (Gb.new w (P : Int) (Q : Int) (G : Int) (H : Int))
  obtain ⟨c0, c1, c2, c3⟩ := K.out.cells
  generalize aC (P : Int) (Q : Int) (G : Int) (H : Int) [m] [c] = d at *
  have h1 : (d != 0) = true := by simpa using h
  clear hG hl
  generalize G ^ l % P = y at *
  go_enter Try.func12, Try.ntmps12
  go_wp2_with (first
    | (go_at_call 19; refine (cA _).mono ?_; clear cA; rintro e w1 ⟨rfl, hB1⟩; have K1 := hid (K.out.below hB1); obtain ⟨d0, d1, d2, d3⟩ := K1.out.cells; clear hB1)
    | (go_at_call 20; refine (cB _).mono ?_; clear cB; rintro e w2 ⟨rfl, hB2⟩; have K2 := hid (K1.out.below hB2); clear hB2))
  go_ret2
  exact ⟨rfl, K2.out.2⟩

theorem Other_bad (P Q G H c m l : Int) (h : aC P Q G H [m, l] [c] ≠ 0) (w : World) :
    Calls Try.prog 12 #[.agg #[.int .i64 P, .int .i64 Q, .int .i64 G, .int .i64 H], .int .i64 c, .int .i64 m, .int .i64 l] w fun e w' => e = .returned (.tuple #[.int .i64 0, .int .i64 (aC P Q G H [m, l] [c])]) ∧ Below w.heap.size w w' := by
  by_cases h1 : aC P Q G H [l] [] = 0
  · have e : aC P Q G H [m, l] [c] = aC P Q G H [m] [c] := aC_good [c] h1 (fun x => by simp [or_comm])
    rw [e] at h ⊢
    obtain ⟨p, q, g, k, rfl, rfl, rfl, rfl, hG, hx, _⟩ := aC_zero h1
    obtain ⟨a, rfl, ha⟩ := hx l (by simp)
    exact Other_two p q g k a c m hG ha h w
  · rw [aC_bad [c] h1 (by simp)]
    exact Other_one P Q G H c m l h1 w

set_option maxRecDepth 100000 in
set_option maxHeartbeats 1000000 in
theorem Other_arg (P Q G H c m l : Nat) (hG : Grp P Q G H) (hm : m < Q) (hl : l < Q) (hc : Mem P Q c) (hne : G ^ l % P ≠ H) (w : World) :
    Calls Try.prog 12 #[.agg #[.int .i64 (P : Int), .int .i64 (Q : Int), .int .i64 (G : Int), .int .i64 (H : Int)], .int .i64 (c : Int), .int .i64 (m : Int), .int .i64 (l : Int)] w fun e w' => e = .returned (.tuple #[.int .i64 0, .int .i64 3]) ∧ Below w.heap.size w w' := by
  have cA := fun w => Public_yes P Q G H l hG hl w
  have cB := fun w => Open_yes P Q G H m G c hG hm hG.g.mem hc w
  have K := hid (Gb.new w (P : Int) (Q : Int) (G : Int) (H : Int))
  obtain ⟨c0, c1, c2, c3⟩ := K.out.cells
  have h1 : (((G ^ l % P : Nat) : Int) != (H : Int)) = true := bne_iff_ne.2 (fun e => hne (by exact_mod_cast e))
  clear hG hl hm hc hne
  generalize G ^ l % P = y at *
  generalize c * (G ^ (Q - m) % P) % P = z at *
  go_enter Try.func12, Try.ntmps12
  go_wp2_with (first
    | (go_at_call 19; refine (cA _).mono ?_; clear cA; rintro e w1 ⟨rfl, hB1⟩; have K1 := hid (K.out.below hB1); obtain ⟨d0, d1, d2, d3⟩ := K1.out.cells; clear hB1)
    | (go_at_call 20; refine (cB _).mono ?_; clear cB; rintro e w2 ⟨rfl, hB2⟩; have K2 := hid (K1.out.below hB2); obtain ⟨e0, e1, e2, e3⟩ := K2.out.cells; clear hB2))
  go_ret2
  exact ⟨rfl, K2.out.2⟩

set_option maxRecDepth 100000 in
set_option maxHeartbeats 1000000 in
theorem Other_yes (P Q G H c m l : Nat) (hG : Grp P Q G H) (hm : m < Q) (hl : l < Q) (hc : Mem P Q c) (he : G ^ l % P = H) : ∃ k : Nat, (k < Q ∧ bd P G H m k = c) ∧ ∀ w : World,
    Calls Try.prog 12 #[.agg #[.int .i64 (P : Int), .int .i64 (Q : Int), .int .i64 (G : Int), .int .i64 (H : Int)], .int .i64 (c : Int), .int .i64 (m : Int), .int .i64 (l : Int)] w fun e w' => e = .returned (.tuple #[.int .i64 (k : Int), .int .i64 0]) ∧ Below w.heap.size w w' := by
  have hz : Mem P Q (c * (G ^ (Q - m) % P) % P) := hc.mul hG.g.pr hG.g.prq (hG.g.mem.pow hG.g.pr hG.g.prq (Q - m))
  obtain ⟨k, ⟨hk, ek⟩, cE⟩ := exponent_any P Q _ hG.h hG.big hz
  refine ⟨k, ⟨hk, other_bd hG.g hc hm ek⟩, fun w => ?_⟩
  have cA := fun w => Public_yes P Q G H l hG hl w
  rw [he] at cA
  have cB := fun w => Open_yes P Q G H m G c hG hm hG.g.mem hc w
  have K := hid (Gb.new w (P : Int) (Q : Int) (G : Int) (H : Int))
  obtain ⟨c0, c1, c2, c3⟩ := K.out.cells
  have h1 : ((H : Int) != (H : Int)) = false := bne_self_eq_false _
  clear hG hl hm hc he hk ek hz
  generalize c * (G ^ (Q - m) % P) % P = z at *
  go_enter Try.func12, Try.ntmps12
  go_wp2_with (first
    | (go_at_call 19; refine (cA _).mono ?_; clear cA; rintro e w1 ⟨rfl, hB1⟩; have K1 := hid (K.out.below hB1); obtain ⟨d0, d1, d2, d3⟩ := K1.out.cells; clear hB1)
    | (go_at_call 20; refine (cB _).mono ?_; clear cB; rintro e w2 ⟨rfl, hB2⟩; have K2 := hid (K1.out.below hB2); obtain ⟨e0, e1, e2, e3⟩ := K2.out.cells; clear hB2)
    | (go_at_call 21; refine (cE _).mono ?_; clear cE; rintro e w3 ⟨rfl, hB3⟩; have K3 := hid (K2.out.below hB3); clear hB3))
  go_ret2
  exact ⟨rfl, K3.out.2⟩

/-! ### Break -/

theorem two_new (W : World) (a b : Value) : (W.alloc (.cells #[a, b] 38)).cell? ⟨W.heap.size, 0, none⟩ = some a ∧ (W.alloc (.cells #[a, b] 38)).cell? ⟨W.heap.size, 1, none⟩ = some b := by
  have h := BoxC.new W 38 #[a, b]
  exact ⟨by rw [h.cell 0]; rfl, by rw [h.cell 1]; rfl⟩

set_option maxRecDepth 100000 in
set_option maxHeartbeats 2000000 in
theorem Break_one (P Q G H m r n s : Int) (h : aC P Q G H [m, r] [] ≠ 0) (w : World) :
    Calls Try.prog 14 #[.agg #[.int .i64 P, .int .i64 Q, .int .i64 G, .int .i64 H], .int .i64 m, .int .i64 r, .int .i64 n, .int .i64 s] w fun e w' => e = .returned (.tuple #[.int .i64 0, .int .i64 (aC P Q G H [m, r] [])]) ∧ Below w.heap.size w w' := by
  have j0 : ∀ w, (Instr.index 46 (.agg #[.int .i64 m, .int .i64 r, .int .i64 n, .int .i64 s]) (.int .i64 0)).run Try.prog w = .ok (.agg #[.int .i64 m, .int .i64 r]) w := fun _ => by kernel_rfl
  have K := hid (Ga.new w P Q G H (.int .i64 0) (.int .i64 0))
  have cA := fun w => Commit_bad P Q G H m r h w
  generalize aC P Q G H [m, r] [] = c at *
  have h2 : (c != 0) = true := by simpa using h
  clear h
  go_enter Try.func14, Try.ntmps14
  go_wp2
  go_loopw [26] (fun i wr => i = .int .i64 0 ∧ Hid (Ga w wr P Q G H (.int .i64 0) (.int .i64 0))) (fun i wr => ((2 : Int) - intOf i).toNat)
  case atStart => exact ⟨rfl, K⟩
  case round =>
    obtain ⟨rfl, KR⟩ := hrel
    have KA := hid (KR.out.alloc (.cells #[.int .i64 m, .int .i64 r] 38))
    obtain ⟨d0, d1, d2, d3⟩ := KA.out.1.cells
    obtain ⟨x0, x1⟩ := two_new wr (.int .i64 m) (.int .i64 r)
    go_wp2_with (go_at_call 9; refine (cA _).mono ?_; clear cA; rintro e w1 ⟨rfl, hB1⟩; have K1 := hid (KA.out.below hB1); clear hB1)
    go_ret2
    exact ⟨rfl, K1.out.1.2⟩

set_option maxRecDepth 100000 in
set_option maxHeartbeats 2000000 in
theorem Break_two (P Q G H m r : Nat) (n s : Int) (hG : Grp P Q G H) (hm : m < Q) (hr : r < Q) (h : aC (P : Int) (Q : Int) (G : Int) (H : Int) [n, s] [] ≠ 0) (w : World) :
    Calls Try.prog 14 #[.agg #[.int .i64 (P : Int), .int .i64 (Q : Int), .int .i64 (G : Int), .int .i64 (H : Int)], .int .i64 (m : Int), .int .i64 (r : Int), .int .i64 n, .int .i64 s] w fun e w' => e = .returned (.tuple #[.int .i64 0, .int .i64 (aC (P : Int) (Q : Int) (G : Int) (H : Int) [n, s] [])]) ∧ Below w.heap.size w w' := by
  have j0 : ∀ w, (Instr.index 46 (.agg #[.int .i64 (m : Int), .int .i64 (r : Int), .int .i64 n, .int .i64 s]) (.int .i64 0)).run Try.prog w = .ok (.agg #[.int .i64 (m : Int), .int .i64 (r : Int)]) w := fun _ => by kernel_rfl
  have j1 : ∀ w, (Instr.index 46 (.agg #[.int .i64 (m : Int), .int .i64 (r : Int), .int .i64 n, .int .i64 s]) (.int .i64 1)).run Try.prog w = .ok (.agg #[.int .i64 n, .int .i64 s]) w := fun _ => by kernel_rfl
  have K := hid (Ga.new w (P : Int) (Q : Int) (G : Int) (H : Int) (.int .i64 0) (.int .i64 0))
  have cA := fun w => Commit_yes P Q G H m r hG hm hr w
  have cB := fun w => Commit_bad (P : Int) (Q : Int) (G : Int) (H : Int) n s h w
  generalize aC (P : Int) (Q : Int) (G : Int) (H : Int) [n, s] [] = c at *
  have h2 : (c != 0) = true := by simpa using h
  clear h hG hm hr
  generalize bd P G H m r = x at *
  go_enter Try.func14, Try.ntmps14
  go_wp2
  go_loopw [26] (fun i wr => (i = .int .i64 0 ∧ Hid (Ga w wr (P : Int) (Q : Int) (G : Int) (H : Int) (.int .i64 0) (.int .i64 0))) ∨ (i = .int .i64 1 ∧ Hid (Ga w wr (P : Int) (Q : Int) (G : Int) (H : Int) (.int .i64 (x : Int)) (.int .i64 0)))) (fun i wr => ((2 : Int) - intOf i).toNat)
  case atStart => exact .inl ⟨rfl, K⟩
  case round =>
    rcases hrel with ⟨rfl, KR⟩ | ⟨rfl, KR⟩
    · have KA := hid (KR.out.alloc (.cells #[.int .i64 (m : Int), .int .i64 (r : Int)] 38))
      obtain ⟨d0, d1, d2, d3⟩ := KA.out.1.cells
      obtain ⟨x0, x1⟩ := two_new wr (.int .i64 (m : Int)) (.int .i64 (r : Int))
      clear cB
      go_wp2_with (go_at_call 9; refine (cA _).mono ?_; clear cA; rintro e w1 ⟨rfl, hB1⟩; have K1 := hid (KA.out.below hB1); have f0 := K1.out.2.frozen 0; obtain ⟨y0, y1⟩ := K1.out.cells; clear hB1)
      go_roundw
      case rel => exact .inr ⟨rfl, K1.out.put0 _⟩
      case measure => simp [intOf]
    · have KA := hid (KR.out.alloc (.cells #[.int .i64 n, .int .i64 s] 38))
      obtain ⟨d0, d1, d2, d3⟩ := KA.out.1.cells
      obtain ⟨x0, x1⟩ := two_new wr (.int .i64 n) (.int .i64 s)
      clear cA
      go_wp2_with (go_at_call 9; refine (cB _).mono ?_; clear cB; rintro e w1 ⟨rfl, hB1⟩; have K1 := hid (KA.out.below hB1); clear hB1)
      go_ret2
      exact ⟨rfl, K1.out.1.2⟩

theorem Break_bad (P Q G H m r n s : Int) (h : aC P Q G H [m, r, n, s] [] ≠ 0) (w : World) :
    Calls Try.prog 14 #[.agg #[.int .i64 P, .int .i64 Q, .int .i64 G, .int .i64 H], .int .i64 m, .int .i64 r, .int .i64 n, .int .i64 s] w fun e w' => e = .returned (.tuple #[.int .i64 0, .int .i64 (aC P Q G H [m, r, n, s] [])]) ∧ Below w.heap.size w w' := by
  by_cases h1 : aC P Q G H [m, r] [] = 0
  · have e : aC P Q G H [m, r, n, s] [] = aC P Q G H [n, s] [] := aC_good [] h1 (fun x => by simp [or_assoc])
    rw [e] at h ⊢
    obtain ⟨p, q, g, k, rfl, rfl, rfl, rfl, hG, hx, _⟩ := aC_zero h1
    obtain ⟨a, rfl, ha⟩ := hx m (by simp)
    obtain ⟨b, rfl, hb⟩ := hx r (by simp)
    exact Break_two p q g k a b n s hG ha hb h w
  · rw [aC_bad [] h1 (fun x hx => by simp at hx; rcases hx with rfl | rfl <;> simp)]
    exact Break_one P Q G H m r n s h1 w

/-- What Break does behind both commitments, by what the last question answers. -/
theorem i64_eq {a b : Nat} (h : a = b) : ((a : Int) == (b : Int)) = true := by subst h; exact beq_self_eq_true _

theorem i64_ne {a b : Nat} (h : a ≠ b) : ((a : Int) == (b : Int)) = false := beq_eq_false_iff_ne.2 (by omega)

theorem i64_bne {a b : Nat} (h : a ≠ b) : ((a : Int) != (b : Int)) = true := bne_iff_ne.2 (by omega)

set_option maxRecDepth 100000 in
set_option maxHeartbeats 4000000 in
theorem Break_form (P Q G H m r n s : Nat) (hG : Grp P Q G H) (hm : m < Q) (hr : r < Q) (hn : n < Q) (hs : s < Q) (h : (m = n ∧ r = s) ∨ bd P G H m r ≠ bd P G H n s) (w : World) :
    Calls Try.prog 14 #[.agg #[.int .i64 (P : Int), .int .i64 (Q : Int), .int .i64 (G : Int), .int .i64 (H : Int)], .int .i64 (m : Int), .int .i64 (r : Int), .int .i64 (n : Int), .int .i64 (s : Int)] w fun e w' => e = .returned (.tuple #[.int .i64 0, .int .i64 4]) ∧ Below w.heap.size w w' := by
  have j0 : ∀ w, (Instr.index 46 (.agg #[.int .i64 (m : Int), .int .i64 (r : Int), .int .i64 (n : Int), .int .i64 (s : Int)]) (.int .i64 0)).run Try.prog w = .ok (.agg #[.int .i64 (m : Int), .int .i64 (r : Int)]) w := fun _ => by kernel_rfl
  have j1 : ∀ w, (Instr.index 46 (.agg #[.int .i64 (m : Int), .int .i64 (r : Int), .int .i64 (n : Int), .int .i64 (s : Int)]) (.int .i64 1)).run Try.prog w = .ok (.agg #[.int .i64 (n : Int), .int .i64 (s : Int)]) w := fun _ => by kernel_rfl
  have K := hid (Ga.new w (P : Int) (Q : Int) (G : Int) (H : Int) (.int .i64 0) (.int .i64 0))
  have cA := fun w => Commit_yes P Q G H m r hG hm hr w
  have cB := fun w => Commit_yes P Q G H n s hG hn hs w
  clear hG hm hr hn hs
  generalize bd P G H m r = x at *
  generalize bd P G H n s = y at *
  have hh : (((m : Int) == (n : Int)) = true ∧ ((r : Int) == (s : Int)) = true) ∨ (((m : Int) == (n : Int)) = true ∧ ((r : Int) == (s : Int)) = false ∧ ((x : Int) != (y : Int)) = true) ∨ (((m : Int) == (n : Int)) = false ∧ ((x : Int) != (y : Int)) = true) := by
    by_cases e1 : m = n
    · by_cases e2 : r = s
      · exact .inl ⟨i64_eq e1, i64_eq e2⟩
      · exact .inr (.inl ⟨i64_eq e1, i64_ne e2, i64_bne (h.resolve_left fun e => e2 e.2)⟩)
    · exact .inr (.inr ⟨i64_ne e1, i64_bne (h.resolve_left fun e => e1 e.1)⟩)
  clear h
  go_enter Try.func14, Try.ntmps14
  go_wp2
  go_loopw [26] (fun i wr => (i = .int .i64 0 ∧ Hid (Ga w wr (P : Int) (Q : Int) (G : Int) (H : Int) (.int .i64 0) (.int .i64 0))) ∨ (i = .int .i64 1 ∧ Hid (Ga w wr (P : Int) (Q : Int) (G : Int) (H : Int) (.int .i64 (x : Int)) (.int .i64 0))) ∨ (i = .int .i64 2 ∧ Hid (Ga w wr (P : Int) (Q : Int) (G : Int) (H : Int) (.int .i64 (x : Int)) (.int .i64 (y : Int))))) (fun i wr => ((2 : Int) - intOf i).toNat)
  case atStart => exact .inl ⟨rfl, K⟩
  case round =>
    rcases hrel with ⟨rfl, KR⟩ | ⟨rfl, KR⟩ | ⟨rfl, KR⟩
    · have KA := hid (KR.out.alloc (.cells #[.int .i64 (m : Int), .int .i64 (r : Int)] 38))
      obtain ⟨d0, d1, d2, d3⟩ := KA.out.1.cells
      obtain ⟨x0, x1⟩ := two_new wr (.int .i64 (m : Int)) (.int .i64 (r : Int))
      clear cB hh
      go_wp2_with (go_at_call 9; refine (cA _).mono ?_; clear cA; rintro e w1 ⟨rfl, hB1⟩; have K1 := hid (KA.out.below hB1); have f0 := K1.out.2.frozen 0; obtain ⟨y0, y1⟩ := K1.out.cells; clear hB1)
      go_roundw
      case rel => exact .inr (.inl ⟨rfl, K1.out.put0 _⟩)
      case measure => simp [intOf]
    · have KA := hid (KR.out.alloc (.cells #[.int .i64 (n : Int), .int .i64 (s : Int)] 38))
      obtain ⟨d0, d1, d2, d3⟩ := KA.out.1.cells
      obtain ⟨x0, x1⟩ := two_new wr (.int .i64 (n : Int)) (.int .i64 (s : Int))
      clear cA hh
      go_wp2_with (go_at_call 9; refine (cB _).mono ?_; clear cB; rintro e w1 ⟨rfl, hB1⟩; have K1 := hid (KA.out.below hB1); have f0 := K1.out.2.frozen 1; obtain ⟨y0, y1⟩ := K1.out.cells; clear hB1)
      go_roundw
      case rel => exact .inr (.inr ⟨rfl, K1.out.put1 _⟩)
      case measure => simp [intOf]
    · obtain ⟨y0, y1⟩ := KR.out.cells
      clear cA cB
      rcases hh with ⟨e1, e2⟩ | ⟨e1, e2, e3⟩ | ⟨e1, e3⟩
      all_goals
        go_wp2
        go_ret2
        exact ⟨rfl, KR.out.1.2⟩

theorem gg_cop {Q r s : Nat} (hQ : Pr Q) (hr : r < Q) (hs : s < Q) (hne : r ≠ s) : gg ((s : Int) - (r : Int)) (Q : Int) = 1 := by
  have h : Nat.gcd ((s : Int) - (r : Int)).natAbs Q = 1 := (gcd_prime hQ).2 (fun h => by
    have := Nat.le_of_dvd (by omega) h
    omega)
  show ((Nat.gcd ((s : Int) - (r : Int)).natAbs (Q : Int).natAbs : Nat) : Int) = 1
  rw [Int.natAbs_natCast, h]; rfl

set_option maxRecDepth 100000 in
set_option maxHeartbeats 4000000 in
theorem Break_yes (P Q G H m r n s : Nat) (hG : Grp P Q G H) (hm : m < Q) (hr : r < Q) (hn : n < Q) (hs : s < Q) (h : ¬ (m = n ∧ r = s)) (he : bd P G H m r = bd P G H n s) : ∃ b : Nat, (b < Q ∧ G ^ b % P = H) ∧ ∀ w : World,
    Calls Try.prog 14 #[.agg #[.int .i64 (P : Int), .int .i64 (Q : Int), .int .i64 (G : Int), .int .i64 (H : Int)], .int .i64 (m : Int), .int .i64 (r : Int), .int .i64 (n : Int), .int .i64 (s : Int)] w fun e w' => e = .returned (.tuple #[.int .i64 (b : Int), .int .i64 0]) ∧ Below w.heap.size w w' := by
  have hrs : r ≠ s := fun e => by
    subst e
    exact h ⟨same_r hG.g hG.h hm hn he, rfl⟩
  have hmn : m ≠ n := fun e => by
    subst e
    exact hrs (other_uniq hG.g hG.h hr hs he)
  obtain ⟨l, hl, el⟩ := log_ex hG.g hG.h.mem
  have el2 : G ^ l % P = H % P := by rw [el, Nat.mod_eq_of_lt hG.h.lt]
  have hb := (bd_same hG.g el2).1 he
  refine ⟨l, ⟨hl, el⟩, fun w => ?_⟩
  have pb := hG.big
  have ql := hG.qlt
  have q2 := hG.q2
  have j0 : ∀ w, (Instr.index 46 (.agg #[.int .i64 (m : Int), .int .i64 (r : Int), .int .i64 (n : Int), .int .i64 (s : Int)]) (.int .i64 0)).run Try.prog w = .ok (.agg #[.int .i64 (m : Int), .int .i64 (r : Int)]) w := fun _ => by kernel_rfl
  have j1 : ∀ w, (Instr.index 46 (.agg #[.int .i64 (m : Int), .int .i64 (r : Int), .int .i64 (n : Int), .int .i64 (s : Int)]) (.int .i64 1)).run Try.prog w = .ok (.agg #[.int .i64 (n : Int), .int .i64 (s : Int)]) w := fun _ => by kernel_rfl
  have K := hid (Ga.new w (P : Int) (Q : Int) (G : Int) (H : Int) (.int .i64 0) (.int .i64 0))
  have cA := fun w => Commit_yes P Q G H m r hG hm hr w
  have cB := fun w => Commit_yes P Q G H n s hG hn hs w
  rw [← he] at cB
  have cI := fun w => Inverse_b ((s : Int) - (r : Int)) (Q : Int) w (by omega) (by omega) (by omega) (by omega) (gg_cop hG.g.prq hr hs hrs)
  have HL : Hid (∀ x : Int, (Q : Int) ∣ x * ((s : Int) - (r : Int)) - 1 → ((m : Int) - (n : Int) + (Q : Int)) * x % (Q : Int) = (l : Int)) := fun x hx => break_log hl hb hx
  have hw1 : IntKind.i64.wrap ((s : Int) - (r : Int)) = (s : Int) - (r : Int) := wrap_in _ (by omega) (by omega)
  have hw2 : IntKind.i64.wrap ((m : Int) - (n : Int)) = (m : Int) - (n : Int) := wrap_in _ (by omega) (by omega)
  have hw3 : IntKind.i64.wrap ((m : Int) - (n : Int) + (Q : Int)) = (m : Int) - (n : Int) + (Q : Int) := wrap_in _ (by omega) (by omega)
  have n0 : ¬ (Q : Int) = 0 := by omega
  have n1 : ¬ Q = 0 := by omega
  have e1 := i64_ne hmn
  have b1 : 0 ≤ (m : Int) - (n : Int) + (Q : Int) := by omega
  have b2 : (m : Int) - (n : Int) + (Q : Int) ≤ 2097152 := by omega
  have q3 : (Q : Int) ≤ 1048576 := by omega
  clear h he hG hm hr hn hs hrs hmn el el2 hb hl pb ql q2
  generalize bd P G H m r = x at *
  have e3 : ((x : Int) != (x : Int)) = false := bne_self_eq_false _
  go_enter Try.func14, Try.ntmps14
  go_wp2
  go_loopw [26] (fun i wr => (i = .int .i64 0 ∧ Hid (Ga w wr (P : Int) (Q : Int) (G : Int) (H : Int) (.int .i64 0) (.int .i64 0))) ∨ (i = .int .i64 1 ∧ Hid (Ga w wr (P : Int) (Q : Int) (G : Int) (H : Int) (.int .i64 (x : Int)) (.int .i64 0))) ∨ (i = .int .i64 2 ∧ Hid (Ga w wr (P : Int) (Q : Int) (G : Int) (H : Int) (.int .i64 (x : Int)) (.int .i64 (x : Int))))) (fun i wr => ((2 : Int) - intOf i).toNat)
  case atStart => exact .inl ⟨rfl, K⟩
  case round =>
    rcases hrel with ⟨rfl, KR⟩ | ⟨rfl, KR⟩ | ⟨rfl, KR⟩
    · have KA := hid (KR.out.alloc (.cells #[.int .i64 (m : Int), .int .i64 (r : Int)] 38))
      obtain ⟨d0, d1, d2, d3⟩ := KA.out.1.cells
      obtain ⟨x0, x1⟩ := two_new wr (.int .i64 (m : Int)) (.int .i64 (r : Int))
      clear cB cI
      go_wp2_with (go_at_call 9; refine (cA _).mono ?_; clear cA; rintro e w1 ⟨rfl, hB1⟩; have K1 := hid (KA.out.below hB1); have f0 := K1.out.2.frozen 0; obtain ⟨y0, y1⟩ := K1.out.cells; clear hB1)
      go_roundw
      case rel => exact .inr (.inl ⟨rfl, K1.out.put0 _⟩)
      case measure => simp [intOf]
    · have KA := hid (KR.out.alloc (.cells #[.int .i64 (n : Int), .int .i64 (s : Int)] 38))
      obtain ⟨d0, d1, d2, d3⟩ := KA.out.1.cells
      obtain ⟨x0, x1⟩ := two_new wr (.int .i64 (n : Int)) (.int .i64 (s : Int))
      clear cA cI
      go_wp2_with (go_at_call 9; refine (cB _).mono ?_; clear cB; rintro e w1 ⟨rfl, hB1⟩; have K1 := hid (KA.out.below hB1); have f0 := K1.out.2.frozen 1; obtain ⟨y0, y1⟩ := K1.out.cells; clear hB1)
      go_roundw
      case rel => exact .inr (.inr ⟨rfl, K1.out.put1 _⟩)
      case measure => simp [intOf]
    · obtain ⟨y0, y1⟩ := KR.out.cells
      obtain ⟨d0, d1, d2, d3⟩ := KR.out.1.cells
      clear cA cB j0 j1
      go_wp2_with (go_at_call 23; refine (cI _).mono ?_; clear cI; rintro e w1 ⟨u, rfl, hu1, hu2, hu3, hB1⟩; have HU := hid (HL.out u hu3); clear hu3; have K1 := hid (KR.out.below hB1); obtain ⟨t0, t1, t2, t3⟩ := K1.out.1.cells; clear hB1; have ht0 : 0 ≤ ((m : Int) - (n : Int) + (Q : Int)) * u := Int.mul_nonneg b1 hu1; have ht1 : ((m : Int) - (n : Int) + (Q : Int)) * u ≤ 2097152 * 1048576 := Int.mul_le_mul b2 (by omega) hu1 (by omega); have hw4 : IntKind.i64.wrap (((m : Int) - (n : Int) + (Q : Int)) * u) = ((m : Int) - (n : Int) + (Q : Int)) * u := wrap_in _ (by omega) (by omega); have HU2 := hid (show (((m : Int) - (n : Int) + (Q : Int)) * u).tmod (Q : Int) = (l : Int) by rw [Int.tmod_eq_emod_of_nonneg ht0]; exact HU.out))
      go_ret2
      exact ⟨by first | (rw [HU2.out]; rfl) | (rw [HU.out]; rfl), K1.out.1.2⟩

end Go.Proofs.Ytlpbohkjiddelaa.Calls165
