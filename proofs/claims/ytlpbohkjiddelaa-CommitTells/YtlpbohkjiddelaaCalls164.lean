/-
  The document's question over two exponents, two with a member, four; the statements' commitment.
-/
import Derived.Test.YtlpbohkjiddelaaCalls161
namespace Go.Proofs.Ytlpbohkjiddelaa.Calls164
set_option linter.unusedVariables false
open Go.ChangeShapes Go.WideShapes Go.ChangeAt Go.RowKit Go.Deep Go.Proofs.Ytlpbohkjiddelaa.Base Go.Proofs.Ytlpbohkjiddelaa.Base2 Go.Proofs.Ytlpbohkjiddelaa.Num Go.Proofs.Ytlpbohkjiddelaa.Num16 Go.Proofs.Ytlpbohkjiddelaa.Num56 Go.Proofs.Ytlpbohkjiddelaa.Base4 Go.Proofs.Ytlpbohkjiddelaa.Calls157 Go.Proofs.Ytlpbohkjiddelaa.Calls158 Go.Proofs.Ytlpbohkjiddelaa.Calls159 Go.Proofs.Ytlpbohkjiddelaa.Calls160

theorem ak20 (P Q G H a b : Int) (wr : World) (n : Nat) (hn : n = wr.heap.size) :
    Calls Try.prog 10 #[.agg #[.int .i64 P, .int .i64 Q, .int .i64 G, .int .i64 H], .slice (some ⟨n, 0, none⟩) 2 2, .slice none 0 0] (wr.alloc (.cells #[.int .i64 a, .int .i64 b] 2)) fun e w' => e = .returned (.int .i64 (aC P Q G H [a, b] [])) ∧ Below wr.heap.size wr w' := by
  subst hn
  exact (refAsk_any P Q G H _ none 2 0 [a, b] [] (by simp) (by simp) _ (irow_two wr a b) (irow_nil _ _)).mono fun e w' h => ⟨h.1, below_trans (alloc_b wr _) h.2⟩

theorem ak21 (P Q G H a b x : Int) (wr : World) (n : Nat) (hn : n = wr.heap.size) :
    Calls Try.prog 10 #[.agg #[.int .i64 P, .int .i64 Q, .int .i64 G, .int .i64 H], .slice (some ⟨n, 0, none⟩) 2 2, .slice (some ⟨n + 1, 0, none⟩) 1 1] ((wr.alloc (.cells #[.int .i64 a, .int .i64 b] 2)).alloc (.cells #[.int .i64 x] 2)) fun e w' => e = .returned (.int .i64 (aC P Q G H [a, b] [x])) ∧ Below wr.heap.size wr w' := by
  subst hn
  exact (refAsk_any P Q G H _ _ 2 1 [a, b] [x] (by simp) (by simp) _ (ib (irow_two wr a b) (alloc_b _ _)) (irow_one' wr _ x)).mono fun e w' h => ⟨h.1, below_trans (alloc_b2 wr _ _) h.2⟩

theorem ak40 (P Q G H a b c d : Int) (wr : World) (n : Nat) (hn : n = wr.heap.size) :
    Calls Try.prog 10 #[.agg #[.int .i64 P, .int .i64 Q, .int .i64 G, .int .i64 H], .slice (some ⟨n, 0, none⟩) 4 4, .slice none 0 0] (wr.alloc (.cells #[.int .i64 a, .int .i64 b, .int .i64 c, .int .i64 d] 2)) fun e w' => e = .returned (.int .i64 (aC P Q G H [a, b, c, d] [])) ∧ Below wr.heap.size wr w' := by
  subst hn
  exact (refAsk_any P Q G H _ none 4 0 [a, b, c, d] [] (by simp) (by simp) _ (irow_four wr a b c d) (irow_nil _ _)).mono fun e w' h => ⟨h.1, below_trans (alloc_b wr _) h.2⟩

set_option maxRecDepth 100000 in
set_option maxHeartbeats 1000000 in
theorem bound_any (P G H m r : Nat) (Q : Int) (hP1 : 1 ≤ P) (hP : P ≤ 1048576) (hm : m ≤ 2147483648) (hr : r ≤ 2147483648) (w : World) :
    Calls Try.prog 11 #[.agg #[.int .i64 (P : Int), .int .i64 Q, .int .i64 (G : Int), .int .i64 (H : Int)], .int .i64 (m : Int), .int .i64 (r : Int)] w fun e w' => e = .returned (.int .i64 (bd P G H m r : Nat)) ∧ Below w.heap.size w w' := by
  have cA := fun w => refPow_nat G m P hP1 hP hm w
  have cB := fun w => refPow_nat H r P hP1 hP hr w
  obtain ⟨m1, m2⟩ := mul_bds hP (Nat.mod_lt (G ^ m) (show P > 0 by omega)) (Nat.mod_lt (H ^ r) (show P > 0 by omega))
  have HE := hid (mul_tmod (G ^ m % P) (H ^ r % P) P)
  have n0 : ¬ (P : Int) = 0 := by omega
  have n1 : ¬ P = 0 := by omega
  have w1' : IntKind.i64.wrap (((G ^ m % P : Nat) : Int) * ((H ^ r % P : Nat) : Int)) = ((G ^ m % P : Nat) : Int) * ((H ^ r % P : Nat) : Int) := wrap_in _ (by omega) (by omega)
  have K := hid (Gb.new w (P : Int) Q (G : Int) (H : Int))
  obtain ⟨c0, c1, c2, c3⟩ := K.out.cells
  unfold bd
  generalize G ^ m % P = y at *
  generalize H ^ r % P = z at *
  go_enter Try.func11, Try.ntmps11
  go_wp2
  go_region_held3 (fun w' => w'.cell? ⟨w.heap.size, 0, none⟩ = some (.int .i64 (P : Int)) ∧ w'.cell? ⟨w.heap.size, 1, none⟩ = some (.int .i64 Q) ∧ w'.cell? ⟨w.heap.size, 2, none⟩ = some (.int .i64 (G : Int)) ∧ w'.cell? ⟨w.heap.size, 3, none⟩ = some (.int .i64 (H : Int))) (first | exact ⟨c0, c1, c2, c3⟩)
    (first | (go_at_call 13; (first | (with_reducible refine (cA _).mono ?_) | (with_reducible refine (cB _).mono ?_)); rintro e w2 ⟨rfl, hw⟩; subst w2; have K := hid (show Gb w _ _ _ _ _ by first | exact K.out | exact K.out.drew); obtain ⟨c0, c1, c2, c3⟩ := K.out.cells))
  all_goals
    go_wp2
    go_ret
    exact ⟨ret_int HE.out, by first | exact K.out.2 | exact K.out.drew.2⟩

end Go.Proofs.Ytlpbohkjiddelaa.Calls164
