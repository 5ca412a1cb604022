/-
  What package talk's calls answer at all arguments.
-/
import Derived.Test.YtpflkihagebmlabCalls162
import Derived.Test.YtpflkihagebmlabCalls170
import Derived.Test.YtpflkihagebmlabCalls171
namespace Go.Proofs.Ytpflkihagebmlab.Calls175
set_option linter.unusedVariables false
open Go.ChangeShapes Go.WideShapes Go.ChangeAt Go.RowKit Go.Deep Go.Proofs.Ytpflkihagebmlab.Base Go.Proofs.Ytpflkihagebmlab.Base2 Go.Proofs.Ytpflkihagebmlab.Num Go.Proofs.Ytpflkihagebmlab.Num16 Go.Proofs.Ytpflkihagebmlab.Num56 Go.Proofs.Ytpflkihagebmlab.Base4 Go.Proofs.Ytpflkihagebmlab.Calls157 Go.Proofs.Ytpflkihagebmlab.Calls158 Go.Proofs.Ytpflkihagebmlab.Calls160 Go.Proofs.Ytpflkihagebmlab.Calls162 Go.Proofs.Ytpflkihagebmlab.Calls167 Go.Proofs.Ytpflkihagebmlab.Calls169

/-- What is said fits. -/
theorem said_fits {P Q G s k a : Nat} (hG : Gp P Q G) (ha : a < Q) : G ^ k % P = fst P Q G (G ^ s % P) a ((k + a * s) % Q) := by
  have hP := hG.pr.1
  exact (fst_iff hG (hG.mem.pow hG.pr hG.prq s) ha (Nat.mod_lt _ (by omega))).1 (talk_fits hG s k a)

/-- Asked nothing, 1 fits. -/
theorem one_fits {P Q G x : Nat} (hG : Gp P Q G) (hx : Mem P Q x) : 1 = fst P Q G x 0 0 := by
  have hP := hG.pr.1
  have hQ := hG.prq.1
  refine (fst_iff hG hx (by omega) (by omega)).1 ?_
  rw [Nat.pow_zero, Nat.pow_zero, Nat.one_mul, Nat.mod_mod]

theorem Check_any' (P Q G H x f a z : Int) : ∃ b : Bool, ∀ w, Calls Try.prog 10 #[.agg #[.int .i64 P, .int .i64 Q, .int .i64 G, .int .i64 H], .int .i64 x, .agg #[.int .i64 f, .int .i64 a, .int .i64 z]] w fun e w' => e = .returned (.tuple #[.bool b, .int .i64 (aC P Q G H [a, z] [x, f])]) ∧ Below w.heap.size w w' := by
  by_cases h : aC P Q G H [a, z] [x, f] = 0
  · rw [h]
    obtain ⟨p, q, g, k, rfl, rfl, rfl, rfl, hG, h1, h2⟩ := aC_zero h
    obtain ⟨a, rfl, ha⟩ := h1 a (by simp)
    obtain ⟨z, rfl, hz⟩ := h1 z (by simp)
    obtain ⟨x, rfl, hx⟩ := h2 x (by simp)
    obtain ⟨f, rfl, hf⟩ := h2 f (by simp)
    exact ⟨decide (f = fst p q g x a z), fun w => Check_yes p q g k x f a z hG hx hf ha hz _ (by rw [decide_eq_true_iff]) w⟩
  · exact ⟨false, fun w => Check_bad P Q G H x f a z h w⟩

theorem wf16 {u : Int} (wu : (Lit.int .u16 u).wf = true) : ∃ M : Nat, M < 65536 ∧ u = (M : Int) := by
  simp [Lit.wf] at wu
  have m0 : IntKind.u16.min = 0 := by decide
  have m1 : IntKind.u16.max = 65535 := by decide
  exact ⟨u.toNat, by omega, by omega⟩

theorem wf8 {u : Int} (wu : (Lit.int .u8 u).wf = true) : ∃ M : Nat, M < 256 ∧ u = (M : Int) := by
  simp [Lit.wf] at wu
  have m0 : IntKind.u8.min = 0 := by decide
  have m1 : IntKind.u8.max = 255 := by decide
  exact ⟨u.toNat, by omega, by omega⟩

end Go.Proofs.Ytpflkihagebmlab.Calls175
