/-
  What primes.Is, primes.Phi and primes.Mobius answer, at every number.
-/
import Derived.Test.YtjfgnpgbphdalaaCalls7
import Derived.ProofKit
import Derived.OpenShut
import Derived.WalkSpells
namespace Go.Proofs.Ytjfgnpgbphdalaa.Calls8
set_option linter.unusedVariables false
open Go.RowKit Go.Shelf Go.Proofs.Ytjfgnpgbphdalaa.Num Go.Proofs.Ytjfgnpgbphdalaa.Calls7

attribute [local go_sem] Oper.semAt_some

/-- A block of cells, whole. -/
def BoxC (W : World) (B : Nat) (t : TypeId) (cs : Array Value) : Prop := W.heap[B]? = some (.cells cs t (0, 0))

theorem BoxC.lt {W : World} {B : Nat} {t : TypeId} {cs : Array Value} (h : BoxC W B t cs) : B < W.heap.size := (Array.getElem?_eq_some_iff.1 h).1

theorem BoxC.cell {W : World} {B : Nat} {t : TypeId} {cs : Array Value} (h : BoxC W B t cs) (i : Nat) : W.cell? ⟨B, i, none⟩ = cs[i]? := by simp [World.cell?, show W.heap[B]? = _ from h]

theorem BoxC.kept {W W' : World} {row : Option Nat} {B : Nat} {t : TypeId} {cs : Array Value} (h : BoxC W B t cs) (hg : W.grownBy W' row) (hne : some B ≠ row) : BoxC W' B t cs := (hg.block B h.lt hne).trans h

theorem BoxC.alloc {W : World} {B : Nat} {t : TypeId} {cs : Array Value} (h : BoxC W B t cs) (o : Obj) : BoxC (W.alloc o) B t cs := h.kept (World.grownBy_alloc W o none) (by simp)

theorem BoxC.new (W : World) (t : TypeId) (cs : Array Value) : BoxC (W.alloc (.cells cs t)) W.heap.size t cs := World.alloc_heap_new W _

theorem BoxC.other {W : World} {B B' : Nat} {t : TypeId} {cs : Array Value} (h : BoxC W B t cs) (hne : B ≠ B') (u : Value) : BoxC (W.setCell ⟨B', 0, none⟩ u) B t cs := h.kept (grownBy_setCell' W B' u) (fun e => hne (by cases e; rfl))

theorem boxC_own {β : Type} (B : Nat) (t : TypeId) (f : β → Array Value) : Own (fun s W => BoxC W B t (f s)) := fun s X Y row hs hg hrow =>
  hs.kept hg (fun e' => by obtain ⟨o, ho, hc⟩ := hrow B e'.symm; rw [show X.heap[B]? = _ from hs] at ho; cases ho; cases hc)

theorem below_trans {a b c : World} (h : Below a.heap.size a b) (k : Below b.heap.size b c) : Below a.heap.size a c := h.trans (k.mono h.size)

def phf (c : Nat) (l : List (Nat × Nat)) : Nat := l.foldl (fun c x => c - c / x.1) c

theorem phf_snoc (c : Nat) (l : List (Nat × Nat)) (x : Nat × Nat) : phf c (l ++ [x]) = phf c l - phf c l / x.1 := by simp [phf]

theorem phf_le (c : Nat) (l : List (Nat × Nat)) : phf c l ≤ c := by
  induction l generalizing c with
  | nil => simp [phf]
  | cons x xs ih =>
    have h := ih (c - c / x.1)
    simp only [phf, List.foldl_cons] at h ⊢
    exact Nat.le_trans h (Nat.sub_le _ _)

def mob (l : List (Nat × Nat)) : Int := if l.any (fun x => decide (1 < x.2)) then 0 else if l.length % 2 = 1 then -1 else 1

def sgn (l : List PK) : Int := if l.length % 2 = 1 then -1 else 1

theorem sgn_snoc (l : List PK) (x : PK) : sgn (l ++ [x]) = - sgn l := by
  unfold sgn
  simp only [List.length_append, List.length_cons, List.length_nil]
  split <;> split <;> omega

theorem sgn_two (l : List PK) : sgn l = 1 ∨ sgn l = -1 := by unfold sgn; split <;> simp

theorem mob_zero {l : List (Nat × Nat)} (h : ∃ x ∈ l, 1 < x.2) : mob l = 0 := by
  unfold mob
  rw [if_pos]
  obtain ⟨x, hx, hk⟩ := h
  exact List.any_eq_true.2 ⟨x, hx, by simpa using hk⟩

def Ones (l : List PK) : Prop := ∀ x ∈ l, x.1.2 ≤ 1

theorem mob_sgn {l : List PK} (h : Ones l) : mob (vals l) = sgn l := by
  unfold mob
  rw [if_neg, vals_length]; rfl
  intro he
  obtain ⟨x, hx, hk⟩ := List.any_eq_true.1 he
  obtain ⟨y, hy, rfl⟩ := List.mem_map.1 hx
  have := h y hy
  simp at hk
  omega

end Go.Proofs.Ytjfgnpgbphdalaa.Calls8
