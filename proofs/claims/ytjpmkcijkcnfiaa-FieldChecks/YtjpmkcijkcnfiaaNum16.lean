/-
  Plain arithmetic, without the model: polynomials as lists of numbers, sums and products, and what is left of them by a prime.
-/
import Derived.Test.YtjpmkcijkcnfiaaNum7
namespace Go.Proofs.Ytjpmkcijkcnfiaa.Num16
set_option linter.unusedVariables false
open Go.Proofs.Ytjpmkcijkcnfiaa.Num Go.Proofs.Ytjpmkcijkcnfiaa.Num7

/-- What stands at a place; 0 beyond. -/
def co (l : List Int) (i : Nat) : Int := l.getD i 0

theorem co_nil (i : Nat) : co [] i = 0 := by simp [co]
theorem co_zero (x : Int) (l : List Int) : co (x :: l) 0 = x := by simp [co]
theorem co_succ (x : Int) (l : List Int) (i : Nat) : co (x :: l) (i + 1) = co l i := by simp [co]
theorem co_over {l : List Int} {i : Nat} (h : l.length ≤ i) : co l i = 0 := by simp [co, List.getD, h]
theorem co_mem {l : List Int} {i : Nat} (h : i < l.length) : co l i ∈ l := by simp [co, List.getD, h]

/-- The same at all places. -/
def Eqv (a b : List Int) : Prop := ∀ i, co a i = co b i

theorem Eqv.refl (a : List Int) : Eqv a a := fun _ => rfl
theorem Eqv.symm {a b : List Int} (h : Eqv a b) : Eqv b a := fun i => (h i).symm
theorem Eqv.trans {a b c : List Int} (h : Eqv a b) (k : Eqv b c) : Eqv a c := fun i => (h i).trans (k i)

theorem eqv_cons {x y : Int} {a b : List Int} (h : x = y) (k : Eqv a b) : Eqv (x :: a) (y :: b)
  | 0 => by rw [co_zero, co_zero]; exact h
  | i + 1 => by rw [co_succ, co_succ]; exact k i

theorem eqv_tail {x y : Int} {a b : List Int} (k : Eqv (x :: a) (y :: b)) : x = y ∧ Eqv a b :=
  ⟨by have := k 0; rwa [co_zero, co_zero] at this, fun i => by have := k (i + 1); rwa [co_succ, co_succ] at this⟩

theorem eqv_nil_cons {x : Int} {a : List Int} : Eqv [] (x :: a) ↔ x = 0 ∧ Eqv [] a := by
  constructor
  · intro h
    refine ⟨?_, fun i => ?_⟩
    · have := h 0; rw [co_nil, co_zero] at this; exact this.symm
    · have := h (i + 1); rw [co_nil, co_succ] at this; rw [co_nil]; exact this
  · rintro ⟨rfl, h⟩ i
    match i with
    | 0 => rw [co_nil, co_zero]
    | i + 1 => rw [co_nil, co_succ, ← h i, co_nil]

def padd : List Int → List Int → List Int
  | [], b => b
  | a, [] => a
  | x :: a, y :: b => (x + y) :: padd a b

theorem padd_nil (a : List Int) : padd a [] = a := by cases a <;> rfl

theorem co_padd : ∀ (a b : List Int) (i : Nat), co (padd a b) i = co a i + co b i
  | [], b, i => by simp [padd, co_nil]
  | x :: a, [], i => by simp [padd, co_nil]
  | x :: a, y :: b, 0 => by simp [padd, co_zero]
  | x :: a, y :: b, i + 1 => by simp only [padd, co_succ]; exact co_padd a b i

theorem padd_length : ∀ a b : List Int, (padd a b).length = max a.length b.length
  | [], b => by simp [padd]
  | x :: a, [] => by simp [padd]
  | x :: a, y :: b => by simp [padd, padd_length a b]

def psc (k : Int) (a : List Int) : List Int := a.map (k * ·)

theorem co_psc (k : Int) (a : List Int) (i : Nat) : co (psc k a) i = k * co a i := by
  simp only [co, psc, List.getD, List.getElem?_map]
  cases a[i]? <;> simp

def pneg (a : List Int) : List Int := psc (-1) a

theorem co_pneg (a : List Int) (i : Nat) : co (pneg a) i = -co a i := by
  unfold pneg; rw [co_psc]; omega

def pmul : List Int → List Int → List Int
  | [], _ => []
  | x :: a, b => padd (psc x b) (0 :: pmul a b)

theorem padd_eqv {a a' b b' : List Int} (h : Eqv a a') (k : Eqv b b') : Eqv (padd a b) (padd a' b') := fun i => by rw [co_padd, co_padd, h i, k i]
theorem psc_eqv {k : Int} {a a' : List Int} (h : Eqv a a') : Eqv (psc k a) (psc k a') := fun i => by rw [co_psc, co_psc, h i]
theorem sh_eqv {a a' : List Int} (h : Eqv a a') : Eqv (0 :: a) (0 :: a') := eqv_cons rfl h

theorem padd_comm (a b : List Int) : Eqv (padd a b) (padd b a) := fun i => by rw [co_padd, co_padd]; omega
theorem padd_assoc (a b c : List Int) : Eqv (padd (padd a b) c) (padd a (padd b c)) := fun i => by simp only [co_padd]; omega
theorem padd_swap (a b c d : List Int) : Eqv (padd (padd a b) (padd c d)) (padd (padd a c) (padd b d)) := fun i => by simp only [co_padd]; omega

theorem sh_padd (a b : List Int) : Eqv (0 :: padd a b) (padd (0 :: a) (0 :: b)) := fun i => by
  match i with
  | 0 => simp [co_padd, co_zero]
  | i + 1 => simp only [co_padd, co_succ]

theorem sh_psc (k : Int) (a : List Int) : Eqv (0 :: psc k a) (psc k (0 :: a)) := fun i => by
  match i with
  | 0 => simp [co_psc, co_zero]
  | i + 1 => simp only [co_psc, co_succ]

theorem zero_psc (b : List Int) : Eqv (psc 0 b) [] := fun i => by rw [co_psc, co_nil]; omega

theorem sh_nil : Eqv [0] [] := fun i => by
  match i with
  | 0 => rfl
  | i + 1 => rw [co_succ, co_nil, co_nil]

theorem pmul_left_nil {a : List Int} (h : Eqv [] a) (b : List Int) : Eqv [] (pmul a b) := by
  induction a with
  | nil => exact Eqv.refl _
  | cons x a ih =>
    obtain ⟨rfl, h2⟩ := eqv_nil_cons.1 h
    intro i
    simp only [pmul]
    rw [co_padd, co_psc, co_nil]
    match i with
    | 0 => rw [co_zero]; omega
    | i + 1 => rw [co_succ, ← ih h2 i, co_nil]; omega

theorem pmul_eqv_left {a a' : List Int} (b : List Int) (h : Eqv a a') : Eqv (pmul a b) (pmul a' b) := by
  induction a generalizing a' with
  | nil => exact pmul_left_nil h b
  | cons x a ih =>
    cases a' with
    | nil => exact (pmul_left_nil h.symm b).symm
    | cons y a' =>
      obtain ⟨rfl, h2⟩ := eqv_tail h
      exact padd_eqv (Eqv.refl _) (sh_eqv (ih h2))

theorem pmul_eqv_right (a : List Int) {b b' : List Int} (h : Eqv b b') : Eqv (pmul a b) (pmul a b') := by
  induction a with
  | nil => exact Eqv.refl _
  | cons x a ih => exact padd_eqv (psc_eqv h) (sh_eqv ih)

theorem pmul_eqv {a a' b b' : List Int} (h : Eqv a a') (k : Eqv b b') : Eqv (pmul a b) (pmul a' b') := (pmul_eqv_left b h).trans (pmul_eqv_right a' k)

theorem psc_padd (k : Int) (a b : List Int) : Eqv (psc k (padd a b)) (padd (psc k a) (psc k b)) := fun i => by
  simp only [co_psc, co_padd, Int.mul_add]

theorem psc_psc (k j : Int) (a : List Int) : Eqv (psc k (psc j a)) (psc (k * j) a) := fun i => by
  simp only [co_psc, Int.mul_assoc]

theorem psc_add (k j : Int) (a : List Int) : Eqv (psc (k + j) a) (padd (psc k a) (psc j a)) := fun i => by
  simp only [co_psc, co_padd, Int.add_mul]

theorem pmul_psc (k : Int) (a b : List Int) : Eqv (pmul (psc k a) b) (psc k (pmul a b)) := by
  induction a with
  | nil => exact Eqv.refl _
  | cons x a ih =>
    show Eqv (padd (psc (k * x) b) (0 :: pmul (psc k a) b)) (psc k (padd (psc x b) (0 :: pmul a b)))
    refine (padd_eqv (psc_psc k x b).symm ((sh_eqv ih).trans (sh_psc k _))).trans (psc_padd k _ _).symm

theorem pmul_padd (a b c : List Int) : Eqv (pmul (padd a b) c) (padd (pmul a c) (pmul b c)) := by
  induction a generalizing b with
  | nil => exact Eqv.refl _
  | cons x a ih =>
    cases b with
    | nil => rw [padd_nil]; simp only [pmul]; rw [padd_nil]; exact Eqv.refl _
    | cons y b =>
      show Eqv (padd (psc (x + y) c) (0 :: pmul (padd a b) c)) (padd (padd (psc x c) (0 :: pmul a c)) (padd (psc y c) (0 :: pmul b c)))
      exact (padd_eqv (psc_add x y c) ((sh_eqv (ih b)).trans (sh_padd _ _))).trans (padd_swap _ _ _ _)

theorem pmul_sh (a b : List Int) : Eqv (pmul (0 :: a) b) (0 :: pmul a b) := by
  show Eqv (padd (psc 0 b) (0 :: pmul a b)) _
  exact padd_eqv (zero_psc b) (Eqv.refl _)

theorem pmul_assoc (a b c : List Int) : Eqv (pmul (pmul a b) c) (pmul a (pmul b c)) := by
  induction a with
  | nil => exact Eqv.refl _
  | cons x a ih =>
    show Eqv (pmul (padd (psc x b) (0 :: pmul a b)) c) (padd (psc x (pmul b c)) (0 :: pmul a (pmul b c)))
    exact (pmul_padd _ _ _).trans (padd_eqv (pmul_psc _ _ _) ((pmul_sh _ _).trans (sh_eqv ih)))

theorem pmul_cons (a : List Int) (y : Int) (b : List Int) : Eqv (pmul a (y :: b)) (padd (psc y a) (0 :: pmul a b)) := by
  induction a with
  | nil => intro i; simp only [pmul, psc, List.map_nil, padd]; exact (sh_nil i).symm
  | cons x a ih =>
    intro i
    have e1 : co (pmul (x :: a) (y :: b)) i = co (psc x (y :: b)) i + co (0 :: pmul a (y :: b)) i := co_padd _ _ _
    rw [e1, co_padd]
    match i with
    | 0 => simp only [co_psc, co_zero]; rw [Int.mul_comm]
    | i + 1 =>
      have e2 : co (pmul (x :: a) b) i = co (psc x b) i + co (0 :: pmul a b) i := co_padd _ _ _
      simp only [co_psc, co_succ] at *
      rw [ih i, e2, co_padd, co_psc]
      omega

theorem pmul_nil (a : List Int) : Eqv (pmul a []) [] := by
  induction a with
  | nil => exact Eqv.refl _
  | cons x a ih => exact (padd_eqv (Eqv.refl (psc x [])) ((sh_eqv ih).trans sh_nil)).trans (Eqv.refl _)

theorem pmul_comm (a b : List Int) : Eqv (pmul a b) (pmul b a) := by
  induction a with
  | nil => exact (pmul_nil b).symm
  | cons x a ih =>
    exact (padd_eqv (Eqv.refl _) (sh_eqv ih)).trans (pmul_cons b x a).symm

theorem pmul_padd_right (a b c : List Int) : Eqv (pmul a (padd b c)) (padd (pmul a b) (pmul a c)) :=
  (pmul_comm _ _).trans ((pmul_padd b c a).trans (padd_eqv (pmul_comm _ _) (pmul_comm _ _)))

theorem pmul_one (a : List Int) : Eqv (pmul a [1]) a := by
  refine (pmul_cons a 1 []).trans ?_
  intro i
  rw [co_padd, co_psc, (sh_eqv (pmul_nil a)) i, sh_nil i, co_nil]; omega

/-! ### place by place -/

def sm (f : Nat → Int) : Nat → Int
  | 0 => f 0
  | k + 1 => sm f k + f (k + 1)

theorem sm_congr {f g : Nat → Int} : ∀ {k : Nat}, (∀ i, i ≤ k → f i = g i) → sm f k = sm g k
  | 0, h => h 0 (Nat.le_refl _)
  | k + 1, h => by simp only [sm]; rw [sm_congr (fun i hi => h i (by omega)), h (k + 1) (Nat.le_refl _)]

theorem sm_front (f : Nat → Int) : ∀ k, sm f (k + 1) = f 0 + sm (fun i => f (i + 1)) k
  | 0 => rfl
  | k + 1 => by
    show sm f (k + 1) + f (k + 2) = f 0 + (sm (fun i => f (i + 1)) k + f (k + 2))
    rw [sm_front f k]; omega

theorem sm_zero {f : Nat → Int} : ∀ {k : Nat}, (∀ i, i ≤ k → f i = 0) → sm f k = 0
  | 0, h => h 0 (Nat.le_refl _)
  | k + 1, h => by simp only [sm]; rw [sm_zero (fun i hi => h i (by omega)), h (k + 1) (Nat.le_refl _)]; rfl

theorem co_pmul (a b : List Int) : ∀ k, co (pmul a b) k = sm (fun i => co a i * co b (k - i)) k := by
  induction a with
  | nil => intro k; rw [sm_zero (fun i hi => by rw [co_nil]; omega)]; exact co_nil k
  | cons x a ih =>
    intro k
    have e : co (pmul (x :: a) b) k = co (psc x b) k + co (0 :: pmul a b) k := co_padd _ _ _
    rw [e, co_psc]
    match k with
    | 0 => simp [sm, co_zero]
    | k + 1 =>
      rw [sm_front, co_succ, co_zero, ih k]
      congr 1
      exact sm_congr (fun i hi => by rw [co_succ]; congr 2; omega)

theorem pmul_length : ∀ (a b : List Int), b ≠ [] → a ≠ [] → (pmul a b).length = a.length + b.length - 1
  | [], b, _, h => absurd rfl h
  | x :: a, b, hb, _ => by
    have hb1 : 1 ≤ b.length := by cases b with
      | nil => exact absurd rfl hb
      | cons y b => simp
    simp only [pmul]
    rw [padd_length, List.length_cons, List.length_cons]
    cases a with
    | nil => simp [psc, pmul]; omega
    | cons y a => rw [pmul_length (y :: a) b hb (by simp)]; simp [psc]; omega

/-- The last place of a product. -/
theorem co_top {a b : List Int} {m n : Nat} (ha : a.length ≤ m + 1) (hb : b.length ≤ n + 1) : co (pmul a b) (m + n) = co a m * co b n := by
  rw [co_pmul]
  have key : ∀ k, m ≤ k → k ≤ m + n → sm (fun i => co a i * co b (m + n - i)) k = co a m * co b n := by
    intro k
    induction k with
    | zero =>
      intro h1 _
      have : m = 0 := by omega
      subst this
      simp [sm]
    | succ k ih =>
      intro h1 h2
      simp only [sm]
      by_cases e : m = k + 1
      · subst e
        rw [sm_zero (fun i hi => by rw [co_over (l := b) (by omega)]; omega)]
        rw [show k + 1 + n - (k + 1) = n by omega]; omega
      · have h0 : co a (k + 1) = 0 := co_over (by omega)
        rw [ih (by omega) (by omega), h0, Int.zero_mul, Int.add_zero]
  exact key (m + n) (by omega) (Nat.le_refl _)

theorem ev_padd (x : Int) : ∀ a b : List Int, ev (padd a b) x = ev a x + ev b x
  | [], b => by simp [padd, ev]
  | y :: a, [] => by simp [padd, ev]
  | y :: a, z :: b => by simp only [padd, ev]; rw [ev_padd x a b, Int.mul_add]; omega

theorem ev_psc (x k : Int) : ∀ a : List Int, ev (psc k a) x = k * ev a x
  | [] => by simp [psc, ev]
  | y :: a => by
    show k * y + x * ev (psc k a) x = k * (y + x * ev a x)
    rw [ev_psc x k a, Int.mul_add, Int.mul_left_comm]

theorem ev_pmul (x : Int) : ∀ a b : List Int, ev (pmul a b) x = ev a x * ev b x
  | [], b => by simp [pmul, ev]
  | y :: a, b => by
    show ev (padd (psc y b) (0 :: pmul a b)) x = (y + x * ev a x) * ev b x
    rw [ev_padd, ev_psc]
    show y * ev b x + (0 + x * ev (pmul a b) x) = _
    rw [ev_pmul x a b, Int.add_mul, Int.zero_add, Int.mul_assoc]

end Go.Proofs.Ytjpmkcijkcnfiaa.Num16
