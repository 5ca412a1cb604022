/-
  Plain arithmetic: the field's sums, products and powers, told as numbers.
-/
import Derived.Test.YtjpmkcijkcnfiaaNum36
namespace Go.Proofs.Ytjpmkcijkcnfiaa.Num37
set_option linter.unusedVariables false
open Go.Proofs.Ytjpmkcijkcnfiaa.Num Go.Proofs.Ytjpmkcijkcnfiaa.Num16 Go.Proofs.Ytjpmkcijkcnfiaa.Num17 Go.Proofs.Ytjpmkcijkcnfiaa.Num20 Go.Proofs.Ytjpmkcijkcnfiaa.Num21 Go.Proofs.Ytjpmkcijkcnfiaa.Num22 Go.Proofs.Ytjpmkcijkcnfiaa.Num23 Go.Proofs.Ytjpmkcijkcnfiaa.Num34 Go.Proofs.Ytjpmkcijkcnfiaa.Num35 Go.Proofs.Ytjpmkcijkcnfiaa.Num36

/-- What a field's reckoning does, on lists. -/
def Fits (p : Nat) (f : List Int) (F : Fd (El p f)) : Prop := F.zero.1 = [] ∧ F.one.1 = [1] ∧ (∀ a b, (F.add a b).1 = nm p (padd a.1 b.1)) ∧ (∀ a b, MulR p f a.1 b.1 (F.mul a b).1) ∧ ∀ x, nsm F p x = F.zero

/-- The number of an element. -/
def num {p : Nat} {f : List Int} (x : El p f) : Nat := nb p x.1

theorem num_lt {p : Nat} (hp : 1 ≤ p) {f : List Int} (x : El p f) : num x < p ^ (f.length - 1) := nb_small hp x.2.1 (by have := x.2.2; omega)

theorem el_num {p : Nat} (hp : 1 ≤ p) {f : List Int} (hf : 1 ≤ f.length ∧ f.length ≤ 13) (x : El p f) (h : num x < p ^ (f.length - 1)) : el hp hf h = x :=
  Subtype.ext (dig_nb hp x.2.1 (by have := x.2.2; omega))

theorem num_el {p : Nat} (hp : 2 ≤ p) {f : List Int} (hf : 1 ≤ f.length ∧ f.length ≤ 13) {a : Nat} (h : a < p ^ (f.length - 1)) (hs : p ^ (f.length - 1) ≤ 4096) : num (el (p := p) (by omega) hf h) = a := nb_dig hp (by omega)

theorem num_inj {p : Nat} (hp : 1 ≤ p) {f : List Int} (hf : 1 ≤ f.length ∧ f.length ≤ 13) {x y : El p f} (h : num x = num y) : x = y := by
  have h1 := el_num hp hf x (num_lt hp x)
  have h2 := el_num hp hf y (num_lt hp y)
  rw [← h1, ← h2]
  exact Subtype.ext (by show dig p (num x) = dig p (num y); rw [h])

theorem dig_num {p : Nat} (hp : 1 ≤ p) {f : List Int} (hf : f.length ≤ 13) (x : El p f) : dig p (num x) = x.1 := dig_nb hp x.2.1 (by have := x.2.2; omega)

theorem Fits.mul {p : Nat} (hp : Pr p) {f : List Int} (hf : Cn p f) (hl : f.length ≤ 13) {F : Fd (El p f)} (hF : Fits p f F) (x y : El p f) {c : Nat} (h : FMul p f (num x) (num y) c) : c = num (F.mul x y) := by
  have hp1 := hp.1
  refine h.uniq hp hf ⟨_, ?_, rfl⟩
  rw [dig_num (by omega) hl, dig_num (by omega) hl]
  exact hF.2.2.2.1 x y

theorem Fits.add {p : Nat} (hp : 1 ≤ p) {f : List Int} (hl : f.length ≤ 13) {F : Fd (El p f)} (hF : Fits p f F) (x y : El p f) : fad p (num x) (num y) = num (F.add x y) := by
  unfold fad num
  rw [show dig p (nb p x.1) = x.1 from dig_num hp hl x, show dig p (nb p y.1) = y.1 from dig_num hp hl y, hF.2.2.1]

theorem Fits.zero {p : Nat} {f : List Int} {F : Fd (El p f)} (hF : Fits p f F) : num F.zero = 0 := by unfold num; rw [hF.1]; rfl

theorem Fits.one {p : Nat} {f : List Int} {F : Fd (El p f)} (hF : Fits p f F) : num F.one = 1 := by unfold num; rw [hF.2.1]; simp [nb]

/-- The least one whose powers are all. -/
def BaseIs {p : Nat} {f : List Int} (F : Fd (El p f)) (n g : Nat) : Prop := (∃ x : El p f, num x = g ∧ Ord F x n) ∧ ∀ y : El p f, Ord F y n → g ≤ num y

theorem base_least {p : Nat} {f : List Int} (F : Fd (El p f)) (n : Nat) : ∀ (k : Nat), (∃ x : El p f, num x < k ∧ Ord F x n) → ∃ g, BaseIs F n g
  | 0, ⟨x, h, _⟩ => absurd h (by omega)
  | k + 1, ⟨x, h, ho⟩ => by
    rcases Classical.em (∃ y : El p f, num y < k ∧ Ord F y n) with h1 | h1
    · exact base_least F n k h1
    · refine ⟨num x, ⟨x, rfl, ho⟩, fun y hy => ?_⟩
      rcases Nat.lt_or_ge (num y) (num x) with h2 | h2
      · exact absurd ⟨y, by omega, hy⟩ h1
      · exact h2

theorem base_is {p : Nat} (hp : Pr p) {f : List Int} (hf : 1 ≤ f.length) {F : Fd (El p f)} (hF : Fits p f F) : ∃ g, BaseIs F (p ^ (f.length - 1) - 1) g := by
  obtain ⟨⟨x, hx⟩, _⟩ := field_cyclic hp hf F hF.1
  exact base_least F _ (num x + 1) ⟨x, by omega, hx⟩

theorem BaseIs.uniq {p : Nat} {f : List Int} {F : Fd (El p f)} {n g g' : Nat} (h : BaseIs F n g) (k : BaseIs F n g') : g = g' := by
  obtain ⟨⟨x, rfl, hx⟩, h2⟩ := h
  obtain ⟨⟨y, rfl, hy⟩, k2⟩ := k
  have := h2 y hy
  have := k2 x hx
  omega

end Go.Proofs.Ytjpmkcijkcnfiaa.Num37
