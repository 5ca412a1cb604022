/-
  What the laws on fields share: when a code is not 0; a row of Bools; the powers that have been seen.
-/
import Derived.Test.YtjpmkcijkcnfiaaCalls85
namespace Go.Proofs.Ytjpmkcijkcnfiaa.Calls86
set_option linter.unusedVariables false
open Go.ChangeShapes Go.WideShapes Go.ChangeAt Go.RowKit Go.Deep Go.Proofs.Ytjpmkcijkcnfiaa.Base Go.Proofs.Ytjpmkcijkcnfiaa.Base2 Go.Proofs.Ytjpmkcijkcnfiaa.Num Go.Proofs.Ytjpmkcijkcnfiaa.Num16 Go.Proofs.Ytjpmkcijkcnfiaa.Num17 Go.Proofs.Ytjpmkcijkcnfiaa.Num21 Go.Proofs.Ytjpmkcijkcnfiaa.Num23 Go.Proofs.Ytjpmkcijkcnfiaa.Num34 Go.Proofs.Ytjpmkcijkcnfiaa.Num35 Go.Proofs.Ytjpmkcijkcnfiaa.Num36 Go.Proofs.Ytjpmkcijkcnfiaa.Num37 Go.Proofs.Ytjpmkcijkcnfiaa.Num38 Go.Proofs.Ytjpmkcijkcnfiaa.Base4 Go.Proofs.Ytjpmkcijkcnfiaa.Calls76 Go.Proofs.Ytjpmkcijkcnfiaa.Calls77 Go.Proofs.Ytjpmkcijkcnfiaa.Calls81 Go.Proofs.Ytjpmkcijkcnfiaa.Calls82 Go.Proofs.Ytjpmkcijkcnfiaa.Calls83 Go.Proofs.Ytjpmkcijkcnfiaa.Calls84 Go.Proofs.Ytjpmkcijkcnfiaa.Calls85
open Go.Proofs.Ytjpmkcijkcnfiaa.Num20 (pw Ord)
open Go.Proofs.Ytjpmkcijkcnfiaa.Num22 (El MulR)

theorem ec_no {p : Int} {f l : List Int} {c : Int} (h : EC p f l c) (h0 : c ≠ 0) : ¬ EC p f l 0 := fun k => by
  rcases k with ⟨_, k⟩ | ⟨k1, ⟨_, k⟩ | ⟨k2, _⟩⟩
  · exact k rfl
  · cases k
  · rcases h with ⟨h, _⟩ | ⟨_, ⟨h, _⟩ | ⟨_, h⟩⟩
    · exact fc_uniq0 h h0 k1
    · exact h k2
    · exact h0 h

/-- The question whether all are elements, at a row that the call makes itself. -/
theorem within_one (p : Int) (fo : Option Addr) (cf : Nat) (f : List Int) (a : Int) (mf : f.length ≤ 9223372036854775807) (b : Bool) (hb : b = true ↔ EC p f [a] 0) (w w' : World) (rf : IRow w fo f) (hB : Below w.heap.size w w') (ce : Nat) :
    Calls Try.prog 20 #[.int .i64 p, .slice fo f.length cf, .slice (some ⟨w'.heap.size, 0, none⟩) 1 ce] (w'.alloc (.cells #[.int .i64 a] 2)) fun e w'' => e = .returned (.bool b) ∧ Below w.heap.size w w'' :=
  (within_any p fo (some ⟨w'.heap.size, 0, none⟩) cf ce f [a] mf (by simp) b hb _ (irow_below rf (hB.alloc hB.size _) (Nat.le_refl _)) (irow_one1 w' a)).mono (fun e w'' ⟨he, h⟩ => ⟨he, below_trans (hB.alloc hB.size _) h⟩)

theorem within_two (p : Int) (fo : Option Addr) (cf : Nat) (f : List Int) (a a' : Int) (mf : f.length ≤ 9223372036854775807) (b : Bool) (hb : b = true ↔ EC p f [a, a'] 0) (w w' : World) (rf : IRow w fo f) (hB : Below w.heap.size w w') (ce : Nat) :
    Calls Try.prog 20 #[.int .i64 p, .slice fo f.length cf, .slice (some ⟨w'.heap.size, 0, none⟩) 2 ce] (w'.alloc (.cells #[.int .i64 a, .int .i64 a'] 2)) fun e w'' => e = .returned (.bool b) ∧ Below w.heap.size w w'' :=
  (within_any p fo (some ⟨w'.heap.size, 0, none⟩) cf ce f [a, a'] mf (by simp) b hb _ (irow_below rf (hB.alloc hB.size _) (Nat.le_refl _)) (irow_two w' a a')).mono (fun e w'' ⟨he, h⟩ => ⟨he, below_trans (hB.alloc hB.size _) h⟩)

theorem within_nil (p : Int) (fo : Option Addr) (cf : Nat) (f : List Int) (mf : f.length ≤ 9223372036854775807) (b : Bool) (hb : b = true ↔ EC p f [] 0) (w w' : World) (rf : IRow w fo f) (hB : Below w.heap.size w w') :
    Calls Try.prog 20 #[.int .i64 p, .slice fo f.length cf, .slice none 0 0] w' fun e w'' => e = .returned (.bool b) ∧ Below w.heap.size w w'' :=
  (within_any p fo none cf 0 f [] mf (by simp) b hb _ (irow_below rf hB (Nat.le_refl _)) (irow_nil _ _)).mono (fun e w'' ⟨he, h⟩ => ⟨he, below_trans hB h⟩)

theorem mul_self_inv {p : Nat} {f : List Int} (hf : Fld p f) {F : Fe p f} {x y z : El p f} (h1 : F.mul x y = F.one) (h2 : F.mul y z = F.one) : z = x := by
  have h3 : F.mul (F.mul x y) z = F.mul x (F.mul y z) := F.mul_assoc x y z
  rw [h1, h2, F.one_mul, Go.Proofs.Ytjpmkcijkcnfiaa.Num20.mul_one] at h3
  exact h3

theorem inv_ne {p : Nat} {f : List Int} (hf : Fld p f) {F : Fe p f} (hF : Fits p f F) {x y : El p f} (h1 : F.mul x y = F.one) : num y ≠ 0 := fun e => by
  have hy : y = F.zero := num_inj (by have := hf.1.1; omega) hf.fl (by rw [e, hF.zero])
  rw [hy, Go.Proofs.Ytjpmkcijkcnfiaa.Num20.mul_zero] at h1
  exact F.one_ne h1.symm

/-! ### a row of Bools -/

def bs (n : Nat) (v : Nat → Bool) : List Value := (List.range n).map (fun i => .bool (v i))

theorem bs_get (v : Nat → Bool) {n i : Nat} (h : i < n) : (bs n v)[i]? = some (.bool (v i)) := by simp [bs, h]

theorem bs_zero (n : Nat) : (madeCells (Value.bool false).cells (n * 1)).toList = bs n (fun _ => false) := by
  simp [madeCells, bs, Value.cells, Nat.mod_one]

theorem bs_set (v : Nat → Bool) (n y : Nat) : (bs n v).set y (.bool true) = bs n (fun j => if j = y then true else v j) := by
  apply List.ext_getElem?
  intro i
  by_cases hi : i < n
  · rw [bs_get _ hi, List.getElem?_set]
    by_cases e : y = i
    · subst e
      simp [bs, hi]
    · rw [if_neg e, bs_get _ hi, if_neg (fun h => e h.symm)]
  · rw [List.getElem?_eq_none (by simp [bs]; omega), List.getElem?_eq_none (by simp [bs]; omega)]

theorem infoBool : (Try.prog.info? 4).map (fun i => (i.zero, i.size, i.bytes)) = some (some (.bool false), 1, 1) := by kernel_rfl

theorem infoBool_ex : ∃ i, Try.prog.info? 4 = some i ∧ i.zero = some (.bool false) ∧ i.size = 1 ∧ i.bytes = 1 := by
  have h := infoBool
  cases e : Try.prog.info? 4 with
  | none => rw [e] at h; simp at h
  | some i => rw [e] at h; simp at h; exact ⟨i, rfl, h.1, h.2.1, h.2.2⟩

/-! ### the powers that have been seen -/

def Sn {p : Nat} {f : List Int} (F : Fe p f) (y : El p f) (k : Nat) (v : Nat → Bool) : Prop := ∀ j, v j = true ↔ ∃ i, 1 ≤ i ∧ i ≤ k ∧ num (pw F y i) = j

theorem Sn.start {p : Nat} {f : List Int} (F : Fe p f) (y : El p f) : Sn F y 0 (fun _ => false) := fun j => by
  constructor
  · intro h; cases h
  · rintro ⟨i, h1, h2, _⟩; omega

theorem Sn.next {p : Nat} {f : List Int} (hf : Fld p f) {F : Fe p f} (hF : Fits p f F) {y : El p f} {m k : Nat} {v : Nat → Bool} (hO : Ord F y m) (hy : num y ≠ 0) (hk : k < m) (h : Sn F y k v) :
    v (num (pw F y (k + 1))) = false ∧ Sn F y (k + 1) (fun j => if j = num (pw F y (k + 1)) then true else v j) := by
  have hp1 := hf.1.1
  constructor
  · cases hb : v (num (pw F y (k + 1))) with
    | false => rfl
    | true =>
      exfalso
      obtain ⟨i, h1, h2, h3⟩ := (h _).1 hb
      have e : pw F y i = pw F y (k + 1) := num_inj (by omega) hf.fl h3
      have e2 : k + 1 = i + (k + 1 - i) := by omega
      rw [e2, Go.Proofs.Ytjpmkcijkcnfiaa.Num20.pw_add] at e
      have e3 : F.mul (pw F y i) F.one = F.mul (pw F y i) (pw F y (k + 1 - i)) := by rw [Go.Proofs.Ytjpmkcijkcnfiaa.Num20.mul_one]; exact e
      have e4 := Go.Proofs.Ytjpmkcijkcnfiaa.Num20.mul_cancel F (Go.Proofs.Ytjpmkcijkcnfiaa.Num20.pw_ne F (hf.ne_zero hF hy) i) e3
      have hd := (hO.2 _).1 e4.symm
      have := Nat.le_of_dvd (by omega) hd
      omega
  · intro j
    show (if j = num (pw F y (k + 1)) then true else v j) = true ↔ _
    by_cases e : j = num (pw F y (k + 1))
    · rw [if_pos e]
      exact ⟨fun _ => ⟨k + 1, by omega, Nat.le_refl _, e.symm⟩, fun _ => rfl⟩
    · rw [if_neg e, h j]
      constructor
      · rintro ⟨i, h1, h2, h3⟩
        exact ⟨i, h1, by omega, h3⟩
      · rintro ⟨i, h1, h2, h3⟩
        refine ⟨i, h1, ?_, h3⟩
        by_cases e2 : i = k + 1
        · subst e2; exact absurd h3.symm e
        · omega

theorem pw_pos {p : Nat} {f : List Int} (hf : Fld p f) {F : Fe p f} (hF : Fits p f F) {y : El p f} (hy : num y ≠ 0) (k : Nat) : 1 ≤ num (pw F y k) := by
  rcases Nat.eq_zero_or_pos (num (pw F y k)) with e | e
  · exact absurd (num_inj (by have := hf.1.1; omega) hf.fl (by rw [e, hF.zero])) (Go.Proofs.Ytjpmkcijkcnfiaa.Num20.pw_ne F (hf.ne_zero hF hy) k)
  · exact e

end Go.Proofs.Ytjpmkcijkcnfiaa.Calls86
