/-
  Plain arithmetic, without the model: what the loops of polynomials do, place by place.
-/
import Derived.Test.YtjpmkcijkcnfiaaNum17
import Derived.Test.YtjpmkcijkcnfiaaNum13
namespace Go.Proofs.Ytjpmkcijkcnfiaa.Num34
set_option linter.unusedVariables false
open Go.Proofs.Ytjpmkcijkcnfiaa.Num Go.Proofs.Ytjpmkcijkcnfiaa.Num7 Go.Proofs.Ytjpmkcijkcnfiaa.Num13 Go.Proofs.Ytjpmkcijkcnfiaa.Num16 Go.Proofs.Ytjpmkcijkcnfiaa.Num17

/-! ### rows -/

def mk (n : Nat) (f : Nat → Int) : List Int := (List.range n).map f

theorem mk_length (n : Nat) (f : Nat → Int) : (mk n f).length = n := by simp [mk]

theorem co_mk (n : Nat) (f : Nat → Int) (i : Nat) : co (mk n f) i = if i < n then f i else 0 := by
  by_cases h : i < n
  · rw [if_pos h]; simp [co, mk, List.getD, h]
  · rw [if_neg h, co_over (by rw [mk_length]; omega)]

theorem mk_of (l : List Int) : mk l.length (co l) = l :=
  List.ext_getElem (by simp [mk]) (fun i h1 h2 => by simp [mk, co, List.getD, h2])

theorem mk_congr {n : Nat} {f g : Nat → Int} (h : ∀ i, i < n → f i = g i) : mk n f = mk n g := List.map_congr_left (fun i hi => h i (List.mem_range.1 hi))

theorem mk_mem {n : Nat} {f : Nat → Int} {x : Int} (h : x ∈ mk n f) : ∃ i, i < n ∧ f i = x := by
  obtain ⟨i, hi, e⟩ := List.mem_map.1 h
  exact ⟨i, List.mem_range.1 hi, e⟩

theorem mk_succ (n : Nat) (f : Nat → Int) : mk (n + 1) f = mk n f ++ [f n] := by simp [mk, List.range_succ]

/-- One number is another one. -/
def up1 (f : Nat → Int) (y : Nat) (q : Int) : Nat → Int := fun z => if z = y then q else f z

theorem up1_self (f : Nat → Int) (y : Nat) (q : Int) : up1 f y q y = q := by simp [up1]

theorem up1_other (f : Nat → Int) {y z : Nat} (q : Int) (h : z ≠ y) : up1 f y q z = f z := by simp [up1, h]

theorem mk_set (n y : Nat) (q : Int) (f : Nat → Int) : (mk n f).set y q = mk n (up1 f y q) := by
  refine List.ext_getElem (by simp [mk]) (fun i h1 h2 => ?_)
  simp only [mk, List.getElem_set, List.getElem_map, List.getElem_range, up1]
  by_cases h : y = i
  · rw [if_pos h, if_pos h.symm]
  · rw [if_neg h, if_neg (fun e => h e.symm)]

/-- Numbers from 0 to p - 1. -/
def Bd (p : Nat) (l : List Int) : Prop := ∀ x ∈ l, 0 ≤ x ∧ x < (p : Int)

theorem Bd.at {p : Nat} {l : List Int} (hp : 1 ≤ p) (h : Bd p l) (i : Nat) : 0 ≤ co l i ∧ co l i < (p : Int) := by
  by_cases hi : i < l.length
  · exact h _ (co_mem hi)
  · rw [co_over (by omega)]; omega

theorem Bd.mk {p n : Nat} {f : Nat → Int} (h : ∀ i, i < n → 0 ≤ f i ∧ f i < (p : Int)) : Bd p (mk n f) := fun x hx => by
  obtain ⟨i, hi, rfl⟩ := mk_mem hx
  exact h i hi

theorem mod_bd {p : Nat} (hp : 1 ≤ p) (x : Int) : 0 ≤ x % (p : Int) ∧ x % (p : Int) < (p : Int) := ⟨Int.emod_nonneg _ (by omega), Int.emod_lt_of_pos _ (by omega)⟩

theorem mod_cong {p : Nat} (x : Int) : (p : Int) ∣ x % (p : Int) - x := ⟨-(x / (p : Int)), by rw [Int.emod_def, Int.mul_neg]; omega⟩

theorem rs_cong {p : Nat} (hp : 1 ≤ p) (x : Int) : (p : Int) ∣ (rs x p : Int) - x := by rw [rs_cast x hp]; exact mod_cong x

theorem rs_bd {p : Nat} (hp : 1 ≤ p) (x : Int) : 0 ≤ (rs x p : Int) ∧ (rs x p : Int) < (p : Int) := ⟨by omega, by have := rs_lt x hp; omega⟩

theorem rs_of {p : Nat} (hp : 1 ≤ p) {x y : Int} (h : (p : Int) ∣ x - y) : rs x p = rs y p := by
  have := small_of (p := p) (x := (rs x p : Int)) (y := (rs y p : Int)) (cong_tr (rs_cong hp x) (cong_tr h (cong_sy (rs_cong hp y)))) (rs_bd hp x) (rs_bd hp y)
  omega

theorem rs_zero {p : Nat} (hp : 1 ≤ p) {x : Int} (h : (p : Int) ∣ x) : rs x p = 0 := by
  have := small_of (p := p) (x := (rs x p : Int)) (y := 0) (by have := Int.dvd_add (rs_cong hp x) h; simpa using this) (rs_bd hp x) ⟨by omega, by omega⟩
  omega

theorem rs_ne {p : Nat} (hp : 1 ≤ p) {x : Int} (h : ¬ (p : Int) ∣ x) : rs x p ≠ 0 := fun e => h (by
  have := cong_sy (rs_cong hp x)
  rw [e] at this
  simpa using this)

theorem rs_self {p : Nat} (hp : 1 ≤ p) {x : Int} (h : 0 ≤ x ∧ x < (p : Int)) : (rs x p : Int) = x := small_of (rs_cong hp x) (rs_bd hp x) h

theorem not_dvd {p : Nat} {x : Int} (h : 0 ≤ x ∧ x < (p : Int)) (h0 : x ≠ 0) : ¬ (p : Int) ∣ x := fun hd => h0 (small_of (y := 0) (by simpa using hd) h ⟨by omega, by omega⟩)

/-! ### zeros at the end -/

theorem tr_snoc_zero : ∀ l : List Int, tr (l ++ [0]) = tr l
  | [] => by simp [tr]
  | x :: xs => by simp only [List.cons_append, tr]; rw [tr_snoc_zero xs]

theorem tr_last_ne : ∀ l : List Int, (l ≠ [] → co l (l.length - 1) ≠ 0) → tr l = l
  | [], _ => rfl
  | [x], h => by
    have := h (by simp)
    simp [co] at this
    simp [tr, this]
  | x :: y :: ys, h => by
    have ih := tr_last_ne (y :: ys) (fun _ => by
      have := h (by simp)
      simp only [List.length_cons, Nat.add_sub_cancel] at this ⊢
      rw [co_succ] at this
      exact this)
    unfold tr
    rw [ih]
    simp

theorem take_succ_co {l : List Int} {k : Nat} (h : k < l.length) : l.take (k + 1) = l.take k ++ [co l k] := by
  rw [List.take_add_one, List.getElem?_eq_getElem h]
  simp [co, List.getD, h]

theorem tr_take_zero {l : List Int} {k : Nat} (h : k < l.length) (h0 : co l k = 0) : tr (l.take (k + 1)) = tr (l.take k) := by
  rw [take_succ_co h, h0, tr_snoc_zero]

theorem co_take {l : List Int} {k i : Nat} (h : i < k) : co (l.take k) i = co l i := by
  simp [co, List.getD, h]

theorem tr_take_stop {l : List Int} {k : Nat} (hk : k ≤ l.length) (h : k = 0 ∨ co l (k - 1) ≠ 0) : tr (l.take k) = l.take k := by
  apply tr_last_ne
  intro hne
  have e : (l.take k).length = k := by simp; omega
  have k0 : k ≠ 0 := fun e => hne (by rw [e]; simp)
  rw [e, co_take (by omega)]
  rcases h with h | h
  · exact absurd h k0
  · exact h

theorem nm_tr {p : Nat} (hp : 1 ≤ p) {l m : List Int} (hb : Bd p l) (h : Q p l m) : tr l = nm p m := (nm_of hp (tr_cn hb) ((tr_q p l).trans h)).symm

/-! ### sums -/

def adf (p : Nat) (a b : List Int) (k : Nat) : Nat → Int := fun i => if i < k then (co a i + co b i) % (p : Int) else co a i

theorem adf_zero (p : Nat) (a b : List Int) : adf p a b 0 = co a := by funext i; simp [adf]

theorem adf_at (p : Nat) (a b : List Int) (k : Nat) : adf p a b k k = co a k := by simp [adf]

theorem adf_step (p : Nat) (a b : List Int) (k : Nat) : up1 (adf p a b k) k ((co a k + co b k) % (p : Int)) = adf p a b (k + 1) := by
  funext i
  simp only [up1, adf]
  by_cases h : i = k
  · subst h; rw [if_pos rfl, if_pos (by omega)]
  · rw [if_neg h]
    by_cases h2 : i < k
    · rw [if_pos h2, if_pos (by omega)]
    · rw [if_neg h2, if_neg (by omega)]

theorem adf_done {p : Nat} (hp : 1 ≤ p) {a b : List Int} (ha : Bd p a) (hl : b.length ≤ a.length) : tr (mk a.length (adf p a b b.length)) = nm p (padd a b) := by
  refine nm_tr hp (Bd.mk fun i hi => ?_) (fun i => ?_)
  · unfold adf; split
    · exact mod_bd hp _
    · exact ha.at hp i
  · rw [co_mk, co_padd]
    by_cases hi : i < a.length
    · rw [if_pos hi]; unfold adf
      split
      · exact mod_cong _
      · rw [co_over (l := b) (by omega)]; simp
    · rw [if_neg hi, co_over (l := a) (by omega), co_over (l := b) (by omega)]; simp

/-! ### products -/

def su (f : Nat → Int) : Nat → Int
  | 0 => 0
  | n + 1 => su f n + f n

theorem su_sm (f : Nat → Int) : ∀ k, sm f k = su f (k + 1)
  | 0 => by simp [sm, su]
  | k + 1 => by show sm f k + f (k + 1) = su f (k + 1) + f (k + 1); rw [su_sm f k]

theorem su_congr {f g : Nat → Int} : ∀ {n : Nat}, (∀ i, i < n → f i = g i) → su f n = su g n
  | 0, _ => rfl
  | n + 1, h => by simp only [su]; rw [su_congr (fun i hi => h i (by omega)), h n (by omega)]

theorem su_stop {f : Nat → Int} {m : Nat} : ∀ {n : Nat}, m ≤ n → (∀ i, m ≤ i → i < n → f i = 0) → su f n = su f m
  | 0, h, _ => by rw [show m = 0 by omega]
  | n + 1, h, h0 => by
    by_cases e : m = n + 1
    · rw [e]
    · simp only [su]
      rw [su_stop (by omega) (fun i h1 h2 => h0 i h1 (by omega)), h0 n (by omega) (by omega)]; omega

theorem su_up {f g : Nat → Int} {i : Nat} (h : ∀ s, s ≠ i → g s = f s) (h0 : f i = 0) : ∀ n : Nat, su g n = su f n + (if i < n then g i else 0)
  | 0 => by simp [su]
  | n + 1 => by
    simp only [su]
    rw [su_up h h0 n]
    by_cases e : n = i
    · subst e; rw [if_neg (by omega), if_pos (by omega), h0]
    · rw [h n e]
      by_cases h2 : i < n
      · rw [if_pos h2, if_pos (by omega)]; omega
      · rw [if_neg h2, if_neg (by omega)]; omega

def pt (a b : List Int) (t s : Nat) : Int := if s ≤ t then co a s * co b (t - s) else 0

theorem su_pt (a b : List Int) (t : Nat) {n : Nat} (hn : a.length ≤ n) : su (pt a b t) n = co (pmul a b) t := by
  have h1 : su (pt a b t) (max n (t + 1)) = su (pt a b t) n := su_stop (Nat.le_max_left _ _) (fun i h1 h2 => by
    unfold pt; split
    · rw [co_over (l := a) (by omega)]; omega
    · rfl)
  have h2 : su (pt a b t) (max n (t + 1)) = su (pt a b t) (t + 1) := su_stop (Nat.le_max_right _ _) (fun i h1 h2 => by
    unfold pt; rw [if_neg (by omega)])
  rw [← h1, h2, ← su_sm, co_pmul]
  exact sm_congr (fun i hi => by unfold pt; rw [if_pos hi])

def prf (p : Nat) (a b : List Int) (i j : Nat) : Nat → Int := fun t => (su (pt a b t) i + (if i ≤ t ∧ t < i + j then co a i * co b (t - i) else 0)) % (p : Int)

theorem prf_zero (p : Nat) (a b : List Int) : prf p a b 0 0 = fun _ => 0 := by
  funext t
  simp only [prf, su]
  rw [if_neg (by omega)]; simp

theorem prf_bd {p : Nat} (hp : 1 ≤ p) (a b : List Int) (i j t : Nat) : 0 ≤ prf p a b i j t ∧ prf p a b i j t < (p : Int) := mod_bd hp _

theorem prf_step (p : Nat) (a b : List Int) (i j : Nat) : up1 (prf p a b i j) (i + j) ((prf p a b i j (i + j) + co a i * co b j) % (p : Int)) = prf p a b i (j + 1) := by
  funext t
  by_cases h : t = i + j
  · subst h
    rw [up1_self]
    simp only [prf]
    rw [if_neg (by omega), if_pos (by omega), Int.add_zero, show i + j - i = j by omega, Int.emod_add_emod]
  · rw [up1_other _ _ h]
    simp only [prf]
    by_cases h2 : i ≤ t ∧ t < i + j
    · rw [if_pos h2, if_pos (by omega)]
    · rw [if_neg h2, if_neg (by omega)]

theorem prf_next (p : Nat) (a b : List Int) (i : Nat) : prf p a b i b.length = prf p a b (i + 1) 0 := by
  funext t
  simp only [prf, su]
  rw [if_neg (show ¬ (i + 1 ≤ t ∧ t < i + 1 + 0) by omega), Int.add_zero]
  congr 2
  unfold pt
  by_cases h : i ≤ t
  · rw [if_pos h]
    by_cases h2 : t < i + b.length
    · rw [if_pos ⟨h, h2⟩]
    · rw [if_neg (by omega), co_over (l := b) (by omega)]; omega
  · rw [if_neg h, if_neg (by omega)]

theorem prf_done {p : Nat} (hp : Pr p) {a b : List Int} (ha : Cn p a) (hb : Cn p b) (na : a ≠ []) (nb : b ≠ []) : mk (a.length + b.length - 1) (prf p a b a.length 0) = nm p (pmul a b) := by
  have hp1 := hp.1
  have la := pos_of_ne na
  have lb := pos_of_ne nb
  have hv : ∀ t, prf p a b a.length 0 t = co (pmul a b) t % (p : Int) := fun t => by
    simp only [prf]
    rw [if_neg (by omega), Int.add_zero, su_pt a b t (Nat.le_refl _)]
  have hq : Q p (mk (a.length + b.length - 1) (prf p a b a.length 0)) (pmul a b) := fun t => by
    rw [co_mk]
    by_cases h : t < a.length + b.length - 1
    · rw [if_pos h, hv]; exact mod_cong _
    · rw [if_neg h, co_over (l := pmul a b) (by rw [pmul_length a b nb na]; omega)]; simp
  refine (nm_of (by omega) ⟨Bd.mk fun i _ => prf_bd (by omega) a b _ _ i, fun _ => ?_⟩ hq).symm
  rw [mk_length]
  intro e
  have h := hq (a.length + b.length - 1 - 1)
  rw [e] at h
  have h2 := cong_sy h
  exact top_mul hp ha hb na nb (by rw [show a.length - 1 + (b.length - 1) = a.length + b.length - 1 - 1 by omega]; simpa using h2)

theorem mul_over {a b : List Int} {t : Nat} (h : a.length + b.length - 1 ≤ t) : co (pmul a b) t = 0 := by
  rcases Classical.em (a = []) with e | na
  · subst e; exact co_nil t
  · rcases Classical.em (b = []) with e | nb
    · subst e; rw [pmul_nil a t, co_nil]
    · exact co_over (by rw [pmul_length a b nb na]; exact h)

/-- The document's product, place by place. -/
theorem mul_done {p : Nat} (hp : 1 ≤ p) {a b : List Int} : tr (mk (a.length + b.length - 1) (fun t => co (pmul a b) t % (p : Int))) = nm p (pmul a b) := by
  refine nm_tr hp (Bd.mk fun i _ => mod_bd hp _) (fun i => ?_)
  rw [co_mk]
  by_cases h : i < a.length + b.length - 1
  · rw [if_pos h]; exact mod_cong _
  · rw [if_neg h, mul_over (by omega)]; simp

def mlf (p : Nat) (a b : List Int) (k i : Nat) : Int := su (pt a b k) i % (p : Int)

theorem mlf_zero (p : Nat) (a b : List Int) (k : Nat) : mlf p a b k 0 = 0 := by simp [mlf, su]

theorem mlf_step (p : Nat) (a b : List Int) {k i : Nat} (h : i ≤ k) : (mlf p a b k i + co a i * co b (k - i)) % (p : Int) = mlf p a b k (i + 1) := by
  simp only [mlf, su, pt]
  rw [if_pos h, Int.emod_add_emod]

theorem mlf_done (p : Nat) (a b : List Int) (k : Nat) : mlf p a b k (k + 1) = co (pmul a b) k % (p : Int) := by
  unfold mlf
  rw [← su_sm, co_pmul]
  congr 1
  exact sm_congr (fun i hi => by unfold pt; rw [if_pos hi])

theorem mlf_bd {p : Nat} (hp : 1 ≤ p) (a b : List Int) (k i : Nat) : 0 ≤ mlf p a b k i ∧ mlf p a b k i < (p : Int) := mod_bd hp _

/-- The document's sum, place by place. -/
theorem add_done {p : Nat} (hp : 1 ≤ p) {a b : List Int} : tr (mk (max a.length b.length) (fun t => (co a t + co b t) % (p : Int))) = nm p (padd a b) := by
  refine nm_tr hp (Bd.mk fun i _ => mod_bd hp _) (fun i => ?_)
  rw [co_mk, co_padd]
  by_cases h : i < max a.length b.length
  · rw [if_pos h]; exact mod_cong _
  · rw [if_neg h, co_over (l := a) (by omega), co_over (l := b) (by omega)]; simp

/-! ### multiples -/

def scf (p : Nat) (a : List Int) (c : Int) (k : Nat) : Nat → Int := fun i => if i < k then co a i * c % (p : Int) else 0

theorem scf_zero (p : Nat) (a : List Int) (c : Int) : scf p a c 0 = fun _ => 0 := by funext i; simp [scf]

theorem scf_step (p : Nat) (a : List Int) (c : Int) (k : Nat) : up1 (scf p a c k) k (co a k * c % (p : Int)) = scf p a c (k + 1) := by
  funext i
  simp only [up1, scf]
  by_cases h : i = k
  · subst h; rw [if_pos rfl, if_pos (by omega)]
  · rw [if_neg h]
    by_cases h2 : i < k
    · rw [if_pos h2, if_pos (by omega)]
    · rw [if_neg h2, if_neg (by omega)]

theorem scf_done {p : Nat} (hp : 1 ≤ p) (a : List Int) (c : Int) : tr (mk a.length (scf p a c a.length)) = nm p (psc c a) := by
  refine nm_tr hp (Bd.mk fun i hi => ?_) (fun i => ?_)
  · unfold scf; rw [if_pos hi]; exact mod_bd hp _
  · rw [co_mk, co_psc, Int.mul_comm]
    by_cases hi : i < a.length
    · rw [if_pos hi]; unfold scf; rw [if_pos hi]; exact mod_cong _
    · rw [if_neg hi, co_over (l := a) (by omega)]; simp

/-! ### what makes 1 -/

theorem pow_mod (x : Int) {p : Nat} (hp : 1 ≤ p) : ∀ k : Nat, (p : Int) ∣ (rs x p : Int) ^ k - x ^ k
  | 0 => by simp
  | k + 1 => by rw [Int.pow_succ, Int.pow_succ]; exact cong_mul (pow_mod x hp k) (rs_cong hp x)

theorem pw_cong (x : Int) (k : Nat) {p : Nat} (hp : 1 ≤ p) : (p : Int) ∣ (pw x k p : Int) - x ^ k := by
  have h1 : (p : Int) ∣ (pw x k p : Int) - (rs x p : Int) ^ k := by
    unfold pw
    rw [Int.natCast_emod, natpow_cast]
    exact mod_cong _
  exact cong_tr h1 (pow_mod x hp k)

def iv (p : Nat) (x : Int) : Nat := pw x (p - 2 + (p - 1) * (2 / p)) p

theorem iv_lt {p : Nat} (hp : 1 ≤ p) (x : Int) : iv p x < p := pw_lt _ _ hp

theorem iv_ok {p : Nat} (hp : Pr p) {x : Int} (h : ¬ (p : Int) ∣ x) : (p : Int) ∣ x * (iv p x : Int) - 1 := by
  have hp1 := hp.1
  have h1 : (p : Int) ∣ x * (iv p x : Int) - x * x ^ (p - 2 + (p - 1) * (2 / p)) := cong_mul (by simp) (pw_cong x _ (by omega))
  refine cong_tr h1 ?_
  rw [Int.mul_comm, ← Int.pow_succ]
  have h2 : (p : Int) ∣ (x ^ (p - 1) - 1) := by
    have hf := fermat hp (rs x p)
    have h3 : (p : Int) ∣ (rs x p : Int) ^ p - (rs x p : Int) := by
      have h4 : (p : Int) ∣ ((rs x p ^ p : Nat) : Int) - ((rs x p : Nat) : Int) := by
        have e1 := mod_cong (p := p) ((rs x p ^ p : Nat) : Int)
        have e2 := mod_cong (p := p) ((rs x p : Nat) : Int)
        have e3 : ((rs x p ^ p : Nat) : Int) % (p : Int) = ((rs x p : Nat) : Int) % (p : Int) := by
          rw [← Int.natCast_emod, ← Int.natCast_emod, hf]
        rw [e3] at e1
        exact cong_tr (cong_sy e1) e2
      rwa [natpow_cast] at h4
    have h5 : (p : Int) ∣ x ^ p - x := cong_tr (cong_sy (pow_mod x (by omega) p)) (cong_tr h3 (rs_cong (by omega) x))
    have e : x ^ p - x = x * (x ^ (p - 1) - 1) := by
      obtain ⟨k, rfl⟩ : ∃ k, p = k + 1 := ⟨p - 1, by omega⟩
      rw [Nat.add_sub_cancel, Int.pow_succ, Int.mul_sub, Int.mul_comm (x ^ k)]; omega
    rw [e] at h5
    rcases int_dvd_mul hp h5 with h6 | h6
    · exact absurd h6 h
    · exact h6
  by_cases e2 : p = 2
  · subst e2
    have h3 : (2 : Int) ∣ x - 1 := by
      have e1 : x ^ (2 - 1) = x := by show x ^ 1 = x; rw [Int.pow_succ, Int.pow_zero, Int.one_mul]
      rw [e1] at h2; exact h2
    have h4 := cong_mul h3 h3
    have e : x ^ (2 - 2 + (2 - 1) * (2 / 2)).succ = x * x := by
      show x ^ 2 = _
      rw [Int.pow_succ, Int.pow_succ, Int.pow_zero, Int.one_mul]
    rw [e]
    simpa using h4
  · rw [Nat.div_eq_of_lt (by omega), Nat.mul_zero, Nat.add_zero, show (p - 2).succ = p - 1 by omega]
    exact h2

theorem iv_uniq {p : Nat} (hp : Pr p) {x y : Int} (h : ¬ (p : Int) ∣ x) (hy : 0 ≤ y ∧ y < (p : Int)) (h1 : (p : Int) ∣ y * x - 1) : y = (iv p x : Int) := by
  have hp1 := hp.1
  have h2 := iv_ok hp h
  have h3 : (p : Int) ∣ x * (y - (iv p x : Int)) := by
    have := Int.dvd_sub h1 h2
    rwa [show y * x - 1 - (x * (iv p x : Int) - 1) = x * (y - (iv p x : Int)) by rw [Int.mul_sub, Int.mul_comm]; omega] at this
  have hl := iv_lt (p := p) (by omega) x
  rcases int_dvd_mul hp h3 with h4 | h4
  · exact absurd h4 h
  · exact small_of h4 hy ⟨by omega, by omega⟩

/-! ### quotients -/

def DivIs (p : Nat) (a b q r : List Int) : Prop := Cn p q ∧ Cn p r ∧ r.length < b.length ∧ Q p a (padd (pmul q b) r)

theorem DivIs.short {p : Nat} {a b : List Int} (ha : Cn p a) (h : a.length < b.length) : DivIs p a b [] a := ⟨Cn.nil p, ha, h, Q.refl p a⟩

theorem DivIs.uniq {p : Nat} (hp : Pr p) {a b q r q' r' : List Int} (hb : Cn p b) (nb : b ≠ []) (h : DivIs p a b q r) (k : DivIs p a b q' r') : q = q' ∧ r = r' :=
  div_uniq hp hb nb h.1 h.2.1 k.1 k.2.1 h.2.2.1 k.2.2.1 (h.2.2.2.symm.trans k.2.2.2)

/-- Above i all is done: the quotient is g there, f is left. -/
def Dst (p : Nat) (a b : List Int) (n i : Nat) (g f : Nat → Int) : Prop :=
  (∀ t, 0 ≤ f t ∧ f t < (p : Int)) ∧ (∀ s, 0 ≤ g s ∧ g s < (p : Int)) ∧ (∀ s, s < i → g s = 0) ∧ (∀ t, i + b.length ≤ t + 1 → f t = 0) ∧
  Q p a (padd (pmul (mk n g) b) (mk a.length f)) ∧ (i = n → f = co a) ∧ (i < n → g (n - 1) ≠ 0)

theorem Dst.start {p : Nat} (hp : 1 ≤ p) {a b : List Int} (ha : Cn p a) {n : Nat} (hn : a.length ≤ n + b.length - 1) (nb : b ≠ []) : Dst p a b n n (fun _ => 0) (co a) := by
  have lb := pos_of_ne nb
  refine ⟨fun t => ha.bd hp t, fun s => ⟨Int.le_refl _, by show (0 : Int) < p; omega⟩, fun s _ => rfl, fun t ht => co_over (by omega), fun t => ?_, fun _ => rfl, fun h => absurd h (by omega)⟩
  rw [co_padd, mk_of]
  have h0 : co (pmul (mk n (fun _ => 0)) b) t = 0 := by
    rw [← su_pt _ b t (n := n) (by rw [mk_length]; omega)]
    rw [su_stop (m := 0) (Nat.zero_le _) (fun s _ hs => by unfold pt; split <;> simp [co_mk])]; rfl
  rw [h0]; simp

/-- What is left while a multiple of b is taken away. -/
def dvf (p : Nat) (b : List Int) (c : Int) (i : Nat) (f : Nat → Int) (j : Nat) : Nat → Int := fun t => if i ≤ t ∧ t < i + j then (rs (f t - c * co b (t - i)) p : Int) else f t

theorem dvf_zero (p : Nat) (b : List Int) (c : Int) (i : Nat) (f : Nat → Int) : dvf p b c i f 0 = f := by
  funext t; unfold dvf; rw [if_neg (by omega)]

theorem dvf_at (p : Nat) (b : List Int) (c : Int) (i : Nat) (f : Nat → Int) (j : Nat) : dvf p b c i f j (i + j) = f (i + j) := by
  unfold dvf; rw [if_neg (by omega)]

theorem dvf_bd {p : Nat} (hp : 1 ≤ p) (b : List Int) (c : Int) (i : Nat) {f : Nat → Int} (hf : ∀ t, 0 ≤ f t ∧ f t < (p : Int)) (j t : Nat) : 0 ≤ dvf p b c i f j t ∧ dvf p b c i f j t < (p : Int) := by
  unfold dvf; split
  · exact rs_bd hp _
  · exact hf t

theorem dvf_step (p : Nat) (b : List Int) (c : Int) (i : Nat) (f : Nat → Int) (j : Nat) : up1 (dvf p b c i f j) (i + j) (rs (f (i + j) - c * co b j) p : Int) = dvf p b c i f (j + 1) := by
  funext t
  by_cases h : t = i + j
  · subst h
    rw [up1_self]; unfold dvf
    rw [if_pos (by omega), show i + j - i = j by omega]
  · rw [up1_other _ _ h]; unfold dvf
    by_cases h2 : i ≤ t ∧ t < i + j
    · rw [if_pos h2, if_pos (by omega)]
    · rw [if_neg h2, if_neg (by omega)]

theorem Dst.next {p : Nat} (hp : Pr p) {a b : List Int} (ha : Cn p a) (hb : Cn p b) (na : a ≠ []) (nb : b ≠ []) {n i : Nat} {g f : Nat → Int} (hn : n + b.length = a.length + 1) (hi : i < n) (h : Dst p a b n (i + 1) g f)
    {c : Int} (hc : c = f (i + b.length - 1) * (iv p (co b (b.length - 1)) : Int) % (p : Int)) :
    Dst p a b n i (up1 g i c) (dvf p b c i f b.length) := by
  have hp1 := hp.1
  have lb := pos_of_ne nb
  have la := pos_of_ne na
  obtain ⟨h1, h2, h3, h4, h5, h6, h7⟩ := h
  have cb : 0 ≤ c ∧ c < (p : Int) := by rw [hc]; exact mod_bd (by omega) _
  have ht := hb.top (by omega) nb
  have hinv := iv_ok hp ht
  refine ⟨fun t => dvf_bd (by omega) b c i h1 _ t, fun s => ?_, fun s hs => ?_, fun t ht' => ?_, fun t => ?_, fun e => absurd e (by omega), fun _ => ?_⟩
  · unfold up1; split
    · exact cb
    · exact h2 s
  · rw [up1_other _ _ (by omega)]; exact h3 s (by omega)
  · by_cases e : t = i + b.length - 1
    · subst e
      unfold dvf
      rw [if_pos (by omega), show i + b.length - 1 - i = b.length - 1 by omega]
      have hd : (p : Int) ∣ f (i + b.length - 1) - c * co b (b.length - 1) := by
        have e1 : (p : Int) ∣ c * co b (b.length - 1) - f (i + b.length - 1) * (iv p (co b (b.length - 1)) : Int) * co b (b.length - 1) := cong_mul (by rw [hc]; exact mod_cong _) (by simp)
        have e2 : (p : Int) ∣ f (i + b.length - 1) * (co b (b.length - 1) * (iv p (co b (b.length - 1)) : Int)) - f (i + b.length - 1) * 1 := cong_mul (by simp) hinv
        rw [Int.mul_assoc, Int.mul_comm (iv p (co b (b.length - 1)) : Int)] at e1
        have := cong_sy (cong_tr e1 e2)
        rwa [Int.mul_one] at this
      rw [rs_zero (by omega) hd]; rfl
    · unfold dvf
      rw [if_neg (by omega)]
      exact h4 t (by omega)
  · have hq := h5 t
    rw [co_padd] at hq ⊢
    have e1 : co (pmul (mk n (up1 g i c)) b) t = co (pmul (mk n g) b) t + (if i ≤ t then c * co b (t - i) else 0) := by
      rw [← su_pt (mk n (up1 g i c)) b t (n := n) (by rw [mk_length]; omega), ← su_pt (mk n g) b t (n := n) (by rw [mk_length]; omega)]
      rw [su_up (i := i) (f := pt (mk n g) b t) (g := pt (mk n (up1 g i c)) b t) (fun s hs => by
        unfold pt; rw [co_mk, co_mk, up1_other _ _ hs]) (by
        unfold pt; rw [co_mk, if_pos hi, h3 i (by omega)]; split <;> simp) n, if_pos hi]
      congr 1
      unfold pt
      rw [co_mk, if_pos hi, up1_self]
    have e2 : (p : Int) ∣ co (mk a.length (dvf p b c i f b.length)) t + (if i ≤ t then c * co b (t - i) else 0) - co (mk a.length f) t := by
      rw [co_mk, co_mk]
      by_cases hta : t < a.length
      · rw [if_pos hta, if_pos hta]
        unfold dvf
        by_cases hr : i ≤ t ∧ t < i + b.length
        · rw [if_pos hr, if_pos hr.1]
          have := rs_cong (p := p) (by omega) (f t - c * co b (t - i))
          rwa [show (rs (f t - c * co b (t - i)) p : Int) - (f t - c * co b (t - i)) = (rs (f t - c * co b (t - i)) p : Int) + c * co b (t - i) - f t by omega] at this
        · rw [if_neg hr]
          by_cases h8 : i ≤ t
          · rw [if_pos h8, co_over (l := b) (by omega)]; simp
          · rw [if_neg h8]; simp
      · rw [if_neg hta, if_neg hta]
        by_cases h8 : i ≤ t
        · rw [if_pos h8, co_over (l := b) (by omega)]; simp
        · rw [if_neg h8]; simp
    rw [e1]
    have := Int.dvd_sub hq e2
    generalize (if i ≤ t then c * co b (t - i) else 0) = z at *
    rwa [show co a t - (co (pmul (mk n g) b) t + co (mk a.length f) t) - (co (mk a.length (dvf p b c i f b.length)) t + z - co (mk a.length f) t) = co a t - (co (pmul (mk n g) b) t + z + co (mk a.length (dvf p b c i f b.length)) t) by omega] at this
  · by_cases e : i = n - 1
    · subst e
      rw [up1_self, hc]
      rw [h6 (by omega), show n - 1 + b.length - 1 = a.length - 1 by omega]
      intro e0
      have hd : (p : Int) ∣ co a (a.length - 1) * (iv p (co b (b.length - 1)) : Int) := Int.dvd_of_emod_eq_zero e0
      rcases int_dvd_mul hp hd with hd | hd
      · exact ha.top (by omega) na hd
      · have h9 : (p : Int) ∣ co b (b.length - 1) * (iv p (co b (b.length - 1)) : Int) := Int.dvd_mul_of_dvd_right hd
        have h8 := Int.dvd_sub h9 hinv
        rw [show ∀ x : Int, x - (x - 1) = 1 from fun x => by omega] at h8
        have := Int.le_of_dvd (by omega) h8
        omega
    · rw [up1_other _ _ (by omega)]
      exact h7 (by omega)

theorem Dst.done {p : Nat} (hp : 1 ≤ p) {a b : List Int} (nb : b ≠ []) {n : Nat} {g f : Nat → Int} (hn : 1 ≤ n) (h : Dst p a b n 0 g f) : DivIs p a b (mk n g) (tr (mk a.length f)) := by
  have lb := pos_of_ne nb
  obtain ⟨h1, h2, h3, h4, h5, h6, h7⟩ := h
  have hr : Cn p (tr (mk a.length f)) := tr_cn (Bd.mk fun i _ => h1 i)
  refine ⟨⟨Bd.mk fun i _ => h2 i, fun _ => ?_⟩, hr, ?_, h5.trans ((Q.refl p _).padd (tr_q p _).symm)⟩
  · rw [mk_length, co_mk, if_pos (by omega)]
    exact h7 (by omega)
  · have := hr.len_le hp (k := b.length - 1) (fun i hi => by
      rw [co_tr, co_mk, h4 i (by omega)]; simp)
    omega

/-! ### values -/

theorem drop_ev (x : Int) {a : List Int} {k : Nat} (h : k < a.length) : ev (a.drop k) x = co a k + x * ev (a.drop (k + 1)) x := by
  rw [List.drop_eq_getElem_cons h]
  show a[k] + x * ev (a.drop (k + 1)) x = _
  simp [co, List.getD, h]

def hv (p : Nat) (a : List Int) (x : Int) (k : Nat) : Nat := rs (ev (a.drop k) x) p

theorem hv_end {p : Nat} (hp : 1 ≤ p) (a : List Int) (x : Int) : hv p a x a.length = 0 := by
  unfold hv
  rw [List.drop_of_length_le (Nat.le_refl _)]
  exact rs_zero hp (by simp [ev])

theorem hv_step {p : Nat} (hp : 1 ≤ p) (a : List Int) (x : Int) {k : Nat} (h : k < a.length) : rs ((hv p a x (k + 1) : Int) * x + co a k) p = hv p a x k := by
  unfold hv
  refine rs_of hp ?_
  rw [drop_ev x h]
  have h1 := cong_mul (rs_cong hp (ev (a.drop (k + 1)) x)) (show (p : Int) ∣ x - x by simp)
  rw [Int.mul_comm (ev (a.drop (k + 1)) x)] at h1
  rw [Int.add_comm (co a k)]
  exact cong_add h1 (by simp)

theorem hv_zero (p : Nat) (a : List Int) (x : Int) : hv p a x 0 = rs (ev a x) p := rfl

def vl (p : Nat) (a : List Int) (x : Int) (k : Nat) : Int := ev (a.take k) x % (p : Int)

theorem vl_zero (p : Nat) (a : List Int) (x : Int) : vl p a x 0 = 0 := by simp [vl, ev]

theorem vl_step {p : Nat} (hp : 1 ≤ p) (a : List Int) (x : Int) {k : Nat} (h : k < a.length) : (vl p a x k + co a k * (pw x k p : Int)) % (p : Int) = vl p a x (k + 1) := by
  unfold vl
  rw [ev_take x a k h, Int.emod_add_emod]
  refine Int.emod_eq_emod_iff_emod_sub_eq_zero.2 (Int.emod_eq_zero_of_dvd ?_)
  exact cong_add (by simp) (cong_mul (by simp) (pw_cong x k hp))

theorem vl_done {p : Nat} (hp : 1 ≤ p) (a : List Int) (x : Int) : vl p a x a.length = (rs (ev a x) p : Int) := by
  unfold vl
  rw [List.take_of_length_le (Nat.le_refl _), rs_cast _ hp]

theorem vl_bd {p : Nat} (hp : 1 ≤ p) (a : List Int) (x : Int) (k : Nat) : 0 ≤ vl p a x k ∧ vl p a x k < (p : Int) := mod_bd hp _

end Go.Proofs.Ytjpmkcijkcnfiaa.Num34
