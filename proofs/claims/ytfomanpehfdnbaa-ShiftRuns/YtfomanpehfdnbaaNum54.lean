/-
  Plain arithmetic: sums of equations over bits; of several rules with as many taps the one whose first taps are not set.
-/
import Derived.Test.YtfomanpehfdnbaaNum44
namespace Go.Proofs.Ytfomanpehfdnbaa.Num54
set_option linter.unusedVariables false
open Go.Proofs.Ytfomanpehfdnbaa.Num44

/-! ### equations -/

/-- A row with n unknowns says something of x: its last bit is the sum. -/
def Eqn (n : Nat) (r x : Nat → Bool) : Prop := xs n (fun k => r k && x k) = r n

/-- All rows hold. -/
def Sv (n : Nat) (S : List (Nat → Bool)) (x : Nat → Bool) : Prop := ∀ r ∈ S, Eqn n r x

/-- A row, with another one added where it has a bit at c. -/
def adr (p : Nat → Bool) (c : Nat) (r : Nat → Bool) : Nat → Bool := fun k => xor (r k) (r c && p k)

theorem eqn_congr {n : Nat} {r r' x : Nat → Bool} (h : ∀ k, k ≤ n → r k = r' k) : Eqn n r x ↔ Eqn n r' x := by
  unfold Eqn
  rw [h n (Nat.le_refl n), xs_congr (f := fun k => r k && x k) (g := fun k => r' k && x k) (fun k hk => by rw [h k (by omega)])]

theorem xs_adr (n : Nat) (p r x : Nat → Bool) (c : Nat) : xs n (fun k => adr p c r k && x k) = xor (xs n (fun k => r k && x k)) (r c && xs n (fun k => p k && x k)) := by
  rw [← xs_and, ← xs_xor]
  refine xs_congr (fun k _ => ?_)
  unfold adr
  cases r k <;> cases x k <;> cases r c <;> cases p k <;> rfl

theorem eqn_adr {n c : Nat} {p r x : Nat → Bool} (hp : Eqn n p x) : Eqn n (adr p c r) x ↔ Eqn n r x := by
  have hp' : xs n (fun k => p k && x k) = p n := hp
  unfold Eqn
  rw [xs_adr, hp']
  show xor _ _ = xor (r n) (r c && p n) ↔ _
  generalize xs n (fun k => r k && x k) = a
  cases a <;> cases r n <;> cases r c <;> cases p n <;> decide

/-- The bit at c put in. -/
def put (x : Nat → Bool) (c : Nat) (v : Bool) : Nat → Bool := fun k => if k = c then v else x k

theorem eqn_put {n c : Nat} {r x : Nat → Bool} (h : r c = false) (v : Bool) : Eqn n r (put x c v) ↔ Eqn n r x := by
  unfold Eqn
  rw [xs_congr (f := fun k => r k && put x c v k) (g := fun k => r k && x k) (fun k _ => ?_)]
  unfold put
  by_cases e : k = c
  · rw [e, h]; rfl
  · rw [if_neg e]

theorem xs_flip {c : Nat} : ∀ {n : Nat} {f g : Nat → Bool}, c < n → (∀ k, k ≠ c → f k = g k) → f c = !g c → xs n f = !xs n g
  | n + 1, f, g, hc, h, h2 => by
    show xor (xs n f) (f n) = !xor (xs n g) (g n)
    by_cases e : n = c
    · subst e
      rw [h2, xs_congr (fun k hk => h k (by omega))]
      cases xs n g <;> cases g n <;> rfl
    · rw [xs_flip (by omega) h h2, h n e]
      cases xs n g <;> cases g n <;> rfl

theorem put_ex {n c : Nat} {p : Nat → Bool} (hc : c < n) (hp : p c = true) (x : Nat → Bool) : ∃ v, Eqn n p (put x c v) := by
  have hf : xs n (fun k => p k && put x c true k) = !xs n (fun k => p k && put x c false k) := by
    refine xs_flip hc (fun k hk => ?_) ?_
    · show (p k && put x c true k) = (p k && put x c false k)
      unfold put; rw [if_neg hk, if_neg hk]
    · show (p c && put x c true c) = !(p c && put x c false c)
      unfold put; rw [if_pos rfl, if_pos rfl, hp]; rfl
  by_cases h : Eqn n p (put x c false)
  · exact ⟨false, h⟩
  · refine ⟨true, ?_⟩
    unfold Eqn at h ⊢
    rw [hf]
    generalize xs n (fun k => p k && put x c false k) = a at h
    cases a <;> cases hq : p n <;> simp_all

/-- Nothing stands ahead of c. -/
def Zr (S : List (Nat → Bool)) (c : Nat) : Prop := ∀ r ∈ S, ∀ k, k < c → r k = false

theorem zr_skip {S : List (Nat → Bool)} {c : Nat} (h : Zr S c) (h2 : ∀ r ∈ S, r c = false) : Zr S (c + 1) := fun r hr k hk => by
  by_cases e : k = c
  · rw [e]; exact h2 r hr
  · exact h r hr k (by omega)

/-- One unknown goes, with one row that has it. -/
theorem sv_step {n c : Nat} {S S' : List (Nat → Bool)} {p : Nat → Bool} (hc : c < n) (hp : p ∈ S) (hpc : p c = true) (h1 : ∀ r ∈ S, r = p ∨ adr p c r ∈ S') (h2 : ∀ r' ∈ S', ∃ r ∈ S, r' = adr p c r) : (∃ x, Sv n S x) ↔ ∃ x, Sv n S' x := by
  constructor
  · rintro ⟨x, hx⟩
    refine ⟨x, fun r' hr' => ?_⟩
    obtain ⟨r, hr, rfl⟩ := h2 r' hr'
    exact (eqn_adr (hx p hp)).2 (hx r hr)
  · rintro ⟨x, hx⟩
    obtain ⟨v, hv⟩ := put_ex hc hpc x
    refine ⟨put x c v, fun r hr => ?_⟩
    rcases h1 r hr with rfl | h
    · exact hv
    · refine (eqn_adr (c := c) hv).1 ((eqn_put ?_ v).2 (hx _ h))
      unfold adr
      rw [hpc]
      cases r c <;> rfl

theorem zr_step {c : Nat} {S S' : List (Nat → Bool)} {p : Nat → Bool} (hz : Zr S c) (hp : p ∈ S) (hpc : p c = true) (h2 : ∀ r' ∈ S', ∃ r ∈ S, r' = adr p c r) : Zr S' (c + 1) := fun r' hr' k hk => by
  obtain ⟨r, hr, rfl⟩ := h2 r' hr'
  unfold adr
  by_cases e : k = c
  · rw [e, hpc]; cases r c <;> rfl
  · rw [hz r hr k (by omega), hz p hp k (by omega)]; cases r c <;> rfl

/-- With no unknown left each row's last bit must not be set. -/
theorem sv_end {n : Nat} {S : List (Nat → Bool)} (h : Zr S n) : (∃ x, Sv n S x) ↔ ∀ r ∈ S, r n = false := by
  have e : ∀ r ∈ S, ∀ x : Nat → Bool, xs n (fun k => r k && x k) = false := fun r hr x => xs_false (fun k hk => by rw [h r hr k hk]; rfl)
  constructor
  · rintro ⟨x, hx⟩ r hr
    have := hx r hr
    unfold Eqn at this
    rw [← this, e r hr x]
  · exact fun h2 => ⟨fun _ => false, fun r hr => by unfold Eqn; rw [e r hr, h2 r hr]⟩

/-! ### rules that begin with some taps -/

/-- T taps make the first N bits of l. -/
def Makes (l : Nat → Bool) (T N : Nat) (t : Nat → Bool) : Prop := ∀ i, T ≤ i → i < N → l i = xs T (fun k => t k && l (i - k - 1))

theorem makes_congr {l : Nat → Bool} {T N : Nat} {t t' : Nat → Bool} (h : ∀ k, k < T → t k = t' k) : Makes l T N t ↔ Makes l T N t' := by
  unfold Makes
  constructor
  · intro H i h1 h2
    rw [H i h1 h2]; exact xs_congr (fun k hk => by rw [h k hk])
  · intro H i h1 h2
    rw [H i h1 h2]; exact xs_congr (fun k hk => by rw [h k hk])

/-- The row of the i-th bit, with the first m taps given. -/
def rowOf (l b : Nat → Bool) (m T i : Nat) : Nat → Bool := fun k => if k < T - m then l (i - (m + k) - 1) else xor (l i) (xs m (fun k => b k && l (i - k - 1)))

/-- The taps: given ones, then those that are asked for. -/
def join (b x : Nat → Bool) (m : Nat) : Nat → Bool := fun k => if k < m then b k else x (k - m)

theorem row_eqn {l b x : Nat → Bool} {m T i : Nat} (hm : m ≤ T) : Eqn (T - m) (rowOf l b m T i) x ↔ l i = xs T (fun k => join b x m k && l (i - k - 1)) := by
  have e1 : xs (T - m) (fun k => rowOf l b m T i k && x k) = xs (T - m) (fun j => join b x m (m + j) && l (i - (m + j) - 1)) := xs_congr (fun k hk => by
    unfold rowOf join
    rw [if_pos hk, if_neg (by omega), Nat.add_sub_cancel_left]
    exact Bool.and_comm _ _)
  have e2 : xs m (fun k => b k && l (i - k - 1)) = xs m (fun k => join b x m k && l (i - k - 1)) := xs_congr (fun k hk => by
    unfold join; rw [if_pos hk])
  have e3 := xs_add m (fun k => join b x m k && l (i - k - 1)) (T - m)
  rw [Nat.add_sub_cancel' hm] at e3
  have e4 : rowOf l b m T i (T - m) = xor (l i) (xs m (fun k => b k && l (i - k - 1))) := by unfold rowOf; rw [if_neg (Nat.lt_irrefl _)]
  unfold Eqn
  rw [e1, e4, e2, e3]
  generalize xs m (fun k => join b x m k && l (i - k - 1)) = u
  generalize xs (T - m) (fun j => join b x m (m + j) && l (i - (m + j) - 1)) = v
  cases u <;> cases v <;> cases l i <;> decide

/-- All rows of a list. -/
def rowsOf (l b : Nat → Bool) (m T N : Nat) : List (Nat → Bool) := (List.range (N - T)).map (fun j => rowOf l b m T (T + j))

theorem rows_makes {l b : Nat → Bool} {m T N : Nat} (hm : m ≤ T) : (∃ x, Sv (T - m) (rowsOf l b m T N) x) ↔ ∃ t, Makes l T N t ∧ ∀ k, k < m → t k = b k := by
  constructor
  · rintro ⟨x, hx⟩
    refine ⟨join b x m, fun i h1 h2 => (row_eqn hm).1 (hx _ (List.mem_map.2 ⟨i - T, List.mem_range.2 (by omega), by rw [Nat.add_sub_cancel' h1]⟩)), fun k hk => ?_⟩
    unfold join; rw [if_pos hk]
  · rintro ⟨t, ht, hb⟩
    refine ⟨fun k => t (m + k), fun r hr => ?_⟩
    obtain ⟨j, hj, rfl⟩ := List.mem_map.1 hr
    have hj := List.mem_range.1 hj
    refine (row_eqn hm).2 ?_
    rw [ht (T + j) (by omega) (by omega)]
    refine xs_congr (fun k _ => ?_)
    unfold join
    by_cases e : k < m
    · rw [if_pos e, hb k e]
    · rw [if_neg e]
      show _ = (t (m + (k - m)) && _)
      rw [Nat.add_sub_cancel' (by omega)]

/-! ### the one whose first taps are not set -/

/-- T taps make it, and none whose first tap that differs is not set. -/
def FirstOf (l : Nat → Bool) (T N : Nat) (t : Nat → Bool) : Prop := Makes l T N t ∧ ∀ j, j < T → t j = true → ¬ ∃ t', Makes l T N t' ∧ (∀ k, k < j → t' k = t k) ∧ t' j = false

theorem FirstOf.uniq {l : Nat → Bool} {T N : Nat} {t t' : Nat → Bool} (h : FirstOf l T N t) (h' : FirstOf l T N t') : ∀ j, j < T → t j = t' j := by
  have H : ∀ n, n ≤ T → ∀ j, j < n → t j = t' j := by
    intro n
    induction n with
    | zero => intro _ j hj; omega
    | succ n ih =>
      intro hn j hj
      by_cases e : j = n
      · subst e
        have hk := ih (by omega)
        cases h1 : t j with
        | true =>
          cases h2 : t' j with
          | true => rfl
          | false => exact absurd ⟨t', h'.1, fun k hk' => (hk k hk').symm, h2⟩ (h.2 j (by omega) h1)
        | false =>
          cases h2 : t' j with
          | false => rfl
          | true => exact absurd ⟨t, h.1, hk, h1⟩ (h'.2 j (by omega) h2)
      · exact ih (by omega) j (by omega)
  exact H T (Nat.le_refl T)

/-- Fewest taps, and of these the first. -/
def ShortIs (l : Nat → Bool) (N T : Nat) (t : Nat → Bool) : Prop := FirstOf l T N t ∧ ∀ T' t', Makes l T' N t' → T ≤ T'

theorem ShortIs.uniq {l : Nat → Bool} {N T T' : Nat} {t t' : Nat → Bool} (h : ShortIs l N T t) (h' : ShortIs l N T' t') : T = T' ∧ ∀ j, j < T → t j = t' j := by
  have e : T = T' := Nat.le_antisymm (h.2 T' t' h'.1.1) (h'.2 T t h.1.1)
  subst e
  exact ⟨rfl, h.1.uniq h'.1⟩

/-- One tap more is found. -/
theorem first_step {l b : Nat → Bool} {T N m : Nat} (hm : m < T) (he : ∃ t, Makes l T N t ∧ ∀ k, k < m → t k = b k) :
    ((∃ t, Makes l T N t ∧ ∀ k, k < m + 1 → t k = put b m false k) → ∃ t, Makes l T N t ∧ ∀ k, k < m + 1 → t k = put b m false k) ∧
    (¬ (∃ t, Makes l T N t ∧ ∀ k, k < m + 1 → t k = put b m false k) → (∃ t, Makes l T N t ∧ ∀ k, k < m + 1 → t k = put b m true k) ∧ ¬ ∃ t', Makes l T N t' ∧ (∀ k, k < m → t' k = b k) ∧ t' m = false) := by
  refine ⟨id, fun hno => ?_⟩
  have hno2 : ¬ ∃ t', Makes l T N t' ∧ (∀ k, k < m → t' k = b k) ∧ t' m = false := fun ⟨t', h1, h2, h3⟩ => hno ⟨t', h1, fun k hk => by
    unfold put
    by_cases e : k = m
    · rw [if_pos e, e, h3]
    · rw [if_neg e]; exact h2 k (by omega)⟩
  refine ⟨?_, hno2⟩
  obtain ⟨t, h1, h2⟩ := he
  refine ⟨t, h1, fun k hk => ?_⟩
  unfold put
  by_cases e : k = m
  · rw [if_pos e, e]
    cases h : t m with
    | true => rfl
    | false => exact absurd ⟨t, h1, h2, h⟩ hno2
  · rw [if_neg e]; exact h2 k (by omega)

/-- A rule as lists have it is one as Massey has it. -/
theorem makes_mk {l : Nat → Bool} {T N : Nat} {t : Nat → Bool} : Makes l T N t ↔ Mk l (fun j => if j = 0 then true else if j ≤ T then t (j - 1) else false) T N := by
  have key : ∀ i, T ≤ i → Dl l (fun j => if j = 0 then true else if j ≤ T then t (j - 1) else false) T i = xor (l i) (xs T (fun k => t k && l (i - k - 1))) := fun i hi => by
    unfold Dl
    rw [xs_front]
    congr 1
    refine xs_congr (fun k hk => ?_)
    show ((if k + 1 = 0 then true else if k + 1 ≤ T then t (k + 1 - 1) else false) && l (i - (k + 1))) = _
    rw [if_neg (by omega), if_pos (by omega), Nat.add_sub_cancel, show i - (k + 1) = i - k - 1 by omega]
  constructor
  · intro h i h1 h2
    rw [key i h1, h i h1 h2]
    exact Bool.xor_self _
  · intro h i h1 h2
    have := h i h1 h2
    rw [key i h1] at this
    generalize xs T (fun k => t k && l (i - k - 1)) = v at *
    cases hl : l i <;> cases v <;> simp_all

theorem makes_rl (T : Nat) (t : Nat → Bool) : Rl (fun j => if j = 0 then true else if j ≤ T then t (j - 1) else false) T := ⟨rfl, fun j hj => by
  show (if j = 0 then true else if j ≤ T then t (j - 1) else false) = false
  rw [if_neg (by omega), if_neg (by omega)]⟩

end Go.Proofs.Ytfomanpehfdnbaa.Num54
