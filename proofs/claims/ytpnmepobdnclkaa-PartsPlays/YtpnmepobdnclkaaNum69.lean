/-
  Plain arithmetic of many who reckon together: what is wrong with gates, their values, what is drawn, and all shares.
-/
import Derived.Test.YtpnmepobdnclkaaNum61
namespace Go.Proofs.Ytpnmepobdnclkaa.Num69
set_option linter.unusedVariables false
open Go.Proofs.Ytpnmepobdnclkaa.Num Go.Proofs.Ytpnmepobdnclkaa.Num13 Go.Proofs.Ytpnmepobdnclkaa.Num16 Go.Proofs.Ytpnmepobdnclkaa.Num17 Go.Proofs.Ytpnmepobdnclkaa.Num34 Go.Proofs.Ytpnmepobdnclkaa.Num35 Go.Proofs.Ytpnmepobdnclkaa.Num39 Go.Proofs.Ytpnmepobdnclkaa.Num61
open Go.Proofs.Ytpnmepobdnclkaa.Num7 (ev)

/-! ### what is wrong with gates -/

/-- The code of gate i: of ni inputs; its kind, A, B, N are F i 0 to F i 3. -/
def gk (p : Int) (ni : Nat) (F : Nat → Nat → Int) (i : Nat) : Int :=
  if F i 0 < 1 ∨ 4 < F i 0 then 6
  else if F i 0 = 1 then (if 0 ≤ F i 1 ∧ F i 1 < (ni : Int) then 0 else 3)
  else if F i 0 = 2 then (if 0 ≤ F i 3 ∧ F i 3 < p then 0 else 2)
  else if (0 ≤ F i 1 ∧ F i 1 < (i : Int)) ∧ 0 ≤ F i 2 ∧ F i 2 < (i : Int) then 0 else 3

/-- A gate that may be. -/
def GOk (p : Int) (ni : Nat) (F : Nat → Nat → Int) (i : Nat) : Prop :=
  (F i 0 = 1 ∧ ∃ a : Nat, F i 1 = (a : Int) ∧ a < ni) ∨ (F i 0 = 2 ∧ 0 ≤ F i 3 ∧ F i 3 < p) ∨
  (F i 0 = 3 ∧ ∃ a b : Nat, F i 1 = (a : Int) ∧ F i 2 = (b : Int) ∧ a < i ∧ b < i) ∨ (F i 0 = 4 ∧ ∃ a b : Nat, F i 1 = (a : Int) ∧ F i 2 = (b : Int) ∧ a < i ∧ b < i)

theorem gk_zero {p : Int} {ni : Nat} {F : Nat → Nat → Int} {i : Nat} : gk p ni F i = 0 ↔ GOk p ni F i := by
  unfold gk GOk
  by_cases h0 : F i 0 < 1 ∨ 4 < F i 0
  · rw [if_pos h0]
    constructor
    · intro h; omega
    · rintro (⟨h, _⟩ | ⟨h, _⟩ | ⟨h, _⟩ | ⟨h, _⟩) <;> omega
  rw [if_neg h0]
  by_cases h1 : F i 0 = 1
  · rw [if_pos h1]
    by_cases h2 : 0 ≤ F i 1 ∧ F i 1 < (ni : Int)
    · rw [if_pos h2]
      exact ⟨fun _ => .inl ⟨h1, (F i 1).toNat, by omega, by omega⟩, fun _ => rfl⟩
    · rw [if_neg h2]
      constructor
      · intro h; omega
      · rintro (⟨_, a, h, h'⟩ | ⟨h, _⟩ | ⟨h, _⟩ | ⟨h, _⟩) <;> omega
  rw [if_neg h1]
  by_cases h2 : F i 0 = 2
  · rw [if_pos h2]
    by_cases h3 : 0 ≤ F i 3 ∧ F i 3 < p
    · rw [if_pos h3]
      exact ⟨fun _ => .inr (.inl ⟨h2, h3⟩), fun _ => rfl⟩
    · rw [if_neg h3]
      constructor
      · intro h; omega
      · rintro (⟨h, _⟩ | ⟨_, h⟩ | ⟨h, _⟩ | ⟨h, _⟩) <;> omega
  rw [if_neg h2]
  by_cases h3 : (0 ≤ F i 1 ∧ F i 1 < (i : Int)) ∧ 0 ≤ F i 2 ∧ F i 2 < (i : Int)
  · rw [if_pos h3]
    refine ⟨fun _ => ?_, fun _ => rfl⟩
    have e : ∃ a b : Nat, F i 1 = (a : Int) ∧ F i 2 = (b : Int) ∧ a < i ∧ b < i := ⟨(F i 1).toNat, (F i 2).toNat, by omega, by omega, by omega, by omega⟩
    rcases (by omega : F i 0 = 3 ∨ F i 0 = 4) with h | h
    · exact .inr (.inr (.inl ⟨h, e⟩))
    · exact .inr (.inr (.inr ⟨h, e⟩))
  · rw [if_neg h3]
    constructor
    · intro h; omega
    · rintro (⟨h, _⟩ | ⟨h, _⟩ | ⟨_, a, b, h, h', _⟩ | ⟨_, a, b, h, h', _⟩) <;> omega

/-- The code of the first k gates: of the first that has one. -/
def gks (p : Int) (ni : Nat) (F : Nat → Nat → Int) : Nat → Int
  | 0 => 0
  | k + 1 => if gks p ni F k = 0 then gk p ni F k else gks p ni F k

theorem gks_zero {p : Int} {ni : Nat} {F : Nat → Nat → Int} : ∀ {n : Nat}, gks p ni F n = 0 ↔ ∀ i, i < n → GOk p ni F i
  | 0 => ⟨fun _ i hi => absurd hi (by omega), fun _ => rfl⟩
  | n + 1 => by
    have ih := gks_zero (p := p) (ni := ni) (F := F) (n := n)
    show (if gks p ni F n = 0 then gk p ni F n else gks p ni F n) = 0 ↔ _
    by_cases h : gks p ni F n = 0
    · rw [if_pos h, gk_zero]
      constructor
      · intro hg i hi
        by_cases e : i = n
        · subst e; exact hg
        · exact ih.1 h i (by omega)
      · exact fun hg => hg n (by omega)
    · rw [if_neg h]
      exact ⟨fun e => absurd e h, fun hg => absurd (ih.2 fun i hi => hg i (by omega)) h⟩

theorem gks_next {p : Int} {ni : Nat} {F : Nat → Nat → Int} {k : Nat} (h : gks p ni F k = 0) : gks p ni F (k + 1) = gk p ni F k := if_pos h

theorem gks_stop {p : Int} {ni : Nat} {F : Nat → Nat → Int} {k : Nat} (h : gks p ni F k ≠ 0) : ∀ d : Nat, gks p ni F (k + d) = gks p ni F k
  | 0 => rfl
  | d + 1 => by
    have ih := gks_stop h d
    show (if gks p ni F (k + d) = 0 then gk p ni F (k + d) else gks p ni F (k + d)) = _
    rw [if_neg (by rw [ih]; exact h), ih]

theorem gks_first {p : Int} {ni : Nat} {F : Nat → Nat → Int} {k n : Nat} (h : gks p ni F k = 0) (h1 : gk p ni F k ≠ 0) (hk : k < n) : gks p ni F n = gk p ni F k := by
  have e := gks_next h
  have := gks_stop (p := p) (ni := ni) (F := F) (k := k + 1) (by rw [e]; exact h1) (n - (k + 1))
  rw [show k + 1 + (n - (k + 1)) = n by omega] at this
  rw [this, e]

/-! ### values -/

/-- The value of gate k, of the values ahead of it. -/
def vst (P : Nat) (l : List Int) (F : Nat → Nat → Int) (done : List Int) (k : Nat) : Int :=
  if F k 0 = 1 then co l (F k 1).toNat
  else if F k 0 = 2 then F k 3
  else if F k 0 = 3 then (co done (F k 1).toNat + co done (F k 2).toNat) % (P : Int)
  else co done (F k 1).toNat * co done (F k 2).toNat % (P : Int)

/-- The values of the first k gates. -/
def clr (P : Nat) (l : List Int) (F : Nat → Nat → Int) : Nat → List Int
  | 0 => []
  | k + 1 => clr P l F k ++ [vst P l F (clr P l F k) k]

theorem clr_length (P : Nat) (l : List Int) (F : Nat → Nat → Int) : ∀ k, (clr P l F k).length = k
  | 0 => rfl
  | k + 1 => by show (clr P l F k ++ [_]).length = _; simp [clr_length P l F k]

theorem co_left {a b : List Int} {i : Nat} (h : i < a.length) : co (a ++ b) i = co a i := by
  unfold co; simp [List.getD, List.getElem?_append_left h]

theorem co_last (a : List Int) (x : Int) : co (a ++ [x]) a.length = x := by
  unfold co; simp [List.getD]

theorem clr_keep {P : Nat} {l : List Int} {F : Nat → Nat → Int} {k i : Nat} (h : i < k) : ∀ d, co (clr P l F (k + d)) i = co (clr P l F k) i
  | 0 => rfl
  | d + 1 => by
    show co (clr P l F (k + d) ++ [_]) i = _
    rw [co_left (by rw [clr_length]; omega)]
    exact clr_keep h d

theorem clr_at (P : Nat) (l : List Int) (F : Nat → Nat → Int) (k : Nat) : co (clr P l F (k + 1)) k = vst P l F (clr P l F k) k := by
  have := co_last (clr P l F k) (vst P l F (clr P l F k) k)
  rw [clr_length] at this
  exact this

/-! ### what is drawn, and shares -/

/-- The t numbers behind u: 0 where there are no more. -/
def tk (rnd : List Int) (u t : Nat) : List Int := mk t (fun i => co rnd (u + i))

/-- The share of party j: of s, by the t numbers behind u. -/
def shr (P : Nat) (rnd : List Int) (t : Nat) (s : Int) (u j : Nat) : Int := ev (s :: tk rnd u t) (XP j) % (P : Int)

/-- How many of the random numbers were taken ahead of gate k. -/
def us (t : Nat) (F : Nat → Nat → Int) : Nat → Nat
  | 0 => 0
  | k + 1 => us t F k + (if F k 0 = 1 then t else if F k 0 = 4 then (2 * t + 1) * t else 0)

/-- A product's row, when so many parties have shared. -/
def mrow (P : Nat) (rnd : List Int) (t : Nat) (r : Nat → Int) (a b : List Int) (u : Nat) : Nat → Nat → Int
  | 0, _ => 0
  | i + 1, j => (mrow P rnd t r a b u i j + r i * shr P rnd t (co a i * co b i % (P : Int)) (u + i * t) j) % (P : Int)

/-- The i-th row. -/
def rwl (L : List (List Int)) (i : Nat) : List Int := L.getD i []

/-- What all parties have of gate k, of the rows ahead of it. -/
def rst (P t : Nat) (l rnd : List Int) (r : Nat → Int) (F : Nat → Nat → Int) (done : List (List Int)) (k : Nat) : List Int :=
  mk (2 * t + 1) fun j =>
    if F k 0 = 1 then shr P rnd t (co l (F k 1).toNat) (us t F k) j
    else if F k 0 = 2 then F k 3
    else if F k 0 = 3 then (co (rwl done (F k 1).toNat) j + co (rwl done (F k 2).toNat) j) % (P : Int)
    else mrow P rnd t r (rwl done (F k 1).toNat) (rwl done (F k 2).toNat) (us t F k) (2 * t + 1) j

/-- What all parties have of the first k gates. -/
def rows (P t : Nat) (l rnd : List Int) (r : Nat → Int) (F : Nat → Nat → Int) : Nat → List (List Int)
  | 0 => []
  | k + 1 => rows P t l rnd r F k ++ [rst P t l rnd r F (rows P t l rnd r F k) k]

theorem rows_length (P t : Nat) (l rnd : List Int) (r : Nat → Int) (F : Nat → Nat → Int) : ∀ k, (rows P t l rnd r F k).length = k
  | 0 => rfl
  | k + 1 => by show (rows P t l rnd r F k ++ [_]).length = _; simp [rows_length P t l rnd r F k]

theorem rwl_left {a b : List (List Int)} {i : Nat} (h : i < a.length) : rwl (a ++ b) i = rwl a i := by
  unfold rwl; simp [List.getD, List.getElem?_append_left h]

theorem rwl_last (a : List (List Int)) (x : List Int) : rwl (a ++ [x]) a.length = x := by
  unfold rwl; simp [List.getD]

theorem rows_keep {P t : Nat} {l rnd : List Int} {r : Nat → Int} {F : Nat → Nat → Int} {k i : Nat} (h : i < k) : ∀ d, rwl (rows P t l rnd r F (k + d)) i = rwl (rows P t l rnd r F k) i
  | 0 => rfl
  | d + 1 => by
    show rwl (rows P t l rnd r F (k + d) ++ [_]) i = _
    rw [rwl_left (by rw [rows_length]; omega)]
    exact rows_keep h d

theorem rows_at (P t : Nat) (l rnd : List Int) (r : Nat → Int) (F : Nat → Nat → Int) (k : Nat) : rwl (rows P t l rnd r F (k + 1)) k = rst P t l rnd r F (rows P t l rnd r F k) k := by
  have := rwl_last (rows P t l rnd r F k) (rst P t l rnd r F (rows P t l rnd r F k) k)
  rw [rows_length] at this
  exact this

theorem rst_length (P t : Nat) (l rnd : List Int) (r : Nat → Int) (F : Nat → Nat → Int) (done : List (List Int)) (k : Nat) : (rst P t l rnd r F done k).length = 2 * t + 1 := mk_length _ _

theorem rst_co {P t : Nat} {l rnd : List Int} {r : Nat → Int} {F : Nat → Nat → Int} {done : List (List Int)} {k j : Nat} (h : j < 2 * t + 1) : co (rst P t l rnd r F done k) j =
    if F k 0 = 1 then shr P rnd t (co l (F k 1).toNat) (us t F k) j
    else if F k 0 = 2 then F k 3
    else if F k 0 = 3 then (co (rwl done (F k 1).toNat) j + co (rwl done (F k 2).toNat) j) % (P : Int)
    else mrow P rnd t r (rwl done (F k 1).toNat) (rwl done (F k 2).toNat) (us t F k) (2 * t + 1) j := by
  unfold rst; rw [co_mk, if_pos h]

theorem shr_bd {P : Nat} (hP : 1 ≤ P) (rnd : List Int) (t : Nat) (s : Int) (u j : Nat) : 0 ≤ shr P rnd t s u j ∧ shr P rnd t s u j < (P : Int) := mod_bd hP _

theorem mrow_bd {P : Nat} (hP : 1 ≤ P) (rnd : List Int) (t : Nat) (r : Nat → Int) (a b : List Int) (u : Nat) : ∀ i j, 0 ≤ mrow P rnd t r a b u i j ∧ mrow P rnd t r a b u i j < (P : Int)
  | 0, _ => ⟨Int.le_refl _, by show (0 : Int) < _; omega⟩
  | i + 1, j => mod_bd hP _

theorem mrow_sum (P : Nat) (rnd : List Int) (t : Nat) (r : Nat → Int) (a b : List Int) (u : Nat) (j : Nat) : ∀ i, (P : Int) ∣ mrow P rnd t r a b u i j - su (fun i => r i * shr P rnd t (co a i * co b i % (P : Int)) (u + i * t) j) i
  | 0 => by show (P : Int) ∣ 0 - 0; simp
  | i + 1 => cong_tr (mod_same _) (cong_add (mrow_sum P rnd t r a b u j i) (by simp))

theorem tk_length (rnd : List Int) (u t : Nat) : (tk rnd u t).length = t := mk_length _ _

theorem shr_sh (P : Nat) (rnd : List Int) (t n : Nat) (s : Int) (u : Nat) : Sh P t n s (shr P rnd t s u) :=
  sh_split (m := tk rnd u t) (by rw [tk_length]; exact Nat.le_refl _) fun _ _ => rfl

/-! ### all gates -/

/-- What holds of a gate: its value is a rest; its row has one share for each party, each a rest; and they are shares of its value. -/
def One (P t : Nat) (v : Int) (y : List Int) : Prop := (0 ≤ v ∧ v < (P : Int)) ∧ y.length = 2 * t + 1 ∧ (∀ j, j < 2 * t + 1 → 0 ≤ co y j ∧ co y j < (P : Int)) ∧ Sh P t (2 * t + 1) v (co y)

theorem one_step {P t : Nat} (hP : Pr P) (hn : 2 * t + 1 < P) {l rnd : List Int} (hl : ∀ i, i < l.length → 0 ≤ co l i ∧ co l i < (P : Int)) {r : Nat → Int} (hr : ∀ i, i < 2 * t + 1 → JoinIs P XP (dl i) (2 * t + 1) (r i)) {F : Nat → Nat → Int} {k : Nat}
    (hk : GOk (P : Int) l.length F k) {vs : List Int} {ys : List (List Int)} (h : ∀ i, i < k → One P t (co vs i) (rwl ys i)) : One P t (vst P l F vs k) (rst P t l rnd r F ys k) := by
  have hP1 := hP.1
  refine ⟨?_, rst_length _ _ _ _ _ _ _ _, fun j hj => ?_, ?_⟩
  · unfold vst
    rcases hk with ⟨e, a, ha, ha'⟩ | ⟨e, h2⟩ | ⟨e, a, b, ha, hb, _⟩ | ⟨e, a, b, ha, hb, _⟩
    · rw [if_pos e, ha]; exact hl _ (by omega)
    · rw [if_neg (by omega), if_pos e]; exact h2
    · rw [if_neg (by omega), if_neg (by omega), if_pos e]; exact mod_bd (by omega) _
    · rw [if_neg (by omega), if_neg (by omega), if_neg (by omega)]; exact mod_bd (by omega) _
  · rw [rst_co hj]
    rcases hk with ⟨e, a, ha, ha'⟩ | ⟨e, h2⟩ | ⟨e, a, b, ha, hb, _⟩ | ⟨e, a, b, ha, hb, _⟩
    · rw [if_pos e]; exact shr_bd (by omega) _ _ _ _ _
    · rw [if_neg (by omega), if_pos e]; exact h2
    · rw [if_neg (by omega), if_neg (by omega), if_pos e]; exact mod_bd (by omega) _
    · rw [if_neg (by omega), if_neg (by omega), if_neg (by omega)]; exact mrow_bd (by omega) _ _ _ _ _ _ _ _
  · have hco : ∀ j, j < 2 * t + 1 → (P : Int) ∣ (if F k 0 = 1 then shr P rnd t (co l (F k 1).toNat) (us t F k) j
        else if F k 0 = 2 then F k 3
        else if F k 0 = 3 then (co (rwl ys (F k 1).toNat) j + co (rwl ys (F k 2).toNat) j) % (P : Int)
        else mrow P rnd t r (rwl ys (F k 1).toNat) (rwl ys (F k 2).toNat) (us t F k) (2 * t + 1) j) - co (rst P t l rnd r F ys k) j := fun j hj => by rw [rst_co hj]; simp
    unfold vst
    rcases hk with ⟨e, a, ha, ha'⟩ | ⟨e, h2⟩ | ⟨e, a, b, ha, hb, hai, hbi⟩ | ⟨e, a, b, ha, hb, hai, hbi⟩
    · rw [if_pos e]
      refine (shr_sh P rnd t (2 * t + 1) (co l (F k 1).toNat) (us t F k)).cong (by simp) fun j hj => ?_
      have := hco j hj
      rwa [if_pos e] at this
    · rw [if_neg (by omega), if_pos e]
      refine (sh_const P t (2 * t + 1) (F k 3)).cong (by simp) fun j hj => ?_
      have := hco j hj
      rwa [if_neg (by omega), if_pos e] at this
    · rw [if_neg (by omega), if_neg (by omega), if_pos e]
      have sa := (h _ (show (F k 1).toNat < k by omega)).2.2.2
      have sb := (h _ (show (F k 2).toNat < k by omega)).2.2.2
      refine (sa.add sb).cong (cong_sy (mod_same _)) fun j hj => ?_
      have := hco j hj
      rw [if_neg (by omega), if_neg (by omega), if_pos e] at this
      exact cong_tr (cong_sy (mod_same _)) this
    · rw [if_neg (by omega), if_neg (by omega), if_neg (by omega)]
      have sa := (h _ (show (F k 1).toNat < k by omega)).2.2.2
      have sb := (h _ (show (F k 2).toNat < k by omega)).2.2.2
      have hm := Sh.mul hP rfl hn sa sb hr (T := fun i j => shr P rnd t (co (rwl ys (F k 1).toNat) i * co (rwl ys (F k 2).toNat) i % (P : Int)) (us t F k + i * t) j)
        (c := fun i => co (rwl ys (F k 1).toNat) i * co (rwl ys (F k 2).toNat) i % (P : Int)) (fun i _ => mod_same _) (fun i _ => shr_sh _ _ _ _ _ _)
      refine hm.cong (cong_sy (mod_same _)) fun j hj => ?_
      have := hco j hj
      rw [if_neg (by omega), if_neg (by omega), if_neg (by omega)] at this
      exact cong_tr (cong_sy (mrow_sum _ _ _ _ _ _ _ _ _)) this

theorem all_one {P t : Nat} (hP : Pr P) (hn : 2 * t + 1 < P) {l rnd : List Int} (hl : ∀ i, i < l.length → 0 ≤ co l i ∧ co l i < (P : Int)) {r : Nat → Int} (hr : ∀ i, i < 2 * t + 1 → JoinIs P XP (dl i) (2 * t + 1) (r i)) {F : Nat → Nat → Int} :
    ∀ {n : Nat}, (∀ i, i < n → GOk (P : Int) l.length F i) → ∀ i, i < n → One P t (co (clr P l F n) i) (rwl (rows P t l rnd r F n) i)
  | 0, _ => fun i hi => absurd hi (by omega)
  | n + 1, h => fun i hi => by
    have ih := all_one hP hn hl (rnd := rnd) hr (n := n) (fun i hi => h i (by omega))
    by_cases e : i = n
    · subst e
      rw [clr_at, rows_at]
      exact one_step hP hn hl hr (h i (by omega)) ih
    · have h1 := clr_keep (P := P) (l := l) (F := F) (k := n) (i := i) (by omega) 1
      have h2 := rows_keep (P := P) (t := t) (l := l) (rnd := rnd) (r := r) (F := F) (k := n) (i := i) (by omega) 1
      rw [h1, h2]
      exact ih i (by omega)

/-! ### the rows of so many gates, one by one -/

theorem row_is (P t : Nat) (l rnd : List Int) (r : Nat → Int) (F : Nat → Nat → Int) {n k : Nat} (h : k < n) : rwl (rows P t l rnd r F n) k = rst P t l rnd r F (rows P t l rnd r F k) k := by
  have h1 := rows_keep (P := P) (t := t) (l := l) (rnd := rnd) (r := r) (F := F) (k := k + 1) (i := k) (by omega) (n - (k + 1))
  rw [show k + 1 + (n - (k + 1)) = n by omega] at h1
  rw [h1, rows_at]

theorem row_old (P t : Nat) (l rnd : List Int) (r : Nat → Int) (F : Nat → Nat → Int) {n k a : Nat} (h : k ≤ n) (ha : a < k) : rwl (rows P t l rnd r F k) a = rwl (rows P t l rnd r F n) a := by
  have h1 := rows_keep (P := P) (t := t) (l := l) (rnd := rnd) (r := r) (F := F) (k := k) (i := a) ha (n - k)
  rw [show k + (n - k) = n by omega] at h1
  exact h1.symm

theorem row_in {P t : Nat} {l rnd : List Int} {r : Nat → Int} {F : Nat → Nat → Int} {n k a : Nat} (h : k < n) (e : F k 0 = 1) (ha : F k 1 = (a : Int)) : rwl (rows P t l rnd r F n) k = mk (2 * t + 1) (shr P rnd t (co l a) (us t F k)) := by
  rw [row_is P t l rnd r F h]
  unfold rst
  exact mk_congr fun j _ => by rw [if_pos e, ha]; simp

theorem row_co {P t : Nat} {l rnd : List Int} {r : Nat → Int} {F : Nat → Nat → Int} {n k : Nat} (h : k < n) (e : F k 0 = 2) : rwl (rows P t l rnd r F n) k = mk (2 * t + 1) (fun _ => F k 3) := by
  rw [row_is P t l rnd r F h]
  unfold rst
  exact mk_congr fun j _ => by rw [if_neg (by omega), if_pos e]

theorem row_add {P t : Nat} {l rnd : List Int} {r : Nat → Int} {F : Nat → Nat → Int} {n k a b : Nat} (h : k < n) (e : F k 0 = 3) (ha : F k 1 = (a : Int)) (hb : F k 2 = (b : Int)) (hak : a < k) (hbk : b < k) :
    rwl (rows P t l rnd r F n) k = mk (2 * t + 1) (fun j => (co (rwl (rows P t l rnd r F n) a) j + co (rwl (rows P t l rnd r F n) b) j) % (P : Int)) := by
  rw [row_is P t l rnd r F h]
  unfold rst
  refine mk_congr fun j _ => ?_
  rw [if_neg (by omega), if_neg (by omega), if_pos e, ha, hb, Int.toNat_natCast, Int.toNat_natCast, row_old P t l rnd r F (Nat.le_of_lt h) hak, row_old P t l rnd r F (Nat.le_of_lt h) hbk]

theorem row_mul {P t : Nat} {l rnd : List Int} {r : Nat → Int} {F : Nat → Nat → Int} {n k a b : Nat} (h : k < n) (e : F k 0 = 4) (ha : F k 1 = (a : Int)) (hb : F k 2 = (b : Int)) (hak : a < k) (hbk : b < k) :
    rwl (rows P t l rnd r F n) k = mk (2 * t + 1) (mrow P rnd t r (rwl (rows P t l rnd r F n) a) (rwl (rows P t l rnd r F n) b) (us t F k) (2 * t + 1)) := by
  rw [row_is P t l rnd r F h]
  unfold rst
  refine mk_congr fun j _ => ?_
  rw [if_neg (by omega), if_neg (by omega), if_neg (by omega), ha, hb, Int.toNat_natCast, Int.toNat_natCast, row_old P t l rnd r F (Nat.le_of_lt h) hak, row_old P t l rnd r F (Nat.le_of_lt h) hbk]

theorem us_le {t : Nat} (ht : t ≤ 4) (F : Nat → Nat → Int) : ∀ k, us t F k ≤ 36 * k
  | 0 => Nat.le_refl _
  | k + 1 => by
    have ih := us_le ht F k
    have h1 : (2 * t + 1) * t ≤ 36 := Nat.le_trans (Nat.mul_le_mul (show 2 * t + 1 ≤ 9 by omega) ht) (by decide)
    show us t F k + _ ≤ _
    split
    · omega
    · split <;> omega

theorem us_in {t : Nat} {F : Nat → Nat → Int} {k : Nat} (e : F k 0 = 1) : us t F (k + 1) = us t F k + t := by show us t F k + _ = _; rw [if_pos e]
theorem us_no {t : Nat} {F : Nat → Nat → Int} {k : Nat} (e : F k 0 = 2 ∨ F k 0 = 3) : us t F (k + 1) = us t F k := by show us t F k + _ = _; rw [if_neg (by omega), if_neg (by omega)]; rfl
theorem us_mul {t : Nat} {F : Nat → Nat → Int} {k : Nat} (e : F k 0 = 4) : us t F (k + 1) = us t F k + (2 * t + 1) * t := by show us t F k + _ = _; rw [if_neg (by omega), if_pos e]

end Go.Proofs.Ytpnmepobdnclkaa.Num69
