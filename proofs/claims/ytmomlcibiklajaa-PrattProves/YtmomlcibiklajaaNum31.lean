/-
  Plain arithmetic, without the model: lines that prove primes; dividing out as often as can be; what holds, and why it proves.
-/
import Derived.Test.YtmomlcibiklajaaNum19
import Derived.Test.YtmomlcibiklajaaNum13
namespace Go.Proofs.Ytmomlcibiklajaa.Num31
set_option linter.unusedVariables false
open Go.Proofs.Ytmomlcibiklajaa.Num Go.Proofs.Ytmomlcibiklajaa.Num6 Go.Proofs.Ytmomlcibiklajaa.Num13 Go.Proofs.Ytmomlcibiklajaa.Num19

/-- n, divided by q so often, if it can be. -/
def doutn : Nat → Nat → Nat → Nat
  | 0, _, n => n
  | f + 1, q, n => if 2 ≤ q ∧ 1 ≤ n ∧ q ∣ n then doutn f q (n / q) else n

theorem doutn_same (q : Nat) : ∀ f f' n, n ≤ f → n ≤ f' → doutn f q n = doutn f' q n := by
  have hz : ∀ f, doutn f q 0 = 0 := fun f => by
    cases f with
    | zero => rfl
    | succ f => show (if _ then _ else _) = _; rw [if_neg (fun h => by omega)]
  intro f
  induction f with
  | zero =>
    intro f' n h1 h2
    obtain rfl : n = 0 := by omega
    rw [hz, hz]
  | succ f ih =>
    intro f' n h1 h2
    cases f' with
    | zero =>
      obtain rfl : n = 0 := by omega
      rw [hz, hz]
    | succ f' =>
      show (if _ then _ else _) = (if _ then _ else _)
      by_cases h : 2 ≤ q ∧ 1 ≤ n ∧ q ∣ n
      · rw [if_pos h, if_pos h]
        have := Nat.div_lt_self h.2.1 h.1
        exact ih f' (n / q) (by omega) (by omega)
      · rw [if_neg h, if_neg h]

/-- n, divided by q as often as it can be. -/
def dout (q n : Nat) : Nat := doutn n q n

theorem dout_step {q n : Nat} (h2 : 2 ≤ q) (h1 : 1 ≤ n) (hd : q ∣ n) : dout q n = dout q (n / q) := by
  unfold dout
  cases n with
  | zero => omega
  | succ m =>
    have e : doutn (m + 1) q (m + 1) = doutn m q ((m + 1) / q) := by
      show (if _ then _ else _) = _
      rw [if_pos ⟨h2, h1, hd⟩]
    rw [e]
    have := Nat.div_lt_self h1 h2
    exact doutn_same q _ _ _ (by omega) (Nat.le_refl _)

theorem dout_stop {q n : Nat} (hd : ¬ q ∣ n) : dout q n = n := by
  unfold dout
  cases n with
  | zero => rfl
  | succ m => show (if _ then _ else _) = _; rw [if_neg (fun h => hd h.2.2)]

theorem dout_all (q : Nat) (h2 : 2 ≤ q) : ∀ n, 1 ≤ n → 1 ≤ dout q n ∧ dout q n ∣ n ∧ ¬ q ∣ dout q n ∧ ∃ k, n = q ^ k * dout q n := by
  intro n
  induction n using Nat.strongRecOn with
  | _ n ih =>
    intro h1
    by_cases hd : q ∣ n
    · have hlt : n / q < n := Nat.div_lt_self h1 h2
      have hp : 1 ≤ n / q := Nat.div_pos (Nat.le_of_dvd h1 hd) (by omega)
      obtain ⟨i1, i2, i3, k, hk⟩ := ih _ hlt hp
      rw [dout_step h2 h1 hd]
      refine ⟨i1, Nat.dvd_trans i2 (Nat.div_dvd_of_dvd hd), i3, k + 1, ?_⟩
      rw [Nat.pow_succ, Nat.mul_right_comm, ← hk, Nat.div_mul_cancel hd]
    · rw [dout_stop hd]
      exact ⟨h1, Nat.dvd_refl _, hd, 0, by simp⟩

/-- One behind another. -/
def douts : List Nat → Nat → Nat
  | [], n => n
  | q :: qs, n => douts qs (dout q n)

theorem douts_snoc (l : List Nat) (q n : Nat) : douts (l ++ [q]) n = dout q (douts l n) := by
  induction l generalizing n with
  | nil => rfl
  | cons x xs ih => exact ih _

theorem douts_all (l : List Nat) : (∀ q ∈ l, 2 ≤ q) → ∀ n, 1 ≤ n → 1 ≤ douts l n ∧ douts l n ∣ n ∧ ∀ q ∈ l, ¬ q ∣ douts l n := by
  induction l with
  | nil => intro _ n h1; exact ⟨h1, Nat.dvd_refl _, fun q hq => by cases hq⟩
  | cons x xs ih =>
    intro hl n h1
    obtain ⟨d1, d2, d3, _⟩ := dout_all x (hl x (by simp)) n h1
    obtain ⟨i1, i2, i3⟩ := ih (fun q hq => hl q (by simp [hq])) (dout x n) d1
    refine ⟨i1, Nat.dvd_trans i2 d2, fun q hq => ?_⟩
    rcases List.mem_cons.1 hq with e | e
    · subst e; exact fun h => d3 (Nat.dvd_trans h i2)
    · exact i3 q e

theorem douts_skip {l : List Nat} {q n : Nat} (hl : ∀ q ∈ l, 2 ≤ q) (h1 : 1 ≤ n) (hq : q ∈ l) : dout q (douts l n) = douts l n :=
  dout_stop ((douts_all l hl n h1).2.2 q hq)

/-- Each once, in the order of its first place. -/
def dd : List Nat → List Nat
  | l => l.foldl (fun a x => if x ∈ a then a else a ++ [x]) []

theorem dd_snoc (l : List Nat) (x : Nat) : dd (l ++ [x]) = if x ∈ dd l then dd l else dd l ++ [x] := by
  show List.foldl _ _ (l ++ [x]) = _
  rw [List.foldl_append]
  rfl

theorem dd_mem (l : List Nat) (y : Nat) : y ∈ dd l ↔ y ∈ l := by
  have key : ∀ m : List Nat, ∀ l : List Nat, l = m.reverse → (y ∈ dd l ↔ y ∈ l) := by
    intro m
    induction m with
    | nil => intro l e; subst e; simp [dd]
    | cons x m ih =>
      intro l e
      rw [e, List.reverse_cons, dd_snoc]
      have := ih m.reverse rfl
      split
      · rename_i hx
        rw [this, List.mem_append]
        constructor
        · exact .inl
        · rintro (h | h)
          · exact h
          · have e2 : y = x := by simpa using h
            subst e2
            exact this.1 hx
      · rw [List.mem_append, List.mem_append, this]
  exact key l.reverse l (by simp)

theorem dd_nodup (l : List Nat) : (dd l).Nodup := by
  have key : ∀ m : List Nat, (dd m.reverse).Nodup := by
    intro m
    induction m with
    | nil => simp [dd]
    | cons x m ih =>
      rw [List.reverse_cons, dd_snoc]
      split
      · exact ih
      · rename_i hx
        exact List.nodup_append.2 ⟨ih, by simp, fun a ha b hb => by
          have e : b = x := by simpa using hb
          subst e
          exact fun e => hx (e ▸ ha)⟩
  have := key l.reverse
  simpa using this

theorem douts_dd {l : List Nat} {n : Nat} (hl : ∀ q ∈ l, 2 ≤ q) (h1 : 1 ≤ n) : douts (dd l) n = douts l n := by
  have key : ∀ m : List Nat, (∀ q ∈ m, 2 ≤ q) → douts (dd m.reverse) n = douts m.reverse n := by
    intro m
    induction m with
    | nil => intro _; simp [dd]
    | cons x m ih =>
      intro hm
      have ih := ih (fun q hq => hm q (by simp [hq]))
      rw [List.reverse_cons, dd_snoc, douts_snoc]
      split
      · rename_i hx
        rw [ih, douts_skip (fun q hq => hm q (by simp at hq; simp [hq])) h1 ((dd_mem _ _).1 hx)]
      · rw [douts_snoc, ih]
  have := key l.reverse (fun q hq => hl q (by simpa using hq))
  simpa using this

/-! ### lines -/

/-- A line: its number, the number that comes round last, the lines that it leans on. -/
structure Ln where
  N : Int
  G : Int
  F : List Int

def Ln0 : Ln := ⟨0, 0, []⟩

/-- The number of the line k. -/
def val (ls : List Ln) (k : Int) : Nat := (ls.getD k.toNat Ln0).N.toNat

def In (ls : List Ln) (k : Int) : Prop := 0 ≤ k ∧ k < (ls.length : Int)

/-- What a line asks of another one that it leans on. -/
def Fine (ls : List Ln) (g : Int) (n : Nat) (k : Int) : Prop := In ls k ∧ 2 ≤ (ls.getD k.toNat Ln0).N ∧ val ls k ∣ n - 1 ∧ ¬ pw g ((n - 1) / val ls k) n = 1

structure Hold3 (ls : List Ln) (g : Int) (n : Nat) (F : List Int) : Prop where
  one : pw g (n - 1) n = 1
  each : ∀ k ∈ F, Fine ls g n k
  left : douts (F.map (val ls)) (n - 1) = 1

/-- A line holds, these ahead of it. -/
def Hold (ls : List Ln) (x : Ln) : Prop :=
  x.N = 2 ∨ ((3 ≤ x.N ∧ x.N ≤ 1048576) ∧ (1 ≤ x.G ∧ x.G < x.N) ∧ Hold3 ls x.G x.N.toNat x.F)

theorem val_two {ls : List Ln} (hb : ∀ y ∈ ls, 2 ≤ y.N) {k : Int} (hk : In ls k) : 2 ≤ (ls.getD k.toNat Ln0).N ∧ 2 ≤ val ls k := by
  have hlt : k.toNat < ls.length := by have := hk.1; have := hk.2; omega
  have := hb (ls.getD k.toNat Ln0) (by simp [List.getD, hlt])
  exact ⟨this, by unfold val; omega⟩

/-- How the program finds it out: which numbers there are, each once; whether they make up; whether it comes round last. -/
theorem hold3_iff {ls : List Ln} (hb : ∀ y ∈ ls, 2 ≤ y.N) {g : Int} {n : Nat} (hn : 3 ≤ n) {F : List Int} :
    Hold3 ls g n F ↔ (∀ k ∈ F, In ls k ∧ val ls k ∣ n - 1) ∧ douts (dd (F.map (val ls))) (n - 1) = 1 ∧ pw g (n - 1) n = 1 ∧ ∀ q ∈ dd (F.map (val ls)), ¬ pw g ((n - 1) / q) n = 1 := by
  constructor
  · intro h
    refine ⟨fun k hk => ⟨(h.each k hk).1, (h.each k hk).2.2.1⟩, ?_, h.one, fun q hq => ?_⟩
    · rw [douts_dd (fun q hq => ?_) (by omega)]
      · exact h.left
      · obtain ⟨k, hk, rfl⟩ := List.mem_map.1 hq
        exact (val_two hb (h.each k hk).1).2
    · obtain ⟨k, hk, rfl⟩ := List.mem_map.1 ((dd_mem _ _).1 hq)
      exact (h.each k hk).2.2.2
  · rintro ⟨h1, h2, h3, h4⟩
    refine ⟨h3, fun k hk => ⟨(h1 k hk).1, (val_two hb (h1 k hk).1).1, (h1 k hk).2, h4 _ ((dd_mem _ _).2 (List.mem_map.2 ⟨k, hk, rfl⟩))⟩, ?_⟩
    rw [← douts_dd (fun q hq => ?_) (by omega)]
    · exact h2
    · obtain ⟨k, hk, rfl⟩ := List.mem_map.1 hq
      exact (val_two hb (h1 k hk).1).2

theorem Hold.two {ls : List Ln} {x : Ln} (h : Hold ls x) : 2 ≤ x.N := by
  rcases h with h | h
  · omega
  · omega

/-- A prime that divides is among those that make it up. -/
theorem douts_pr {l : List Nat} {n p : Nat} (hl : ∀ q ∈ l, Pr q) (h1 : 1 ≤ n) (he : douts l n = 1) (hp : Pr p) (hd : p ∣ n) : p ∈ l := by
  induction l generalizing n with
  | nil =>
    have : p ∣ 1 := by rw [← he]; exact hd
    have := Nat.le_of_dvd (by omega) this
    have := hp.1
    omega
  | cons x xs ih =>
    have hx := hl x (by simp)
    obtain ⟨d1, d2, d3, k, hk⟩ := dout_all x hx.1 n h1
    rw [hk] at hd
    rcases hp.dvd_mul hd with h | h
    · have := hp.eq_of_dvd hx (hp.dvd_pow h)
      simp [this]
    · exact List.mem_cons_of_mem _ (ih (fun q hq => hl q (by simp [hq])) d1 he h)

/-- Pratt, Lucas. -/
theorem Hold.pr {ls : List Ln} {x : Ln} (h : Hold ls x) (hl : ∀ y ∈ ls, ∃ p : Nat, y.N = (p : Int) ∧ Pr p) : ∃ p : Nat, x.N = (p : Int) ∧ Pr p ∧ p ≤ 1048576 := by
  rcases h with h | ⟨⟨h1, h2⟩, ⟨h3, h4⟩, h5⟩
  · exact ⟨2, h, ⟨Nat.le_refl _, fun d hd => by
      have := Nat.le_of_dvd (by omega) hd
      have : d ≠ 0 := by intro e; subst e; simp at hd
      omega⟩, by omega⟩
  · refine ⟨x.N.toNat, by omega, ?_, by omega⟩
    have hv : ∀ k ∈ x.F, Pr (val ls k) := fun k hk => by
      obtain ⟨⟨hk1, hk2⟩, _⟩ := h5.each k hk
      have hlt : k.toNat < ls.length := by omega
      obtain ⟨p, e, hp⟩ := hl (ls.getD k.toNat Ln0) (by simp [List.getD, hlt])
      unfold val
      rw [e]; exact hp
    refine lucas (g := rs x.G x.N.toNat) (by omega) ?_ (fun q hq hd => ?_)
    · rw [Nat.mod_eq_of_lt (show 1 < x.N.toNat by omega)]
      exact h5.one
    · rw [Nat.mod_eq_of_lt (show 1 < x.N.toNat by omega)]
      have hm := douts_pr (fun q hq => by obtain ⟨k, hk, rfl⟩ := List.mem_map.1 hq; exact hv k hk) (show 1 ≤ x.N.toNat - 1 by omega) h5.left hq hd
      obtain ⟨k, hk, rfl⟩ := List.mem_map.1 hm
      exact (h5.each k hk).2.2.2

/-- All lines hold. -/
def AllHold (ls : List Ln) : Prop := ∀ i, i < ls.length → Hold (ls.take i) (ls.getD i Ln0)

theorem AllHold.pr {ls : List Ln} (h : AllHold ls) : ∀ i, i < ls.length → ∃ p : Nat, (ls.getD i Ln0).N = (p : Int) ∧ Pr p ∧ p ≤ 1048576 := by
  intro i
  induction i using Nat.strongRecOn with
  | _ i ih =>
    intro hi
    refine (h i hi).pr (fun y hy => ?_)
    obtain ⟨j, hj, e⟩ := List.getElem_of_mem hy
    rw [List.length_take] at hj
    obtain ⟨p, e2, hp, _⟩ := ih j (by omega) (by omega)
    refine ⟨p, ?_, hp⟩
    rw [← e2, ← e, List.getElem_take]
    simp [List.getD, show j < ls.length by omega]

end Go.Proofs.Ytmomlcibiklajaa.Num31
