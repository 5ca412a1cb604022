/-
  Plain arithmetic, without the model: squares again and again by a number; where two who walk first have something in common with it.
-/
import Derived.Test.YtjfgnpgbphdalaaNum18
import Derived.Test.YtjfgnpgbphdalaaNum13
import Derived.Test.YtjfgnpgbphdalaaMath
namespace Go.Proofs.Ytjfgnpgbphdalaa.Num33
set_option linter.unusedVariables false
open Go.Proofs.Ytjfgnpgbphdalaa.Num Go.Proofs.Ytjfgnpgbphdalaa.Num6 Go.Proofs.Ytjfgnpgbphdalaa.Num13 Go.Proofs.Ytjfgnpgbphdalaa.Num18 Go.Proofs.Ytjfgnpgbphdalaa.Math

/-- The next number. -/
def nx (c n x : Nat) : Nat := (x * x + c) % n

theorem nx_lt (c x : Nat) {n : Nat} (hn : 1 ≤ n) : nx c n x < n := Nat.mod_lt _ (by omega)

theorem nx_cast (c n x : Nat) : ((nx c n x : Nat) : Int) = ((x : Int) * (x : Int) + (c : Int)) % (n : Int) := by simp [nx]

theorem nx_two (c n x : Nat) : (x * x % n + c) % n = nx c n x := by unfold nx; rw [Nat.mod_add_mod]

theorem nx_two_cast (c n x : Nat) : ((nx c n x : Nat) : Int) = ((x : Int) * (x : Int) % (n : Int) + (c : Int)) % (n : Int) := by rw [← nx_two]; simp

/-- The number behind k steps. -/
abbrev wk (c n x k : Nat) : Nat := it (nx c n) x k

theorem wk_lt {c n x : Nat} (hx : x < n) (k : Nat) : wk c n x k < n := it_lt hx (fun y hy => nx_lt c y (by omega)) k

theorem wk_zero (c n x : Nat) : wk c n x 0 = x := rfl

theorem wk_succ (c n x k : Nat) : nx c n (wk c n x k) = wk c n x (k + 1) := rfl

theorem wk_two (c n x k : Nat) : nx c n (nx c n (wk c n x (2 * k))) = wk c n x (2 * (k + 1)) := rfl

theorem wk_add (c n x j k : Nat) : wk c n (wk c n x j) k = wk c n x (j + k) := (it_add _ _ _ _).symm

theorem wk_rho {c n x : Nat} (hx : x < n) : ∃ t s, Rho (nx c n) x t s ∧ t + s ≤ n := by
  obtain ⟨t, s, h⟩ := rho_ex hx (fun y hy => nx_lt c y (show 1 ≤ n by omega))
  exact ⟨t, s, h, h.le hx (fun y hy => nx_lt c y (by omega))⟩

/-- The first who meet. -/
def Meet (c n x m : Nat) : Prop := 1 ≤ m ∧ wk c n x m = wk c n x (2 * m) ∧ ∀ j, 1 ≤ j → j < m → ¬ wk c n x j = wk c n x (2 * j)

theorem meet_ex {c n x t s : Nat} (h : Rho (nx c n) x t s) : ∃ m, Meet c n x m ∧ m ≤ t + s ∧ t ≤ m ∧ s ∣ m := by
  obtain ⟨i, h1, h2, h3⟩ := h.meets
  obtain ⟨m, ⟨m1, m2⟩, m3, m4⟩ := least_ex (P := fun m => 1 ≤ m ∧ wk c n x m = wk c n x (2 * m)) i ⟨h1, h3⟩
  obtain ⟨h4, h5⟩ := (h.meet m1).1 m2
  exact ⟨m, ⟨m1, m2, fun j hj hjm e => m4 j hjm ⟨hj, e⟩⟩, by omega, h4, h5⟩

/-- Two who are whole rounds apart are together from t on. -/
theorem together_iff {c n x t s m k : Nat} (h : Rho (nx c n) x t s) (hm : 1 ≤ m) (hs : s ∣ m) : wk c n x k = wk c n x (m + k) ↔ t ≤ k := by
  rw [show m + k = k + m by omega, h.iff (show k < k + m by omega)]
  constructor
  · exact fun h => h.1
  · intro h1
    exact ⟨h1, by rw [show k + m - k = m by omega]; exact hs⟩

/-- What n and the difference behind k and behind 2 k steps have in common. -/
def cm (c n x k : Nat) : Int := gg ((wk c n x (2 * k) : Int) - (wk c n x k : Int)) (n : Int)

theorem cm_turn (c n x k : Nat) : gg ((wk c n x k : Int) - (wk c n x (2 * k) : Int)) (n : Int) = cm c n x k := by
  unfold cm gg
  rw [← Int.neg_sub, Int.neg_gcd]

theorem cm_pos {c n x : Nat} (hn : 1 ≤ n) (k : Nat) : 1 ≤ cm c n x k := gg_pos (.inr (by omega))

theorem cm_le {c n x : Nat} (hn : 1 ≤ n) (k : Nat) : cm c n x k ≤ n := gg_le_right (by omega)

theorem cm_dvd (c n x k : Nat) : cm c n x k ∣ (n : Int) := gg_right _ _

/-- The first behind which there is something in common. -/
structure Fst (c n x i : Nat) : Prop where
  pos : 1 ≤ i
  ne : ¬ cm c n x i = 1
  least : ∀ j, 1 ≤ j → j < i → cm c n x j = 1

theorem fst_ex {c n x t s : Nat} (h : Rho (nx c n) x t s) (hn : 2 ≤ n) : ∃ i, Fst c n x i ∧ i ≤ t + s := by
  obtain ⟨i, h1, h2, h3⟩ := h.meets
  have h4 : ¬ cm c n x i = 1 := by
    unfold cm
    rw [show wk c n x (2 * i) = wk c n x i from h3.symm, Int.sub_self, gg_zero_left (by omega)]
    omega
  obtain ⟨m, ⟨m1, m2⟩, m3, m4⟩ := least_ex (P := fun m => 1 ≤ m ∧ ¬ cm c n x m = 1) i ⟨h1, h4⟩
  refine ⟨m, ⟨m1, m2, fun j hj hjm => ?_⟩, by omega⟩
  rcases Classical.em (cm c n x j = 1) with h5 | h5
  · exact h5
  · exact absurd ⟨hj, h5⟩ (m4 j hjm)

/-- What was there before k: when it came first, and one more; 0 where it was not. -/
def Wn (c n x k : Nat) (v : Nat → Nat) : Prop := (∀ j, j < k → v (wk c n x j) = j + 1) ∧ ∀ y, v y = 0 ∨ ∃ j, j < k ∧ y = wk c n x j

theorem Wn.start (c n x : Nat) : Wn c n x 0 (fun _ => 0) := ⟨fun j hj => by omega, fun y => .inl rfl⟩

theorem Wn.next {c n x k t s : Nat} {v : Nat → Nat} (h : Wn c n x k v) (hR : Rho (nx c n) x t s) (hk : k < t + s) : v (wk c n x k) = 0 ∧ Wn c n x (k + 1) (fun y => if y = wk c n x k then k + 1 else v y) := by
  have hne : ∀ j, j < k → ¬ wk c n x j = wk c n x k := fun j hj e => by
    obtain ⟨h1, h2⟩ := hR.only j k hj e
    have := Nat.le_of_dvd (by omega) h2
    omega
  refine ⟨?_, fun j hj => ?_, fun y => ?_⟩
  · rcases h.2 (wk c n x k) with h1 | ⟨j, h1, h2⟩
    · exact h1
    · exact absurd h2.symm (hne j h1)
  · by_cases e : j = k
    · subst e; simp
    · simp only [hne j (by omega), if_false]
      exact h.1 j (by omega)
  · by_cases e : y = wk c n x k
    · exact .inr ⟨k, by omega, e⟩
    · simp only [e, if_false]
      rcases h.2 y with h1 | ⟨j, h1, h2⟩
      · exact .inl h1
      · exact .inr ⟨j, by omega, h2⟩

theorem Wn.done {c n x t s : Nat} {v : Nat → Nat} (h : Wn c n x (t + s) v) (hR : Rho (nx c n) x t s) : v (wk c n x (t + s)) = t + 1 := by
  rw [show wk c n x (t + s) = wk c n x t from hR.back]
  exact h.1 t (by have := hR.pos; omega)

end Go.Proofs.Ytjfgnpgbphdalaa.Num33
