/-
  Package share: Split, whatever comes; what the document asks of its arguments, step by step.
-/
import Derived.Test.YtpnmepobdnclkaaCalls89
namespace Go.Proofs.Ytpnmepobdnclkaa.Calls90
set_option linter.unusedVariables false
open Go.ChangeShapes Go.WideShapes Go.ChangeAt Go.RowKit Go.Deep Go.Proofs.Ytpnmepobdnclkaa.Base Go.Proofs.Ytpnmepobdnclkaa.Base2 Go.Proofs.Ytpnmepobdnclkaa.Num Go.Proofs.Ytpnmepobdnclkaa.Num7 Go.Proofs.Ytpnmepobdnclkaa.Num13 Go.Proofs.Ytpnmepobdnclkaa.Num16 Go.Proofs.Ytpnmepobdnclkaa.Num17 Go.Proofs.Ytpnmepobdnclkaa.Num34 Go.Proofs.Ytpnmepobdnclkaa.Num35 Go.Proofs.Ytpnmepobdnclkaa.Num39 Go.Proofs.Ytpnmepobdnclkaa.Base4 Go.Proofs.Ytpnmepobdnclkaa.Calls56 Go.Proofs.Ytpnmepobdnclkaa.Calls57 Go.Proofs.Ytpnmepobdnclkaa.Calls69 Go.Proofs.Ytpnmepobdnclkaa.Calls87 Go.Proofs.Ytpnmepobdnclkaa.Calls88 Go.Proofs.Ytpnmepobdnclkaa.Calls89

/-- Split has returned. -/
def SplR (p s n : Int) (m : List Int) (c : Int) (e : Ending) (w' : World) : Prop := ∃ bo k cb, e = .returned (.tuple #[.slice bo k cb, .int .i64 c]) ∧ (c ≠ 0 → k = 0 ∧ bo = none) ∧ (c = 0 → k = n.toNat ∧ PRow w' bo (shl p.toNat s m n.toNat)) ∧ k ≤ cb

theorem Split_any (p s n : Int) (mo : Option Addr) (cm : Nat) (m : List Int) (hm : m.length ≤ 9223372036854775807) (c : Int) (hc : SpC p s n m c) (w : World) (hrow : IRow w mo m) :
    Calls Try.prog 41 #[.int .i64 p, .int .i64 s, .slice mo m.length cm, .int .i64 n] w fun e w' => SplR p s n m c e w' ∧ Below w.heap.size w w' := by
  by_cases h0 : c = 0
  · subst h0
    obtain ⟨P, rfl, hP, hP2, hl, hg⟩ := hc.ok
    obtain ⟨N, rfl⟩ : ∃ N : Nat, n = (N : Int) := ⟨n.toNat, by have := hg.2.2.1; omega⟩
    refine (Split_yes P hP hP2 s N mo cm m hl hg w hrow).mono ?_
    rintro e w' ⟨⟨bo, cb, he, h1, h2⟩, hB⟩
    refine ⟨⟨bo, _, cb, he, fun h => absurd rfl h, fun _ => ?_, h1⟩, hB⟩
    rw [Int.toNat_natCast, Int.toNat_natCast]
    exact ⟨shl_length _ _ _ _, h2⟩
  · refine (Split_bad p s n mo cm m hm c hc h0 w hrow).mono ?_
    rintro e w' ⟨he, hB⟩
    exact ⟨⟨none, 0, 0, he, fun _ => ⟨rfl, rfl⟩, fun h => absurd h h0, Nat.le_refl _⟩, hB⟩

theorem prc_uniq {p c d : Int} (h : PrC p c) (k : PrC p d) : c = d := by
  rcases h with ⟨h1, h2⟩ | ⟨h1, ⟨h2, h3⟩ | ⟨h2, h3⟩⟩ <;> rcases k with ⟨k1, k2⟩ | ⟨k1, ⟨k2, k3⟩ | ⟨k2, k3⟩⟩ <;> first | omega | exact absurd h1 k1 | exact absurd k1 h1 | exact absurd h2 k2 | exact absurd k2 h2

def InM (p : Int) (m : List Int) (k : Nat) : Prop := ∀ j, j < k → 0 ≤ co m j ∧ co m j < p

/-- The code, when the first k numbers have been looked at. -/
def St (z0 p : Int) (m : List Int) (k : Nat) (z : Int) : Prop := (z0 ≠ 0 ∧ z = z0) ∨ (z0 = 0 ∧ ((InM p m k ∧ z = 0) ∨ (¬ InM p m k ∧ z = 2)))

theorem St.start (z0 p : Int) (m : List Int) : St z0 p m 0 z0 := by
  by_cases h : z0 = 0
  · exact .inr ⟨h, .inl ⟨fun j hj => absurd hj (by omega), h⟩⟩
  · exact .inl ⟨h, rfl⟩

theorem St.begin {z0 v : Int} (h : z0 = v) (p : Int) (m : List Int) : St z0 p m 0 v := by rw [← h]; exact St.start z0 p m

theorem St.keep {z0 p z : Int} {m : List Int} {k : Nat} (h : St z0 p m k z) (hz : z ≠ 0) : St z0 p m (k + 1) z := by
  rcases h with h | ⟨h, ⟨_, h2⟩ | ⟨h1, h2⟩⟩
  · exact .inl h
  · exact absurd h2 hz
  · exact .inr ⟨h, .inr ⟨fun hh => h1 (fun j hj => hh j (by omega)), h2⟩⟩

theorem St.zero {z0 p : Int} {m : List Int} {k : Nat} (h : St z0 p m k 0) : z0 = 0 ∧ InM p m k := by
  rcases h with ⟨h1, h2⟩ | ⟨h, ⟨h1, _⟩ | ⟨_, h2⟩⟩
  · exact absurd h2.symm h1
  · exact ⟨h, h1⟩
  · cases h2

theorem St.good {z0 p : Int} {m : List Int} {k : Nat} (h : St z0 p m k 0) (hy : 0 ≤ co m k ∧ co m k < p) : St z0 p m (k + 1) 0 := by
  refine .inr ⟨h.zero.1, .inl ⟨fun j hj => ?_, rfl⟩⟩
  by_cases e : j = k
  · subst e; exact hy
  · exact h.zero.2 j (by omega)

theorem St.bad {z0 p : Int} {m : List Int} {k : Nat} (h : St z0 p m k 0) (hy : ¬ (0 ≤ co m k ∧ co m k < p)) : St z0 p m (k + 1) 2 := by
  exact .inr ⟨h.zero.1, .inr ⟨fun hh => hy (hh k (by omega)), rfl⟩⟩

/-- The code ahead of the numbers. -/
def Z0 (p s n : Int) (L : Nat) (z : Int) : Prop := (PrC p z ∧ z ≠ 0) ∨ (PrC p 0 ∧ ((12 < L ∧ z = 1) ∨ (L ≤ 12 ∧ ((¬ ((0 ≤ s ∧ s < p) ∧ 0 ≤ n ∧ n < p) ∧ z = 2) ∨ (((0 ≤ s ∧ s < p) ∧ 0 ≤ n ∧ n < p) ∧ z = 0)))))

theorem bd_of_in {P : Nat} {m : List Int} (h : InM (P : Int) m m.length) : Bd P m := fun x hx => by
  obtain ⟨j, hj, e⟩ := List.getElem_of_mem hx
  have := h j hj
  simpa [co, List.getD, hj, e] using this

theorem in_of_bd {P : Nat} {m : List Int} (h : Bd P m) : InM (P : Int) m m.length := fun j hj => h _ (co_mem hj)

theorem St.done {p s n c z0 z : Int} {m : List Int} (hc : SpC p s n m c) (h0 : Z0 p s n m.length z0) (h : St z0 p m m.length z) : z = c := by
  rcases h0 with ⟨a1, a2⟩ | ⟨a1, ⟨a2, a3⟩ | ⟨a2, a3⟩⟩
  · have e : z = z0 := by
      rcases h with h | h
      · exact h.2
      · exact absurd h.1 a2
    rcases hc with ⟨b1, b2⟩ | ⟨b1, _⟩
    · rw [e]; exact prc_uniq a1 b1
    · exact absurd (prc_uniq a1 b1) a2
  · have e : z = 1 := by
      rcases h with h | h
      · rw [h.2, a3]
      · rw [a3] at h; exact absurd h.1 (by decide)
    rcases hc with ⟨b1, b2⟩ | ⟨b1, ⟨b2, b3⟩ | ⟨b2, _⟩⟩
    · exact absurd (prc_uniq b1 a1) b2
    · rw [e, b3]
    · omega
  · obtain ⟨P, rfl, _, _⟩ := a1.ok
    rcases hc with ⟨b1, b2⟩ | ⟨b1, ⟨b2, b3⟩ | ⟨b2, b3⟩⟩
    · exact absurd (prc_uniq b1 a1) b2
    · omega
    · rw [Int.toNat_natCast] at b3
      rcases a3 with ⟨a4, a5⟩ | ⟨a4, a5⟩
      · have e : z = 2 := by
          rcases h with h | h
          · rw [h.2, a5]
          · rw [a5] at h; exact absurd h.1 (by decide)
        rcases b3 with ⟨_, b4⟩ | ⟨b4, _⟩
        · rw [e, b4]
        · exact absurd ⟨b4.1, b4.2.2⟩ a4
      · rcases h with h | ⟨_, ⟨h1, h2⟩ | ⟨h1, h2⟩⟩
        · exact absurd a5 h.1
        · rcases b3 with ⟨b4, _⟩ | ⟨_, b4⟩
          · exact absurd ⟨a4.1, bd_of_in h1, a4.2⟩ b4
          · rw [h2, b4]
        · rcases b3 with ⟨_, b4⟩ | ⟨b4, _⟩
          · rw [h2, b4]
          · exact absurd (in_of_bd b4.2.1) h1

end Go.Proofs.Ytpnmepobdnclkaa.Calls90
