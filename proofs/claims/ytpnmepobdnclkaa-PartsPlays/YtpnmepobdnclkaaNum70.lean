/-
  Plain arithmetic: that there is what points have in common at 0; and what comes of all parties' shares of products.
-/
import Derived.Test.YtpnmepobdnclkaaNum69
namespace Go.Proofs.Ytpnmepobdnclkaa.Num70
set_option linter.unusedVariables false
open Go.Proofs.Ytpnmepobdnclkaa.Num Go.Proofs.Ytpnmepobdnclkaa.Num13 Go.Proofs.Ytpnmepobdnclkaa.Num16 Go.Proofs.Ytpnmepobdnclkaa.Num17 Go.Proofs.Ytpnmepobdnclkaa.Num34 Go.Proofs.Ytpnmepobdnclkaa.Num35 Go.Proofs.Ytpnmepobdnclkaa.Num39 Go.Proofs.Ytpnmepobdnclkaa.Num61 Go.Proofs.Ytpnmepobdnclkaa.Num69
open Go.Proofs.Ytpnmepobdnclkaa.Num7 (ev)

theorem dist_both {p : Nat} {X : Nat → Int} {n i j : Nat} (hd : Dist p X n) (hi : i < n) (hj : j < n) (hne : j ≠ i) : ¬ (p : Int) ∣ X i - X j := fun h => by
  rcases Nat.lt_or_gt_of_ne hne with h1 | h1
  · exact hd i j hi h1 h
  · refine hd j i hj h1 ?_
    have h2 := (Int.dvd_neg).2 h
    rwa [show -(X i - X j) = X j - X i by omega] at h2

theorem lagk_ex {p : Nat} (hp : Pr p) {X : Nat → Int} {n i : Nat} (hd : Dist p X n) (hi : i < n) {y : Int} (hy : 0 ≤ y ∧ y < (p : Int)) : ∀ j, j ≤ n → ∃ k, LagK p X i y j k
  | 0, _ => ⟨y, LagK.start X i hy⟩
  | j + 1, h => by
    obtain ⟨k, hk⟩ := lagk_ex hp hd hi hy j (by omega)
    by_cases e : j = i
    · subst e; exact ⟨k, hk.skip⟩
    · exact ⟨_, hk.next hp e (dist_both hd hi (by omega) e)⟩

theorem lags_ex {p : Nat} (hp : Pr p) {X Y : Nat → Int} {n : Nat} (hd : Dist p X n) (hY : ∀ j, j < n → 0 ≤ Y j ∧ Y j < (p : Int)) : ∀ i, i ≤ n → ∃ s, LagS p X Y n i s
  | 0, _ => ⟨0, LagS.start p X Y n⟩
  | i + 1, h => by
    obtain ⟨s, hs⟩ := lags_ex hp hd hY i (by omega)
    obtain ⟨k, hk⟩ := lagk_ex hp hd (show i < n by omega) (hY i (by omega)) n (Nat.le_refl _)
    exact ⟨_, hs.next (by have := hp.1; omega) (by omega) hk⟩

/-- There is what they have in common at 0. -/
theorem join_ex {p : Nat} (hp : Pr p) {X Y : Nat → Int} {n : Nat} (hd : Dist p X n) (hY : ∀ j, j < n → 0 ≤ Y j ∧ Y j < (p : Int)) : ∃ v, JoinIs p X Y n v := by
  obtain ⟨s, hs⟩ := lags_ex hp hd hY n (Nat.le_refl _)
  exact ⟨s, hs.done⟩

/-- The parties' numbers. -/
theorem r_ex {p n : Nat} (hp : Pr p) (hn : n < p) : ∃ r : Nat → Int, ∀ i, i < n → JoinIs p XP (dl i) n (r i) := by
  have h : ∀ i, ∃ v, JoinIs p XP (dl i) n v := fun i => join_ex hp (xp_dist hn) fun j _ => by
    have := hp.1
    unfold dl
    split <;> omega
  obtain ⟨r, hr⟩ := Classical.axiomOfChoice h
  exact ⟨r, fun i _ => hr i⟩

theorem JoinIs.congr {p : Nat} {X Y X' Y' : Nat → Int} {n : Nat} {v : Int} (h : JoinIs p X Y n v) (hX : ∀ j, j < n → X j = X' j) (hY : ∀ j, j < n → Y j = Y' j) : JoinIs p X' Y' n v := by
  obtain ⟨a, ⟨h1, h2, h3⟩, e⟩ := h
  exact ⟨a, ⟨h1, h2, fun j hj => by rw [← hX j hj, ← hY j hj]; exact h3 j hj⟩, e⟩

/-- It is the sum, each times the number that the party's place has. -/
theorem join_sum {p n : Nat} (hp : Pr p) (hn : n < p) {r : Nat → Int} (hr : ∀ i, i < n → JoinIs p XP (dl i) n (r i)) {Y : Nat → Int} {v : Int} (h : JoinIs p XP Y n v) : v = su (fun i => r i * Y i) n % (p : Int) := by
  obtain ⟨a, ⟨h1, h2, h3⟩, rfl⟩ := h
  have k := at_zero hp hn hr h2
  refine (md (cong_tr ?_ k)).symm
  refine su_cong fun i hi => ?_
  have := cong_mul (a := r i) (b := r i) (by simp) (cong_sy (h3 i hi))
  rwa [show r i * ev a (XP i) = ev a (XP i) * r i from Int.mul_comm _ _] at this

theorem mrow_join {p n : Nat} (hp : Pr p) (hn : n < p) {rnd : List Int} {t : Nat} {r : Nat → Int} (hr : ∀ i, i < n → JoinIs p XP (dl i) n (r i)) {a b : List Int} {u j : Nat} {v : Int}
    (h : JoinIs p XP (fun i => shr p rnd t (co a i * co b i % (p : Int)) (u + i * t) j) n v) : v = mrow p rnd t r a b u n j := by
  have hp1 := hp.1
  have e := join_sum hp hn hr h
  have hm := mrow_bd (P := p) (by omega) rnd t r a b u n j
  have hs := md (mrow_sum p rnd t r a b u j n)
  rw [Int.emod_eq_of_lt hm.1 hm.2] at hs
  rw [e, hs]

end Go.Proofs.Ytpnmepobdnclkaa.Num70
