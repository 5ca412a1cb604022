/-
  Package parts: what all shares tell, whatever they are.
-/
import Derived.Test.YtpnmepobdnclkaaCalls189
namespace Go.Proofs.Ytpnmepobdnclkaa.Calls190
set_option linter.unusedVariables false
open Go.ChangeShapes Go.WideShapes Go.ChangeAt Go.RowKit Go.Deep Go.Proofs.Ytpnmepobdnclkaa.Base Go.Proofs.Ytpnmepobdnclkaa.Base2 Go.Proofs.Ytpnmepobdnclkaa.Num Go.Proofs.Ytpnmepobdnclkaa.Num13 Go.Proofs.Ytpnmepobdnclkaa.Num16 Go.Proofs.Ytpnmepobdnclkaa.Num17 Go.Proofs.Ytpnmepobdnclkaa.Num34 Go.Proofs.Ytpnmepobdnclkaa.Num35 Go.Proofs.Ytpnmepobdnclkaa.Num39 Go.Proofs.Ytpnmepobdnclkaa.Num61 Go.Proofs.Ytpnmepobdnclkaa.Num69 Go.Proofs.Ytpnmepobdnclkaa.Num70 Go.Proofs.Ytpnmepobdnclkaa.Base4 Go.Proofs.Ytpnmepobdnclkaa.Calls56 Go.Proofs.Ytpnmepobdnclkaa.Calls182 Go.Proofs.Ytpnmepobdnclkaa.Calls183 Go.Proofs.Ytpnmepobdnclkaa.Calls184
open Go.Proofs.Ytpnmepobdnclkaa.Calls87 (ib)
open Go.Proofs.Ytpnmepobdnclkaa.Calls90 (InM St prc_uniq)
open Go.Proofs.Ytpnmepobdnclkaa.Calls91 (refJoin_any)

theorem Open_bad (p t : Int) (lo : Option Addr) (cl : Nat) (l : List Int) (hl : l.length ≤ 9223372036854775807) (c : Int) (hc : OpC p t l c) (h0 : c ≠ 0) (w : World) (hrow : IRow w lo l) :
    Calls Try.prog 8 #[.int .i64 p, .int .i64 t, .slice lo l.length cl] w fun e w' => e = .returned (.tuple #[.int .i64 0, .int .i64 c]) ∧ Below w.heap.size w w' := by
  have cC := checkOpen_any p t lo cl l hl c hc w hrow
  have h1 : (c != 0) = true := by simpa using h0
  have h2 : (c == 0) = false := by simpa using h0
  generalize l.length = nl at *
  clear hc hrow
  go_enter Try.func8, Try.ntmps8
  go_wp2_with (go_at_call 20; refine cC.mono ?_; rintro e w1 ⟨rfl, hB⟩)
  go_ret2
  exact ⟨rfl, hB⟩

theorem Open_yes (P : Nat) (hP : Pr P) (hP2 : P ≤ 251) (t : Int) (lo : Option Addr) (cl : Nat) (l : List Int) (hc : OpC (P : Int) t l 0) (w : World) (hrow : IRow w lo l) :
    Calls Try.prog 8 #[.int .i64 (P : Int), .int .i64 t, .slice lo l.length cl] w fun e w' => (∃ v, Hid (JoinIs P XP (co l) l.length v) ∧ e = .returned (.tuple #[.int .i64 v, .int .i64 0])) ∧ Below w.heap.size w w' := by
  obtain ⟨_, ht, hI, hl⟩ := hc.ok
  have cC := checkOpen_any (P : Int) t lo cl l (by omega) 0 hc w hrow
  have cJ := hid (fun w1 (hB : Below w.heap.size w w1) => join_any P hP hP2 lo cl l.length (by omega) (by omega) l rfl hI w1 (ib hrow hB))
  have hlt : l.length ≤ 9 := by omega
  generalize l.length = nl at *
  clear hc hrow hl ht hI
  go_enter Try.func8, Try.ntmps8
  go_wp2_with (first
    | (go_at_call 20; refine cC.mono ?_; rintro e w1 ⟨rfl, hB⟩; have HB := hid hB; clear hB)
    | (go_at_call 21; refine (cJ.out w1 HB.out).mono ?_; rintro e w2 ⟨⟨v, rfl, hv⟩, hB2⟩; have HV := hid hv; clear hv))
  go_ret2
  exact ⟨⟨v, HV, rfl⟩, below_trans HB.out hB2⟩

theorem Open_any (p t : Int) (lo : Option Addr) (cl : Nat) (l : List Int) (hl : l.length ≤ 9223372036854775807) (c : Int) (hc : OpC p t l c) (w : World) (hrow : IRow w lo l) :
    Calls Try.prog 8 #[.int .i64 p, .int .i64 t, .slice lo l.length cl] w fun e w' => (∃ v, e = .returned (.tuple #[.int .i64 v, .int .i64 c]) ∧ (c ≠ 0 → v = 0) ∧ (c = 0 → JoinIs p.toNat XP (co l) l.length v)) ∧ Below w.heap.size w w' := by
  by_cases h0 : c = 0
  · subst h0
    obtain ⟨P, rfl, hP, hP2⟩ := hc.ok.1.ok
    refine (Open_yes P hP hP2 t lo cl l hc w hrow).mono ?_
    rintro e w' ⟨⟨v, hv, rfl⟩, hB⟩
    exact ⟨⟨v, rfl, fun h => absurd rfl h, fun _ => by rw [Int.toNat_natCast]; exact hv.out⟩, hB⟩
  · refine (Open_bad p t lo cl l hl c hc h0 w hrow).mono ?_
    rintro e w' ⟨rfl, hB⟩
    exact ⟨⟨0, rfl, fun _ => rfl, fun h => absurd h h0⟩, hB⟩

theorem mp_succ (n : Nat) (X Y : Nat → Int) : mp (n + 1) X Y = mp n X Y ++ [(X n, Y n)] := by simp [mp, List.range_succ]

theorem refJoin_mp (P : Nat) (hP : Pr P) (hP2 : P ≤ 251) (n : Nat) (hn : n < P) (hn2 : n ≤ 13) (f : Nat → Int) (hf : ∀ j, j < n → 0 ≤ f j ∧ f j < (P : Int)) (v : Int) (hv : JoinIs P XP f n v) (ao : Option Addr) (cap : Nat) (w : World) (hrow : PRow w ao (mp n XP f)) :
    Calls Try.prog 11 #[.int .i64 (P : Int), .slice ao n cap] w fun e w' => e = .returned (.int .i64 v) ∧ Below w.heap.size w w' := by
  have hl := mp_length n XP f
  obtain ⟨_, _, _, _, _, hI, hD⟩ := (jnc_mp hP hP2 hn hn2 hf).ok.1.ok
  have h := refJoin_any P hP hP2 ao cap (mp n XP f) (by omega) (fun j hj => by
    rw [hl] at hj
    rw [mp_px hj, mp_py hj]
    exact ⟨by unfold XP; omega, hf j hj⟩) hD v (by rw [hl]; exact JoinIs.congr hv (fun j hj => (mp_px hj).symm) (fun j hj => (mp_py hj).symm)) w hrow
  rwa [hl] at h

/-- The code ahead of the shares. -/
def O0 (p t z : Int) : Prop := (PrC p z ∧ z ≠ 0) ∨ (PrC p 0 ∧ Go.Proofs.Ytpnmepobdnclkaa.Calls177.TC p t z)

/-- The code behind the shares, and their number. -/
theorem open_code {p t c z0 z : Int} {l : List Int} (hc : OpC p t l c) (h0 : O0 p t z0) (h : St z0 p l l.length z) : (z ≠ 0 → c = z) ∧ (z = 0 → (0 ≤ t ∧ t ≤ 4) ∧ (((l.length : Int) ≠ 2 * t + 1 ∧ c = 4) ∨ ((l.length : Int) = 2 * t + 1 ∧ c = 0))) := by
  rcases h0 with ⟨a1, a2⟩ | ⟨a1, a2⟩
  · have e : z = z0 := by
      rcases h with h | h
      · exact h.2
      · exact absurd h.1 a2
    have ec : c = z0 := by
      rcases hc with ⟨b1, b2⟩ | ⟨b1, _⟩
      · exact prc_uniq b1 a1
      · exact absurd (prc_uniq a1 b1) a2
    exact ⟨fun _ => by rw [ec, e], fun hz => absurd (e ▸ hz) a2⟩
  · rcases hc with ⟨b1, b2⟩ | ⟨b1, b⟩
    · exact absurd (prc_uniq b1 a1) b2
    · rcases a2 with ⟨a3, a4⟩ | ⟨a3, a4⟩
      · have ez : z = 2 := by
          rcases h with h | h
          · rw [h.2, a4]
          · rw [a4] at h; exact absurd h.1 (by decide)
        have ec : c = 2 := by
          rcases b with ⟨_, b⟩ | ⟨b, _⟩
          · exact b
          · exact absurd b.1 a3
        exact ⟨fun _ => by rw [ec, ez], fun hz => by omega⟩
      · rcases h with h | ⟨_, ⟨h1, h2⟩ | ⟨h1, h2⟩⟩
        · exact absurd a4 h.1
        · refine ⟨fun hz => absurd h2 hz, fun _ => ⟨⟨a3.1, a3.2.1⟩, ?_⟩⟩
          rcases b with ⟨b, _⟩ | ⟨_, b⟩
          · exact absurd ⟨a3, h1⟩ b
          · exact b
        · refine ⟨fun _ => ?_, fun hz => by omega⟩
          rcases b with ⟨_, b⟩ | ⟨b, _⟩
          · rw [b, h2]
          · exact absurd b.2 h1

end Go.Proofs.Ytpnmepobdnclkaa.Calls190
