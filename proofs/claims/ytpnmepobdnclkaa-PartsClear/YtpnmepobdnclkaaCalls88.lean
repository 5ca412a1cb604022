/-
  Package share: what is wrong with a secret that is to be split, its polynomial, and its shares.
-/
import Derived.Test.YtpnmepobdnclkaaCalls57
import Derived.Test.YtpnmepobdnclkaaCalls67
import Derived.Test.YtpnmepobdnclkaaCalls69
import Derived.Test.YtpnmepobdnclkaaCalls87
import Derived.Test.YtpnmepobdnclkaaFoldD
namespace Go.Proofs.Ytpnmepobdnclkaa.Calls88
set_option linter.unusedVariables false
open Go.ChangeShapes Go.WideShapes Go.ChangeAt Go.RowKit Go.Deep Go.Proofs.Ytpnmepobdnclkaa.Base Go.Proofs.Ytpnmepobdnclkaa.Base2 Go.Proofs.Ytpnmepobdnclkaa.Num Go.Proofs.Ytpnmepobdnclkaa.Num7 Go.Proofs.Ytpnmepobdnclkaa.Num13 Go.Proofs.Ytpnmepobdnclkaa.Num16 Go.Proofs.Ytpnmepobdnclkaa.Num17 Go.Proofs.Ytpnmepobdnclkaa.Num34 Go.Proofs.Ytpnmepobdnclkaa.Num35 Go.Proofs.Ytpnmepobdnclkaa.Num39 Go.Proofs.Ytpnmepobdnclkaa.Base4 Go.Proofs.Ytpnmepobdnclkaa.Calls56 Go.Proofs.Ytpnmepobdnclkaa.Calls57 Go.Proofs.Ytpnmepobdnclkaa.Calls67 Go.Proofs.Ytpnmepobdnclkaa.Calls69 Go.Proofs.Ytpnmepobdnclkaa.Calls87

theorem shOut1_any (A : Nat) (p x : Int) (w : World) (hA : w.cell? ⟨A, 0, none⟩ = some (.int .i64 p)) :
    Calls Try.prog 75 #[.int .i64 x, .pointer (some ⟨A, 0, none⟩)] w fun e w' => e = .returned (.bool (outB p x)) ∧ w' = w := by
  by_cases h : x < 0
  · have e : Hid (outB p x = true) := by show _ = _; unfold outB; rw [decide_eq_true h]; rfl
    go_enter Try.func75, Try.ntmps75
    go_wp2
    go_ret
    exact ⟨ret_bool e.out.symm, rfl⟩
  · have h' : decide (x < 0) = false := by simpa using h
    by_cases h2 : p ≤ x
    · have e : Hid (outB p x = true) := by show _ = _; unfold outB; rw [decide_eq_true h2]; simp
      go_enter Try.func75, Try.ntmps75
      go_wp2
      go_ret
      exact ⟨ret_bool e.out.symm, rfl⟩
    · have h2' : decide (p ≤ x) = false := by simpa using h2
      have e : Hid (outB p x = false) := by show _ = _; unfold outB; rw [decide_eq_false h, decide_eq_false h2]; rfl
      go_enter Try.func75, Try.ntmps75
      go_wp2
      go_ret
      exact ⟨ret_bool e.out.symm, rfl⟩

theorem shOutside_any (p : Int) (w : World) :
    Calls Try.prog 66 #[.int .i64 p] w fun e w' => e = .returned (.func (.func 75) #[] #[.pointer (some ⟨w.heap.size, 0, none⟩)]) ∧ w' = w.alloc (.cells #[.int .i64 p] 2) := by
  go_enter Try.func66, Try.ntmps66
  go_wp2
  go_ret
  exact ⟨rfl, rfl⟩

set_option maxRecDepth 100000 in
theorem shIndex_any (ao : Option Addr) (cap : Nat) (l : List Int) (A : Nat) (p : Int) (hl : l.length ≤ 1048576) (w : World) (hrow : IRow w ao l) (hA : w.cell? ⟨A, 0, none⟩ = some (.int .i64 p)) :
    Calls Try.prog 57 #[.slice ao l.length cap, .func (.func 75) #[] #[.pointer (some ⟨A, 0, none⟩)]] w fun e w' => SeenO p l e ∧ w' = w := by
  obtain ⟨N, hN⟩ : ∃ N, N = l.length := ⟨_, rfl⟩
  have HN : Hid (N = l.length) := hN
  rw [← hN] at hl ⊢
  clear hN
  go_enter Try.func57, Try.ntmps57
  go_wp2
  go_loop [8] (fun i => ∃ k : Nat, i = .int .i64 (k : Int) ∧ k ≤ N ∧ Hid (∀ j, j < k → outB p (co l j) = false)) (fun i => ((N : Int) - intOf i).toNat)
  case atStart => exact ⟨0, rfl, by omega, fun j hj => by omega⟩
  case round =>
    obtain ⟨k, rfl, hk, hnot⟩ := hrel
    by_cases hgo : k < N
    · have hgo' : (k : Int) < (N : Int) := by omega
      have hkl : Hid (k < l.length) := by have := HN.out; show k < l.length; omega
      rcases ao with _ | ad
      · exact (irow_none hrow hkl.out).elim
      · have c := hrow.2 ad rfl k hkl.out
        obtain ⟨q, hqe⟩ : ∃ q, co l k = q := ⟨_, rfl⟩
        rw [hqe] at c
        have hqm : Hid (q ∈ l) := by show q ∈ l; rw [← hqe]; exact co_mem hkl.out
        have HE := hid hqe
        clear hqe
        have cC := shOut1_any A p q w hA
        cases hb : outB p q with
        | true =>
          rw [hb] at cC
          have HB := hid hb
          clear hb
          go_wp2_with (go_at_call 75; refine cC.mono ?_; rintro e w1 ⟨rfl, hw⟩; subst w1)
          go_ret
          exact ⟨.inl ⟨k, ⟨q, hqm.out, HB.out⟩, rfl⟩, rfl⟩
        | false =>
          rw [hb] at cC
          have HB : Hid (∀ j, j < k + 1 → outB p (co l j) = false) := fun j hj => by
            by_cases e : j = k
            · subst e; rw [HE.out]; exact hb
            · exact hnot.out j (by omega)
          clear hb
          go_wp2_with (go_at_call 75; refine cC.mono ?_; rintro e w1 ⟨rfl, hw⟩; subst w1)
          go_round
          case rel => exact ⟨k + 1, by simp, by omega, HB⟩
          case measure => exact measK hgo
    · have hgo' : ¬ (k : Int) < (N : Int) := by omega
      have hm : Hid (∀ q ∈ l, outB p q = false) := fun q hq => by
        obtain ⟨j, hj, e⟩ := List.getElem_of_mem hq
        have := hnot.out j (by have := HN.out; omega)
        simpa [co, List.getD, hj, e] using this
      go_wp2
      go_ret
      exact ⟨.inr ⟨hm.out, rfl⟩, rfl⟩

theorem shContains_any (ao : Option Addr) (cap : Nat) (l : List Int) (A p : Nat) (hl : l.length ≤ 1048576) (b : Bool) (hb : b = false ↔ Bd p l) (w : World) (hrow : IRow w ao l) (hA : w.cell? ⟨A, 0, none⟩ = some (.int .i64 (p : Int))) :
    Calls Try.prog 44 #[.slice ao l.length cap, .func (.func 75) #[] #[.pointer (some ⟨A, 0, none⟩)]] w fun e w' => e = .returned (.bool b) ∧ w' = w := by
  have cF := shIndex_any ao cap l A (p : Int) hl w hrow hA
  cases b with
  | true =>
    have cI := cF.mono (R' := fun e w1 => (∃ k : Nat, e = .returned (.int .i64 (k : Int))) ∧ w1 = w) (fun e w1 h => ⟨by
      rcases h.1 with ⟨k, _, e⟩ | ⟨h, _⟩
      · exact ⟨k, e⟩
      · exfalso
        rcases bd_or p l with ⟨x, h1, h2⟩ | h1
        · rw [h x h1] at h2; exact absurd h2 (by decide)
        · exact absurd (hb.2 h1) (by decide), h.2⟩)
    clear cF hb hrow hA
    go_enter Try.func44, Try.ntmps44
    go_wp2_with (go_at_call 57; refine cI.mono ?_; rintro e w1 ⟨⟨k, rfl⟩, hw⟩; subst w1)
    go_ret
    exact ⟨ret_bool (by simp), rfl⟩
  | false =>
    have hB := hb.1 rfl
    have cI := cF.mono (R' := fun e w1 => e = .returned (.int .i64 (-1)) ∧ w1 = w) (fun e w1 h => ⟨by
      rcases h.1 with ⟨k, ⟨x, h1, h2⟩, e⟩ | ⟨_, e⟩
      · rw [Bd.out hB h1] at h2; exact absurd h2 (by decide)
      · exact e, h.2⟩)
    clear cF hb hrow hA hB
    go_enter Try.func44, Try.ntmps44
    go_wp2_with (go_at_call 57; refine cI.mono ?_; rintro e w1 ⟨rfl, hw⟩; subst w1)
    go_ret
    exact ⟨rfl, rfl⟩

/-- What may be split. -/
def Gd (P : Nat) (s n : Int) (m : List Int) : Prop := (0 ≤ s ∧ s < (P : Int)) ∧ Bd P m ∧ (0 ≤ n ∧ n < (P : Int))

/-- The code of what is to be split. -/
def SpC (p s n : Int) (m : List Int) (c : Int) : Prop :=
  (PrC p c ∧ c ≠ 0) ∨ (PrC p 0 ∧ ((12 < m.length ∧ c = 1) ∨ (m.length ≤ 12 ∧ ((¬ Gd p.toNat s n m ∧ c = 2) ∨ (Gd p.toNat s n m ∧ c = 0)))))

theorem spc_ex (p s n : Int) (m : List Int) : ∃ c, SpC p s n m c := by
  obtain ⟨c, hc⟩ := prc_ex p
  by_cases h0 : c = 0
  · subst h0
    by_cases hl : m.length ≤ 12
    · rcases Classical.em (Gd p.toNat s n m) with h | h
      · exact ⟨0, .inr ⟨hc, .inr ⟨hl, .inr ⟨h, rfl⟩⟩⟩⟩
      · exact ⟨2, .inr ⟨hc, .inr ⟨hl, .inl ⟨h, rfl⟩⟩⟩⟩
    · exact ⟨1, .inr ⟨hc, .inl ⟨by omega, rfl⟩⟩⟩
  · exact ⟨c, .inl ⟨hc, h0⟩⟩

theorem SpC.ok {p s n : Int} {m : List Int} (h : SpC p s n m 0) : ∃ P : Nat, p = (P : Int) ∧ Pr P ∧ P ≤ 251 ∧ m.length ≤ 12 ∧ Gd P s n m := by
  rcases h with ⟨_, h⟩ | ⟨h, ⟨_, h2⟩ | ⟨h2, ⟨_, h3⟩ | ⟨h3, _⟩⟩⟩
  · exact absurd rfl h
  · cases h2
  · cases h3
  · obtain ⟨P, rfl, h4, h5⟩ := h.ok
    rw [Int.toNat_natCast] at h3
    exact ⟨P, rfl, h4, h5, h2, h3⟩

theorem SpC.of {P : Nat} {s n : Int} {m : List Int} (h : Pr P) (h2 : P ≤ 251) (hl : m.length ≤ 12) (hc : Gd P s n m) : SpC (P : Int) s n m 0 :=
  .inr ⟨PrC.of h h2, .inr ⟨hl, .inr ⟨by rw [Int.toNat_natCast]; exact hc, rfl⟩⟩⟩

theorem pc_nil {p c : Int} (h : PrC p c) : PC p [] c := by
  by_cases h0 : c = 0
  · subst h0
    exact .inr ⟨h, .inr ⟨by simp, .inr ⟨Cn.nil _, rfl⟩⟩⟩
  · exact .inl ⟨h, h0⟩

theorem outB_no {p x : Int} : outB p x = false ↔ 0 ≤ x ∧ x < p := by
  unfold outB
  simp

set_option maxRecDepth 100000 in
set_option maxHeartbeats 1000000 in
theorem checkSplit_any (p s n : Int) (mo : Option Addr) (cm : Nat) (m : List Int) (hm : m.length ≤ 9223372036854775807) (c : Int) (hc : SpC p s n m c) (w : World) (hrow : IRow w mo m) :
    Calls Try.prog 50 #[.int .i64 p, .int .i64 s, .slice mo m.length cm, .int .i64 n] w fun e w' => e = .returned (.int .i64 c) ∧ Below w.heap.size w w' := by
  obtain ⟨nm', hn⟩ : ∃ nm', nm' = m.length := ⟨_, rfl⟩
  rcases hc with ⟨h1, h0⟩ | ⟨h1, ⟨hl, rfl⟩ | ⟨hl, h2⟩⟩
  · have cC := Check_any p none 0 [] (by simp) c (pc_nil h1) w (irow_nil _ _)
    simp only [List.length_nil] at cC
    rw [← hn] at hm ⊢
    have h3 : (c != 0) = true := by simpa using h0
    have h4 : (c == 0) = false := by simpa using h0
    clear hn hrow h1
    go_enter Try.func50, Try.ntmps50
    go_wp2_with (go_at_call 43; refine cC.mono ?_; rintro e w1 ⟨rfl, hB⟩)
    go_ret
    exact ⟨rfl, hB⟩
  · have cC := Check_any p none 0 [] (by simp) 0 (pc_nil h1) w (irow_nil _ _)
    simp only [List.length_nil] at cC
    have hl' : (12 : Int) < (nm' : Int) := by omega
    rw [← hn] at hm ⊢
    clear hn hrow h1 hl
    go_enter Try.func50, Try.ntmps50
    go_wp2_with (go_at_call 43; refine cC.mono ?_; rintro e w1 ⟨rfl, hB⟩)
    go_ret
    exact ⟨rfl, hB⟩
  · have cC := Check_any p none 0 [] (by simp) 0 (pc_nil h1) w (irow_nil _ _)
    simp only [List.length_nil] at cC
    obtain ⟨P, rfl, hP, hP2⟩ := h1.ok
    rw [Int.toNat_natCast] at h2
    have cO := fun w => shOutside_any (P : Int) w
    have hl' : decide ((12 : Int) < (nm' : Int)) = false := by simp; omega
    have hb : ∃ b : Bool, (b = false ↔ Bd P m) := by
      rcases Classical.em (Bd P m) with h | h
      · exact ⟨false, ⟨fun _ => h, fun _ => rfl⟩⟩
      · exact ⟨true, ⟨fun e => (by cases e), fun e => absurd e h⟩⟩
    obtain ⟨b, hb⟩ := hb
    have cS := fun w1 : World => shOut1_any w1.heap.size (P : Int) s (w1.alloc (.cells #[.int .i64 (P : Int)] 2)) (boxP w1 (P : Int))
    have cN := fun w1 : World => shOut1_any w1.heap.size (P : Int) n (w1.alloc (.cells #[.int .i64 (P : Int)] 2)) (boxP w1 (P : Int))
    have cF := fun w1 (hB : Below w.heap.size w w1) => shContains_any mo cm m w1.heap.size P (by omega) b hb (w1.alloc (.cells #[.int .i64 (P : Int)] 2)) (ib (ib hrow hB) ((Below.refl _ w1).alloc (Nat.le_refl _) _)) (boxP w1 (P : Int))
    have hBa := hid (fun w1 (hB : Below w.heap.size w w1) => hB.alloc hB.size (.cells #[.int .i64 (P : Int)] 2))
    have ec : c = if outB (P : Int) s = false ∧ b = false ∧ outB (P : Int) n = false then 0 else 2 := by
      by_cases hg : outB (P : Int) s = false ∧ b = false ∧ outB (P : Int) n = false
      · rw [if_pos hg]
        rcases h2 with ⟨h, _⟩ | ⟨_, e⟩
        · exact absurd ⟨outB_no.1 hg.1, hb.1 hg.2.1, outB_no.1 hg.2.2⟩ h
        · exact e
      · rw [if_neg hg]
        rcases h2 with ⟨_, e⟩ | ⟨h, _⟩
        · exact e
        · exact absurd ⟨outB_no.2 h.1, hb.2 h.2.1, outB_no.2 h.2.2⟩ hg
    simp only [← hn] at cF hm ⊢
    clear h2 hb hrow hn hl h1
    cases hs : outB (P : Int) s with
    | true =>
      rw [hs, if_neg (by simp)] at ec
      rw [hs] at cS
      subst ec
      clear hs cN cF
      go_enter Try.func50, Try.ntmps50
      go_wp2_with (first
        | (go_at_call 43; refine cC.mono ?_; rintro e w1 ⟨rfl, hB⟩)
        | (go_at_call 66; refine (cO _).mono ?_; rintro e w' ⟨rfl, hw⟩; subst w')
        | (go_at_call 75; refine (cS _).mono ?_; rintro e w' ⟨rfl, hw⟩; subst w'))
      go_ret
      exact ⟨rfl, hBa.out _ hB⟩
    | false =>
      rw [hs] at cS
      cases b with
      | true =>
        rw [hs, if_neg (by simp)] at ec
        subst ec
        clear hs cN
        go_enter Try.func50, Try.ntmps50
        go_wp2_with (first
          | (go_at_call 43; refine cC.mono ?_; rintro e w1 ⟨rfl, hB⟩)
          | (go_at_call 66; refine (cO _).mono ?_; rintro e w' ⟨rfl, hw⟩; subst w')
          | (go_at_call 75; refine (cS _).mono ?_; rintro e w' ⟨rfl, hw⟩; subst w')
          | (go_at_call 44; refine (cF _ hB).mono ?_; rintro e w' ⟨rfl, hw⟩; subst w'))
        go_ret
        exact ⟨rfl, hBa.out _ hB⟩
      | false =>
        cases hq : outB (P : Int) n with
        | true =>
          rw [hq, if_neg (by simp)] at ec
          rw [hq] at cN
          subst ec
          clear hs hq
          go_enter Try.func50, Try.ntmps50
          go_wp2_with (first
            | (go_at_call 43; refine cC.mono ?_; rintro e w1 ⟨rfl, hB⟩)
            | (go_at_call 66; refine (cO _).mono ?_; rintro e w' ⟨rfl, hw⟩; subst w')
            | (go_at_call 75; refine (cS _).mono ?_; rintro e w' ⟨rfl, hw⟩; subst w'; clear cS)
            | (go_at_call 44; refine (cF _ hB).mono ?_; rintro e w' ⟨rfl, hw⟩; subst w')
            | (go_at_call 75; refine (cN _).mono ?_; rintro e w' ⟨rfl, hw⟩; subst w'))
          go_ret
          exact ⟨rfl, hBa.out _ hB⟩
        | false =>
          rw [hs, hq, if_pos (by simp)] at ec
          rw [hq] at cN
          subst ec
          clear hs hq
          go_enter Try.func50, Try.ntmps50
          go_wp2_with (first
            | (go_at_call 43; refine cC.mono ?_; rintro e w1 ⟨rfl, hB⟩)
            | (go_at_call 66; refine (cO _).mono ?_; rintro e w' ⟨rfl, hw⟩; subst w')
            | (go_at_call 75; refine (cS _).mono ?_; rintro e w' ⟨rfl, hw⟩; subst w'; clear cS)
            | (go_at_call 44; refine (cF _ hB).mono ?_; rintro e w' ⟨rfl, hw⟩; subst w')
            | (go_at_call 75; refine (cN _).mono ?_; rintro e w' ⟨rfl, hw⟩; subst w'))
          go_ret
          exact ⟨rfl, hBa.out _ hB⟩

/-! ### the polynomial -/

theorem two_rows (w : World) (s : Int) (mo : Option Addr) (n cm : Nat) : ((w.alloc (.cells #[.int .i64 s] 2)).alloc (.cells #[.slice (some ⟨w.heap.size, 0, none⟩) 1 1, .slice mo n cm] 22)).cell? ⟨w.heap.size + 1, 0, none⟩ = some (.slice (some ⟨w.heap.size, 0, none⟩) 1 1) ∧
    ((w.alloc (.cells #[.int .i64 s] 2)).alloc (.cells #[.slice (some ⟨w.heap.size, 0, none⟩) 1 1, .slice mo n cm] 22)).cell? ⟨w.heap.size + 1, 1, none⟩ = some (.slice mo n cm) := by
  have h := BoxC.new (w.alloc (.cells #[.int .i64 s] 2)) 22 #[.slice (some ⟨w.heap.size, 0, none⟩) 1 1, .slice mo n cm]
  rw [World.size_alloc] at h
  exact ⟨h.cell 0, h.cell 1⟩

theorem irow_first (W : World) (x : Int) : IRow (W.alloc (.cells #[.int .i64 x] 2)) (some ⟨W.heap.size, 0, none⟩) [x] := by
  refine ⟨fun e => (by cases e), fun ad e j hj => ?_⟩
  obtain rfl : (⟨W.heap.size, 0, none⟩ : Addr) = ad := by simpa using e
  obtain rfl : j = 0 := by simpa using hj
  simp [co, zero_add_addr]

set_option maxRecDepth 100000 in
theorem shPoly_any (s : Int) (mo : Option Addr) (cm : Nat) (m : List Int) (hm : m.length ≤ 12) (w : World) (hrow : IRow w mo m) :
    Calls Try.prog 51 #[.int .i64 s, .slice mo m.length cm] w fun e w' => RetL (tr (s :: m)) e w' ∧ Below w.heap.size w w' := by
  have hB1 := (Below.refl _ w).alloc (Nat.le_refl _) (.cells #[.int .i64 s] 2)
  have hB2 := hB1.alloc hB1.size (.cells #[.slice (some ⟨w.heap.size, 0, none⟩) 1 1, .slice mo m.length cm] 22)
  have hB12 := (Below.refl _ (w.alloc (.cells #[.int .i64 s] 2))).alloc (Nat.le_refl _) (.cells #[.slice (some ⟨w.heap.size, 0, none⟩) 1 1, .slice mo m.length cm] 22)
  have cC := slConcat2 (w.heap.size + 1) (some ⟨w.heap.size, 0, none⟩) mo 1 cm [s] m (by simp) (by simp; omega) _ (two_rows w s mo m.length cm).1 (two_rows w s mo m.length cm).2 (ib (irow_first w s) hB12) (ib hrow hB2)
  have HB2 := hid hB2
  rw [show [s] ++ m = s :: m from rfl] at cC
  obtain ⟨l, hl⟩ : ∃ l, l = s :: m := ⟨_, rfl⟩
  have hll : l.length ≤ 13 := by rw [hl]; simp; omega
  rw [← hl] at cC ⊢
  generalize m.length = n at *
  clear hB1 hB2 hB12 hrow hl
  go_enter Try.func51, Try.ntmps51
  go_wp2_with (go_at_call 67; refine cC.mono ?_; rintro e W ⟨⟨bo, cb, rfl, hcb, hr⟩, hB⟩; have HR := hid hr; have HB := hid (below_trans HB2.out hB); clear hr hB)
  obtain ⟨N, hN⟩ : ∃ N, N = l.length := ⟨_, rfl⟩
  have HN : Hid (N = l.length) := hN
  rw [← hN] at hll hcb ⊢
  clear hN cC
  go_loop [5] (fun v => ∃ k : Nat, v = .slice bo k cb ∧ k ≤ N ∧ Hid (tr (l.take k) = tr l)) (fun v => slen v)
  case atStart => exact ⟨N, rfl, by omega, by show _ = _; rw [HN.out, List.take_of_length_le (Nat.le_refl _)]⟩
  case round =>
    obtain ⟨k, rfl, hk, hT⟩ := hrel
    match k, hk, hT with
    | 0, hk, hT =>
      go_wp2
      go_ret
      refine ⟨?_, HB.out⟩
      have e : tr l = [] := by rw [← hT.out]; simp [tr]
      rw [e]
      exact ⟨bo, cb, rfl, by simp, irow_nil _ _⟩
    | q + 1, hk, hT =>
      rcases bo with _ | ad
      · exact (irow_none HR.out (j := q) (by have := HN.out; omega)).elim
      · have d0 := HR.out.2 ad rfl q (by have := HN.out; omega)
        have hz : Hid (co l q = 0 → tr (l.take (q + 1)) = tr (l.take q)) := fun h0 => tr_take_zero (l := l) (k := q) (by have := HN.out; omega) h0
        have hs : Hid (co l q ≠ 0 → tr (l.take (q + 1)) = l.take (q + 1)) := fun h0 => tr_take_stop (l := l) (k := q + 1) (by have := HN.out; omega) (.inr (by rw [Nat.add_sub_cancel]; exact h0))
        generalize co l q = x at *
        by_cases h0 : x = 0
        · subst h0
          have hz2 : Hid (tr (l.take (q + 1)) = tr (l.take q)) := hz.out rfl
          clear hz hs
          go_wp2
          go_round
          case rel => exact ⟨q, by simp, by omega, by show _ = _; rw [← hz2.out, hT.out]⟩
          case measure => simp [slen]
        · have h0' : (x == 0) = false := by simpa using h0
          have hs2 : Hid (tr (l.take (q + 1)) = l.take (q + 1)) := hs.out h0
          clear hz hs
          go_wp2
          go_ret
          refine ⟨?_, HB.out⟩
          have e : tr l = l.take (q + 1) := by rw [← hT.out, hs2.out]
          have el : (l.take (q + 1)).length = q + 1 := by rw [List.length_take]; have := HN.out; omega
          rw [e]
          exact ⟨_, cb, by rw [el]; rfl, by rw [el]; omega, irow_take HR.out _⟩

/-! ### the shares -/

/-- The shares of the numbers 1 to n. -/
def shl (P : Nat) (s : Int) (m : List Int) (n : Nat) : List (Int × Int) := (List.range n).map fun i : Nat => ((i : Int) + 1, ev (s :: m) ((i : Int) + 1) % (P : Int))

theorem shl_length (P : Nat) (s : Int) (m : List Int) (n : Nat) : (shl P s m n).length = n := by simp [shl]

theorem shl_get {P : Nat} {s : Int} {m : List Int} {n j : Nat} (h : j < n) : (shl P s m n).getD j (0, 0) = ((j : Int) + 1, ev (s :: m) ((j : Int) + 1) % (P : Int)) := by simp [shl, List.getD, h]

theorem shl_px {P : Nat} {s : Int} {m : List Int} {n j : Nat} (h : j < n) : px (shl P s m n) j = (j : Int) + 1 := by unfold px; rw [shl_get h]

theorem shl_py {P : Nat} {s : Int} {m : List Int} {n j : Nat} (h : j < n) : py (shl P s m n) j = ev (s :: m) ((j : Int) + 1) % (P : Int) := by unfold py; rw [shl_get h]

theorem shl_succ (P : Nat) (s : Int) (m : List Int) (n : Nat) : shl P s m (n + 1) = shl P s m n ++ [((n : Int) + 1, ev (s :: m) ((n : Int) + 1) % (P : Int))] := by
  unfold shl
  rw [List.range_succ, List.map_append]
  rfl

theorem rs_tr {P : Nat} (hp : 1 ≤ P) (l : List Int) (x : Int) : (rs (ev (tr l) x) P : Int) = ev l x % (P : Int) := by
  rw [rs_of hp ((tr_q P l).ev x), rs_cast _ hp]

theorem gd_bd {P : Nat} {s n : Int} {m : List Int} (h : Gd P s n m) : Bd P (s :: m) := fun x hx => by
  rcases List.mem_cons.1 hx with e | e
  · rw [e]; exact h.1
  · exact h.2.1 x e

theorem flatP_snoc (l : List (Int × Int)) (x y : Int) : flatP (l ++ [(x, y)]) = flatP l ++ [.int .i64 x, .int .i64 y] := by
  rw [flatP_append]; rfl

theorem pair_cells {W : World} {t : TypeId} {a b : Value} : ∀ j u, ([a, b] : List Value)[j]? = some u → (W.alloc (.cells #[a, b] t)).cell? ((⟨W.heap.size, 0, none⟩ : Addr).add j) = some u := by
  intro j u hj
  match j, hj with
  | 0, hj =>
    simp at hj; subst hj
    simp [Addr.add]
  | 1, hj =>
    simp at hj; subst hj
    simp [Addr.add]

theorem below_snoc {W w1 : World} {base : Nat} {e : TypeId} {size : Nat} {v : Value} {k : Nat} {xs : List Value} {tmp : Obj} {w : World} (hB : Below w.heap.size w W) (hb : w.heap.size ≤ base)
    (hown : W.ownsRow base e size v k xs) (hgrow : (W.alloc tmp).grownBy w1 v.ownBlock) : Below w.heap.size w w1 := by
  refine (hB.alloc hB.size tmp).grown hgrow (by have := hB.size; simp; omega) fun j ej => ?_
  exact Nat.le_trans hb (hown.lt j ej).1

theorem measX {k N : Nat} (h : k < N) : ((N : Int) + 1 - ((k : Int) + 1 + 1)).toNat < ((N : Int) + 1 - ((k : Int) + 1)).toNat := by omega

/-- The call has returned points that read as r, and no error. -/
def RetPE (r : List (Int × Int)) (e : Ending) (w' : World) : Prop := ∃ bo cb, e = .returned (.tuple #[.slice bo r.length cb, .int .i64 0]) ∧ r.length ≤ cb ∧ PRow w' bo r

theorem Split_bad (p s n : Int) (mo : Option Addr) (cm : Nat) (m : List Int) (hm : m.length ≤ 9223372036854775807) (c : Int) (hc : SpC p s n m c) (h0 : c ≠ 0) (w : World) (hrow : IRow w mo m) :
    Calls Try.prog 41 #[.int .i64 p, .int .i64 s, .slice mo m.length cm, .int .i64 n] w fun e w' => e = .returned (.tuple #[.slice none 0 0, .int .i64 c]) ∧ Below w.heap.size w w' := by
  have cC := checkSplit_any p s n mo cm m hm c hc w hrow
  generalize m.length = nm at *
  have h1 : (c != 0) = true := by simpa using h0
  have h2 : (c == 0) = false := by simpa using h0
  clear hc hrow
  go_enter Try.func41, Try.ntmps41
  go_wp2_with (go_at_call 50; refine cC.mono ?_; rintro e w1 ⟨rfl, hB⟩)
  go_ret2
  exact ⟨rfl, hB⟩

set_option maxRecDepth 100000 in
set_option maxHeartbeats 1000000 in
theorem Split_yes (P : Nat) (hP : Pr P) (hP2 : P ≤ 251) (s : Int) (N : Nat) (mo : Option Addr) (cm : Nat) (m : List Int) (hm : m.length ≤ 12) (hg : Gd P s (N : Int) m) (w : World) (hrow : IRow w mo m) :
    Calls Try.prog 41 #[.int .i64 (P : Int), .int .i64 s, .slice mo m.length cm, .int .i64 (N : Int)] w fun e w' => RetPE (shl P s m N) e w' ∧ Below w.heap.size w w' := by
  obtain ⟨i0, hi, hz0, hz1, hz2⟩ := infoPt_ex
  have hp1 : 1 ≤ P := by have := hP.1; omega
  have cC := checkSplit_any (P : Int) s (N : Int) mo cm m (by omega) 0 (SpC.of hP hP2 hm hg) w hrow
  have cQ := fun w' (hB : Below w.heap.size w w') => shPoly_any s mo cm m hm w' (ib hrow hB)
  have hN : N < P := by have := hg.2.2.2; omega
  have hcn : Cn P (tr (s :: m)) := tr_cn (gd_bd hg)
  have hal : (tr (s :: m)).length ≤ 13 := by have := tr_length (s :: m); simp at this; omega
  have cA := fun (o1 : Option Addr) (c1 k : Nat) (hk : k < N) w' (r : IRow w' o1 (tr (s :: m))) => At_yes P hP hP2 o1 c1 (tr (s :: m)) hal hcn ((k : Int) + 1) ⟨by omega, by omega⟩ w' r
  simp only [rs_tr hp1] at cA
  have hst := hid (fun k => shl_succ P s m k)
  have hlen := hid (fun k => shl_length P s m k)
  have hs0 : Hid (shl P s m 0 = []) := rfl
  obtain ⟨yv, hyv⟩ : ∃ yv : Nat → Int, ∀ k : Nat, ev (s :: m) ((k : Int) + 1) % (P : Int) = yv k := ⟨_, fun _ => rfl⟩
  simp only [hyv] at cA hst
  generalize shl P s m = L at *
  generalize tr (s :: m) = a at *
  generalize m.length = nm at *
  clear hrow hg hcn hyv hP
  go_enter Try.func41, Try.ntmps41
  go_wp2_with (first
    | (go_at_call 50; refine cC.mono ?_; rintro e w1 ⟨rfl, hB⟩)
    | (go_at_call 51; refine (cQ _ hB).mono ?_; rintro e W ⟨⟨bo, cb, rfl, hcb, hr⟩, hB2⟩; have HR := hid hr; have HB := hid (below_trans hB hB2); clear hr hB2))
  clear cC cQ hB
  go_loopw [12, 13] (fun v x wr => ∃ k : Nat, x = .int .i64 ((k : Int) + 1) ∧ k ≤ N ∧ Hid (wr.ownsRow W.heap.size 30 2 v k (flatP (L k))) ∧ Hid (Below W.heap.size W wr)) (fun v x wr => ((N : Int) + 1 - intOf x).toNat)
  case atStart => exact ⟨0, rfl, by omega, by show World.ownsRow _ _ _ _ _ _ _; rw [hs0.out]; exact World.ownsRow_nil _ _ _ _, Below.refl _ _⟩
  case round =>
    obtain ⟨k, rfl, hk, HO, HBr⟩ := hrel
    by_cases hgo : k < N
    · have hgo' : (k : Int) + 1 ≤ (N : Int) := by omega
      have cK := cA bo cb k hgo wr (ib HR.out HBr.out)
      have hsn : Hid (flatP (L (k + 1)) = flatP (L k) ++ [.int .i64 ((k : Int) + 1), .int .i64 (yv k)]) := by show _ = _; rw [hst.out k, flatP_snoc]
      generalize yv k = y at *
      have hBs := HBr.out.size
      go_wp2_with (first
        | (go_at_call 49; refine cK.mono ?_; rintro e w2 ⟨rfl, hB2⟩; have HO2 := hid (owns_below HO.out hB2); have HB2 := hid (below_trans HBr.out hB2); have hs2 := HB2.out.size; clear hB2)
        | (at_builtin; refine wpList_append_own _ rfl _ _ 28 rfl W.heap.size 30 i0 (.agg #[.int .i64 0, .int .i64 0]) 2 16 Try.underlying28 hi hz0 hz1 hz2 rfl (by decide) _ _ _ rfl (HO2.out.alloc _) ⟨w2.heap.size, 0, none⟩ 1 1 [.int .i64 ((k : Int) + 1), .int .i64 y] rfl rfl pair_cells (by simp [Value.oneCell']) (by unfold maxLen; omega) (by omega) (by simp; omega) ?_; intro v' w3 hown' hgrow _; have HO3 := hid hown'; have HB3 := hid (below_snoc HB2.out (Nat.le_refl _) HO2.out hgrow); clear hown' hgrow))
      go_roundw
      case rel => exact ⟨k + 1, by simp, by omega, by show World.ownsRow _ _ _ _ _ _ _; rw [hsn.out]; exact HO3.out, HB3⟩
      case measure => exact measX hgo
    · have hgo' : ¬ (k : Int) + 1 ≤ (N : Int) := by omega
      obtain rfl : k = N := by omega
      obtain ⟨po, pc, rfl, e2, e3⟩ := prow_owns HO.out
      have H3 := hid e3
      clear e3
      go_wp2
      go_ret2
      exact ⟨⟨po, pc, rfl, e2, H3.out⟩, below_trans HB.out HBr.out⟩

end Go.Proofs.Ytpnmepobdnclkaa.Calls88
