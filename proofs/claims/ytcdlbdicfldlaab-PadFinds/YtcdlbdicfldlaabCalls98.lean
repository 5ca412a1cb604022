/-
  What is wrong with a cipher, as package pad says it.
-/
import Derived.Test.YtcdlbdicfldlaabCalls97
namespace Go.Proofs.Ytcdlbdicfldlaab.Calls98
set_option linter.unusedVariables false
open Go.ChangeShapes Go.WideShapes Go.ChangeAt Go.RowKit Go.Deep Go.Proofs.Ytcdlbdicfldlaab.Base Go.Proofs.Ytcdlbdicfldlaab.Base2 Go.Proofs.Ytcdlbdicfldlaab.Num16 Go.Proofs.Ytcdlbdicfldlaab.Num17 Go.Proofs.Ytcdlbdicfldlaab.Num34 Go.Proofs.Ytcdlbdicfldlaab.Base4 Go.Proofs.Ytcdlbdicfldlaab.Base5 Go.Proofs.Ytcdlbdicfldlaab.Calls96 Go.Proofs.Ytcdlbdicfldlaab.Calls97

def longB (l : List Int) : Bool := decide (16 < l.length)

theorem long_ans (L : List (List Int)) (w : World) : AnsR 12 #[] longB L w := by
  intro l hl hm bo c w' hB hr hlc
  obtain ⟨n, hn⟩ : ∃ n, n = l.length := ⟨_, rfl⟩
  have e : Hid (longB l = decide (16 < n)) := by show longB l = _; rw [hn]; rfl
  rw [← hn] at hm ⊢
  clear hn hr hlc
  show Calls Try.prog 12 #[.slice bo n c] w' _
  by_cases h : 16 < n
  · have h' : (16 : Int) < (n : Int) := by omega
    have e2 : Hid (longB l = true) := by show _ = _; rw [e.out, decide_eq_true h]
    go_enter Try.func12, Try.ntmps12
    go_wp2
    go_ret
    exact ⟨ret_bool e2.out.symm, Below.refl _ _⟩
  · have h' : ¬ (16 : Int) < (n : Int) := by omega
    have e2 : Hid (longB l = false) := by show _ = _; rw [e.out, decide_eq_false h]
    go_enter Try.func12, Try.ntmps12
    go_wp2
    go_ret
    exact ⟨ret_bool e2.out.symm, Below.refl _ _⟩

def unB (n0 : Nat) (l : List Int) : Bool := decide (l.length ≠ n0)

theorem un_ans (A : Nat) (ad : Addr) (cap K n0 c0 : Nat) (b0 : Option Addr) (hK : 1 ≤ K) (L : List (List Int)) (w : World) (hA : w.cell? ⟨A, 0, none⟩ = some (.slice (some ad) K cap)) (hc : w.cell? ad = some (.slice b0 n0 c0)) :
    AnsR 13 #[.pointer (some ⟨A, 0, none⟩)] (unB n0) L w := by
  intro l hl hm bo c w' hB hr hlc
  have hA' := (hB.cell (p := ⟨A, 0, none⟩) (cell_lt hA)).trans hA
  have hc' := (hB.cell (p := ad) (cell_lt hc)).trans hc
  obtain ⟨n, hn⟩ : ∃ n, n = l.length := ⟨_, rfl⟩
  have e : Hid (unB n0 l = decide (n ≠ n0)) := by show unB n0 l = _; rw [hn]; rfl
  rw [← hn] at hm ⊢
  clear hn hr hlc hA hc
  show Calls Try.prog 13 #[.slice bo n c, .pointer (some ⟨A, 0, none⟩)] w' _
  have hK' : (0 : Int) < (K : Int) := by omega
  by_cases h : n = n0
  · subst h
    have e2 : Hid (unB n l = false) := by show _ = _; rw [e.out]; simp
    go_enter Try.func13, Try.ntmps13
    go_wp2
    go_ret
    exact ⟨ret_bool (by rw [e2.out]), Below.refl _ _⟩
  · have h' : ¬ (n : Int) = (n0 : Int) := by omega
    have e2 : Hid (unB n0 l = true) := by show _ = _; rw [e.out]; simp [h]
    go_enter Try.func13, Try.ntmps13
    go_wp2
    go_ret
    exact ⟨ret_bool (by rw [e2.out]; simp; omega), Below.refl _ _⟩

def outB (x : Int) : Bool := decide (x < 0) || decide (4096 ≤ x)

theorem outside_any (x : Int) (w : World) :
    Calls Try.prog 16 #[.int .i64 x] w fun e w' => e = .returned (.bool (outB x)) ∧ Below w.heap.size w w' := by
  by_cases h : x < 0
  · have e : Hid (outB x = true) := by show _ = _; unfold outB; rw [decide_eq_true h]; rfl
    go_enter Try.func16, Try.ntmps16
    go_wp2
    go_ret
    exact ⟨ret_bool e.out.symm, Below.refl _ _⟩
  · have h' : decide (x < 0) = false := by simpa using h
    by_cases h2 : 4096 ≤ x
    · have e : Hid (outB x = true) := by show _ = _; unfold outB; rw [decide_eq_true h2]; simp
      go_enter Try.func16, Try.ntmps16
      go_wp2
      go_ret
      exact ⟨ret_bool e.out.symm, Below.refl _ _⟩
    · have h2' : decide (4096 ≤ x) = false := by simpa using h2
      have e : Hid (outB x = false) := by show _ = _; unfold outB; rw [h', h2']; rfl
      go_enter Try.func16, Try.ntmps16
      go_wp2
      go_ret
      exact ⟨ret_bool e.out.symm, Below.refl _ _⟩

theorem outB_iff (x : Int) : outB x = true ↔ x < 0 ∨ 4096 ≤ x := by simp [outB]

def outR (l : List Int) : Bool := l.any outB

theorem outR_iff (l : List Int) : outR l = true ↔ ∃ x ∈ l, outB x = true := by simp [outR]

theorem out_ans (L : List (List Int)) (hsm : ∀ l ∈ L, l.length ≤ 16) (w : World) : AnsR 14 #[] outR L w := by
  intro l hl hm bo c w' hB hr hlc
  have hs := hsm l hl
  have cC := conN_any 16 #[] (enters_of Try.func16 (by decide) rfl) bo c l outB (by omega) (outR l) (outR_iff l) w' hr (fun x hx w2 hB2 => outside_any x w2)
  generalize l.length = n at *
  generalize outR l = b at *
  clear hr hlc
  show Calls Try.prog 14 #[.slice bo n c] w' _
  go_enter Try.func14, Try.ntmps14
  go_wp2_with (go_at_call 15; refine cC.mono ?_; rintro e w1 ⟨rfl, hB1⟩)
  go_ret
  exact ⟨rfl, hB1⟩

theorem box_in {w w' : World} {v : Value} {t : TypeId} (h : Below (w.alloc (.cells #[v] t)).heap.size (w.alloc (.cells #[v] t)) w') : w'.cell? ⟨w.heap.size, 0, none⟩ = some v :=
  ((BoxC.new w t #[v]).below h (by simp)).cell 0

theorem bool_of (Pp : Prop) : ∃ b : Bool, (b = true ↔ Pp) := by
  rcases Classical.em Pp with h | h
  · exact ⟨true, ⟨fun _ => h, fun _ => rfl⟩⟩
  · exact ⟨false, ⟨fun e => (by cases e), fun e => absurd e h⟩⟩

set_option maxRecDepth 100000 in
set_option maxHeartbeats 1000000 in
theorem check_any (ao : Option Addr) (cap : Nat) (L : List (List Int)) (c : Int) (hc : CiC L c) (hl : L.length ≤ 9223372036854775807) (w : World) (hrow : RRow w ao L) :
    Calls Try.prog 7 #[.slice ao L.length cap] w fun e w' => e = .returned (.int .i64 c) ∧ Below w.heap.size w w' := by
  obtain ⟨K, hK⟩ : ∃ K, K = L.length := ⟨_, rfl⟩
  have HK : Hid (K = L.length) := hK
  have HC := hid hc
  by_cases hbig : 16 < K
  · have hb' : (16 : Int) < (K : Int) := by omega
    have e : Hid (1 = c) := HC.out.big (.inl (by rw [← HK.out]; exact hbig))
    rw [← hK] at hl ⊢
    clear hK hc hrow
    go_enter Try.func7, Try.ntmps7
    go_wp2
    go_ret
    exact ⟨ret_int e.out, (Below.refl _ _).alloc (Nat.le_refl _) _⟩
  have hb' : ¬ (16 : Int) < (K : Int) := by omega
  obtain ⟨W1, hW1⟩ : ∃ W1, W1 = w.alloc (.cells #[.slice ao K cap] 22) := ⟨_, rfl⟩
  have hB0 : Below w.heap.size w W1 := by rw [hW1]; exact (Below.refl _ _).alloc (Nat.le_refl _) _
  have hbox : ∀ w', Below W1.heap.size W1 w' → w'.cell? ⟨w.heap.size, 0, none⟩ = some (.slice ao K cap) := fun w' h => by rw [hW1] at h; exact box_in h
  have r1 := rb hrow hB0
  have hlen : L.length ≤ 1048576 := by omega
  obtain ⟨b1, hb1⟩ := bool_of (∃ r ∈ L, 16 < r.length)
  have cL := conR_any 12 #[] (enters_of Try.func12 (by decide) rfl) ao cap L longB hlen b1 (hb1.trans (by simp [longB])) W1 r1 (long_ans L W1)
  rw [← hK] at cL hl ⊢
  by_cases hlong : b1 = true
  · have e : Hid (1 = c) := HC.out.big (.inr (hb1.1 hlong))
    subst hlong hW1
    clear hK hc hrow hb1 r1 hbox
    go_enter Try.func7, Try.ntmps7
    go_wp2_with (go_at_call 10; refine cL.mono ?_; rintro e w1 ⟨rfl, hB1⟩)
    go_ret
    exact ⟨ret_int e.out, below_trans hB0 hB1⟩
  · obtain rfl : b1 = false := by simpa using hlong
    have hsm : ∀ l ∈ L, l.length ≤ 16 := fun l h => by
      have : ¬ 16 < l.length := fun h2 => by have := hb1.2 ⟨l, h, h2⟩; cases this
      omega
    have hnb : ¬ BigC L := fun h => by
      rcases h with h | ⟨r, h1, h2⟩
      · omega
      · have := hsm r h1; omega
    by_cases h0 : K = 0
    · have e : Hid (5 = c) := HC.out.none hnb (.inl (by omega))
      subst h0 hW1
      clear hK hc hrow hb1 hnb r1 hsm
      go_enter Try.func7, Try.ntmps7
      go_wp2_with (go_at_call 10; refine cL.mono ?_; rintro e w1 ⟨rfl, hB1⟩; have d1 := hbox w1 hB1)
      go_ret
      exact ⟨ret_int e.out, below_trans hB0 hB1⟩
    · have h0' : ((K : Int) == 0) = false := by simp; omega
      have hkl : 0 < L.length := by omega
      rcases ao with _ | ad
      · exact (rrow_none hrow hkl).elim
      · have c0a : ∀ w', Below w.heap.size w w' → ∃ b0 cc0, w'.cell? ad = some (.slice b0 (rw' L 0).length cc0) := fun w' hB => by
          obtain ⟨b0, cc0, c0, _⟩ := (rb hrow hB).2 ad rfl 0 hkl
          rw [zero_addr] at c0
          exact ⟨b0, cc0, c0⟩
        have hlm0 := hsm _ (rw_mem hkl)
        by_cases hz : (rw' L 0).length = 0
        · have e : Hid (5 = c) := HC.out.none hnb (.inr hz)
          rw [hz] at c0a
          subst hW1
          clear hK hc hrow hb1 hnb r1 hsm hz hlm0
          go_enter Try.func7, Try.ntmps7
          go_wp2_with (go_at_call 10; refine cL.mono ?_; rintro e w1 ⟨rfl, hB1⟩; have d1 := hbox w1 hB1; obtain ⟨b0, cc0, d2⟩ := c0a w1 (below_trans hB0 hB1))
          go_ret
          exact ⟨ret_int e.out, below_trans hB0 hB1⟩
        · have hno : ¬ NoC L := fun h => by
            rcases h with h | h
            · omega
            · exact hz h
          obtain ⟨b2, hb2⟩ := bool_of (UnC L)
          have cU : ∀ w1, Below W1.heap.size W1 w1 → Calls Try.prog 10 #[.slice (some ad) K cap, .func (.func 13) #[] #[.pointer (some ⟨w.heap.size, 0, none⟩)]] w1 fun e w' => e = .returned (.bool b2) ∧ Below w1.heap.size w1 w' := fun w1 hB1 => by
            obtain ⟨b0, cc0, d2⟩ := c0a w1 (below_trans hB0 hB1)
            have := conR_any 13 #[.pointer (some ⟨w.heap.size, 0, none⟩)] (enters_of Try.func13 (by decide) rfl) (some ad) cap L (unB (rw' L 0).length) hlen b2 (hb2.trans (by simp [UnC, unB])) w1 (rb r1 hB1) (un_ans w.heap.size ad cap K (rw' L 0).length cc0 b0 (by omega) L w1 (hbox w1 hB1) d2)
            rw [← hK] at this
            exact this
          have hz' : ((((rw' L 0).length : Nat) : Int) == 0) = false := by simp; intro h; apply hz; rw [h]; rfl
          by_cases hu : b2 = true
          · have e : Hid (4 = c) := HC.out.un hnb hno (hb2.1 hu)
            subst hu hW1
            generalize (rw' L 0).length = n0 at *
            clear hK hc hrow hb1 hb2 hnb hno r1 hsm
            go_enter Try.func7, Try.ntmps7
            go_wp2_with (first
              | (go_at_call 10; refine cL.mono ?_; rintro e w1 ⟨rfl, hB1⟩; have d1 := hbox w1 hB1; obtain ⟨b0, cc0, d2⟩ := c0a w1 (below_trans hB0 hB1); clear cL)
              | (go_at_call 10; refine (cU _ hB1).mono ?_; rintro e w2 ⟨rfl, hB2⟩))
            go_ret
            exact ⟨ret_int e.out, below_trans (below_trans hB0 hB1) hB2⟩
          · obtain rfl : b2 = false := by simpa using hu
            have hun : ¬ UnC L := fun h => by have := hb2.2 h; cases this
            obtain ⟨b3, hb3⟩ := bool_of (OutC L)
            have cO : ∀ w1, Below W1.heap.size W1 w1 → Calls Try.prog 10 #[.slice (some ad) K cap, .func (.func 14) #[] #[]] w1 fun e w' => e = .returned (.bool b3) ∧ Below w1.heap.size w1 w' := fun w1 hB1 => by
              have := conR_any 14 #[] (enters_of Try.func14 (by decide) rfl) (some ad) cap L outR hlen b3 (hb3.trans (by simp only [OutC, outR_iff, outB_iff])) w1 (rb r1 hB1) (out_ans L hsm w1)
              rw [← hK] at this
              exact this
            have e : Hid ((if b3 then 2 else 0) = c) := by
              show _ = c
              cases b3 with
              | true => exact HC.out.out hnb hno hun (hb3.1 rfl)
              | false => exact HC.out.fine hnb hno hun (fun h => by have := hb3.2 h; cases this)
            subst hW1
            generalize (rw' L 0).length = n0 at *
            clear hK hc hrow hb1 hb2 hb3 hnb hno hun r1 hsm
            cases b3 with
            | true =>
              go_enter Try.func7, Try.ntmps7
              go_wp2_with (first
                | (go_at_call 10; refine cL.mono ?_; rintro e w1 ⟨rfl, hB1⟩; have d1 := hbox w1 hB1; obtain ⟨b0, cc0, d2⟩ := c0a w1 (below_trans hB0 hB1); clear cL)
                | (go_at_call 10; refine (cU _ hB1).mono ?_; rintro e w2 ⟨rfl, hB2⟩; have hB12 := below_trans hB1 hB2; have d3 := hbox w2 hB12; clear cU)
                | (go_at_call 10; refine (cO _ hB12).mono ?_; rintro e w3 ⟨rfl, hB3⟩))
              go_ret
              exact ⟨ret_int e.out, below_trans (below_trans hB0 hB12) hB3⟩
            | false =>
              go_enter Try.func7, Try.ntmps7
              go_wp2_with (first
                | (go_at_call 10; refine cL.mono ?_; rintro e w1 ⟨rfl, hB1⟩; have d1 := hbox w1 hB1; obtain ⟨b0, cc0, d2⟩ := c0a w1 (below_trans hB0 hB1); clear cL)
                | (go_at_call 10; refine (cU _ hB1).mono ?_; rintro e w2 ⟨rfl, hB2⟩; have hB12 := below_trans hB1 hB2; have d3 := hbox w2 hB12; clear cU)
                | (go_at_call 10; refine (cO _ hB12).mono ?_; rintro e w3 ⟨rfl, hB3⟩))
              go_ret
              exact ⟨ret_int e.out, below_trans (below_trans hB0 hB12) hB3⟩

end Go.Proofs.Ytcdlbdicfldlaab.Calls98
