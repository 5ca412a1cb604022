/-
  What is wrong with rounds, as package feistel says it, and as the document does.
-/
import Derived.Test.YtngdhhhdnkkagaaCalls96
import Derived.Test.YtngdhhhdnkkagaaNum51
namespace Go.Proofs.Ytngdhhhdnkkagaa.Calls103
set_option linter.unusedVariables false
open Go.ChangeShapes Go.WideShapes Go.ChangeAt Go.RowKit Go.Deep Go.Proofs.Ytngdhhhdnkkagaa.Base Go.Proofs.Ytngdhhhdnkkagaa.Base2 Go.Proofs.Ytngdhhhdnkkagaa.Num16 Go.Proofs.Ytngdhhhdnkkagaa.Num17 Go.Proofs.Ytngdhhhdnkkagaa.Num34 Go.Proofs.Ytngdhhhdnkkagaa.Num51 Go.Proofs.Ytngdhhhdnkkagaa.Base4 Go.Proofs.Ytngdhhhdnkkagaa.Base5 Go.Proofs.Ytngdhhhdnkkagaa.Calls96

def outB (m x : Int) : Bool := decide (x < 0) || decide (m ≤ x)

theorem outB_iff (m x : Int) : outB m x = true ↔ x < 0 ∨ m ≤ x := by simp [outB]

/-- A round has not 16 numbers. -/
def UnF (L : List (List Int)) : Prop := ∃ r ∈ L, r.length ≠ 16

/-- A round's number is out of bounds. -/
def OutF (L : List (List Int)) : Prop := ∃ r ∈ L, ∃ x ∈ r, x < 0 ∨ 16 ≤ x

/-- The code of rounds and a number. -/
structure FC (L : List (List Int)) (x c : Int) : Prop where
  big : 64 < L.length → 1 = c
  un : ¬ 64 < L.length → UnF L → 4 = c
  out : ¬ 64 < L.length → ¬ UnF L → (OutF L ∨ x < 0 ∨ 256 ≤ x) → 2 = c
  fine : ¬ 64 < L.length → ¬ UnF L → ¬ (OutF L ∨ x < 0 ∨ 256 ≤ x) → 0 = c

theorem FC.ex (L : List (List Int)) (x : Int) : ∃ c, FC L x c := by
  rcases Classical.em (64 < L.length) with h1 | h1
  · exact ⟨1, fun _ => rfl, fun h => absurd h1 h, fun h => absurd h1 h, fun h => absurd h1 h⟩
  rcases Classical.em (UnF L) with h2 | h2
  · exact ⟨4, fun h => absurd h h1, fun _ _ => rfl, fun _ h => absurd h2 h, fun _ h => absurd h2 h⟩
  rcases Classical.em (OutF L ∨ x < 0 ∨ 256 ≤ x) with h3 | h3
  · exact ⟨2, fun h => absurd h h1, fun _ h => absurd h h2, fun _ _ _ => rfl, fun _ _ h => absurd h3 h⟩
  · exact ⟨0, fun h => absurd h h1, fun _ h => absurd h h2, fun _ _ h => absurd h h3, fun _ _ _ => rfl⟩

/-- Rounds that may be. -/
def FOk (L : List (List Int)) (x : Int) : Prop := L.length ≤ 64 ∧ Ros L ∧ 0 ≤ x ∧ x < 256

theorem not_un {L : List (List Int)} (h : ¬ UnF L) {r : List Int} (hr : r ∈ L) : r.length = 16 := by
  rcases Classical.em (r.length = 16) with e | e
  · exact e
  · exact absurd ⟨r, hr, e⟩ h

theorem FC.ok {L : List (List Int)} {x c : Int} (h : FC L x c) : c = 0 ↔ FOk L x := by
  constructor
  · rintro rfl
    rcases Classical.em (64 < L.length) with h1 | h1
    · exact absurd (h.big h1) (by decide)
    rcases Classical.em (UnF L) with h2 | h2
    · exact absurd (h.un h1 h2) (by decide)
    rcases Classical.em (OutF L ∨ x < 0 ∨ 256 ≤ x) with h3 | h3
    · exact absurd (h.out h1 h2 h3) (by decide)
    · refine ⟨by omega, fun r hr => ⟨not_un h2 hr, fun j hj => ?_⟩, ?_, ?_⟩
      · have hl := not_un h2 hr
        have hm : co r j ∈ r := co_mem (by omega)
        have : ¬ (co r j < 0 ∨ 16 ≤ co r j) := fun e => h3 (.inl ⟨r, hr, _, hm, e⟩)
        omega
      · rcases Int.lt_or_le x 0 with e | e
        · exact absurd (.inr (.inl e)) h3
        · exact e
      · rcases Int.lt_or_le x 256 with e | e
        · exact e
        · exact absurd (.inr (.inr e)) h3
  · rintro ⟨h1, h2, h3, h4⟩
    refine (h.fine (by omega) (fun ⟨r, hr, e⟩ => e (h2 r hr).1) ?_).symm
    rintro (⟨r, hr, y, hy, e⟩ | e)
    · obtain ⟨j, hj, ej⟩ := List.getElem_of_mem hy
      have hl := (h2 r hr).1
      have := (h2 r hr).2 j (by omega)
      have e2 : co r j = y := by simp [co, List.getD, hj, ej]
      omega
    · omega

theorem fout1_any (A : Nat) (m x : Int) (w : World) (hA : w.cell? ⟨A, 0, none⟩ = some (.int .i64 m)) :
    Calls Try.prog 32 #[.int .i64 x, .pointer (some ⟨A, 0, none⟩)] w fun e w' => e = .returned (.bool (outB m x)) ∧ Below w.heap.size w w' := by
  by_cases h : x < 0
  · have e : Hid (outB m x = true) := by show _ = _; unfold outB; rw [decide_eq_true h]; rfl
    go_enter Try.func32, Try.ntmps32
    go_wp2
    go_ret
    exact ⟨ret_bool e.out.symm, Below.refl _ _⟩
  · have h' : decide (x < 0) = false := by simpa using h
    by_cases h2 : m ≤ x
    · have e : Hid (outB m x = true) := by show _ = _; unfold outB; rw [decide_eq_true h2]; simp
      go_enter Try.func32, Try.ntmps32
      go_wp2
      go_ret
      exact ⟨ret_bool e.out.symm, Below.refl _ _⟩
    · have h2' : decide (m ≤ x) = false := by simpa using h2
      have e : Hid (outB m x = false) := by show _ = _; unfold outB; rw [decide_eq_false h, decide_eq_false h2]; rfl
      go_enter Try.func32, Try.ntmps32
      go_wp2
      go_ret
      exact ⟨ret_bool e.out.symm, Below.refl _ _⟩

theorem fout_any (m : Int) (w : World) :
    Calls Try.prog 26 #[.int .i64 m] w fun e w' => e = .returned (.func (.func 32) #[] #[.pointer (some ⟨w.heap.size, 0, none⟩)]) ∧ w' = w.alloc (.cells #[.int .i64 m] 3) := by
  go_enter Try.func26, Try.ntmps26
  go_wp2
  go_ret
  exact ⟨rfl, rfl⟩

theorem box_in {w w' : World} {v : Value} {t : TypeId} (h : Below (w.alloc (.cells #[v] t)).heap.size (w.alloc (.cells #[v] t)) w') : w'.cell? ⟨w.heap.size, 0, none⟩ = some v :=
  ((BoxC.new w t #[v]).below h (by simp)).cell 0

theorem bool_of (Pp : Prop) : ∃ b : Bool, (b = true ↔ Pp) := by
  rcases Classical.em Pp with h | h
  · exact ⟨true, ⟨fun _ => h, fun _ => rfl⟩⟩
  · exact ⟨false, ⟨fun e => (by cases e), fun e => absurd e h⟩⟩

/-- Some number of a row is out of bounds, as it is asked behind the making of the question. -/
theorem fcon_any (m : Int) (bo : Option Addr) (cap : Nat) (l : List Int) (hl : l.length ≤ 1048576) (b : Bool) (hb : b = true ↔ ∃ x ∈ l, outB m x = true) (w : World) (hr : IRow w bo l) :
    Calls Try.prog 25 #[.slice bo l.length cap, .func (.func 32) #[] #[.pointer (some ⟨w.heap.size, 0, none⟩)]] (w.alloc (.cells #[.int .i64 m] 3)) fun e w' => e = .returned (.bool b) ∧ Below w.heap.size w w' := by
  have hB0 : Below w.heap.size w (w.alloc (.cells #[.int .i64 m] 3)) := (Below.refl _ _).alloc (Nat.le_refl _) _
  refine (conN_any 32 #[.pointer (some ⟨w.heap.size, 0, none⟩)] (enters_of Try.func32 (by decide) rfl) bo cap l (outB m) hl b hb _ (ib hr hB0) (fun x hx w2 hB2 => ?_)).mono (fun e w' h => ⟨h.1, below_trans hB0 h.2⟩)
  exact fout1_any w.heap.size m x w2 (box_in hB2)

def unB (l : List Int) : Bool := decide (l.length ≠ 16)

theorem un_ans (L : List (List Int)) (w : World) : AnsR 22 #[] unB L w := by
  intro l hl hm bo c w' hB hr hlc
  obtain ⟨n, hn⟩ : ∃ n, n = l.length := ⟨_, rfl⟩
  have e : Hid (unB l = decide (n ≠ 16)) := by show unB l = _; rw [hn]; rfl
  rw [← hn] at hm ⊢
  clear hn hr hlc
  show Calls Try.prog 22 #[.slice bo n c] w' _
  by_cases h : n = 16
  · subst h
    have e2 : Hid (unB l = false) := by show _ = _; rw [e.out]; simp
    go_enter Try.func22, Try.ntmps22
    go_wp2
    go_ret
    exact ⟨ret_bool (by rw [e2.out]), Below.refl _ _⟩
  · have h' : ¬ (n : Int) = 16 := by omega
    have e2 : Hid (unB l = true) := by show _ = _; rw [e.out]; simp [h]
    go_enter Try.func22, Try.ntmps22
    go_wp2
    go_ret
    exact ⟨ret_bool (by rw [e2.out]; simp; omega), Below.refl _ _⟩

def outR (l : List Int) : Bool := l.any (outB 16)

theorem outR_iff (l : List Int) : outR l = true ↔ ∃ x ∈ l, outB 16 x = true := by simp [outR]

set_option maxRecDepth 100000 in
set_option maxHeartbeats 1000000 in
theorem out_ans (L : List (List Int)) (hsm : ∀ l ∈ L, l.length = 16) (w : World) : AnsR 24 #[] outR L w := by
  intro l hl hm bo c w' hB hr hlc
  have hs := hsm l hl
  have cC := fcon_any 16 bo c l (by omega) (outR l) (outR_iff l) w' hr
  have cO := fout_any 16 w'
  generalize l.length = n at *
  generalize outR l = b at *
  clear hr hlc
  subst hs
  show Calls Try.prog 24 #[.slice bo 16 c] w' _
  go_enter Try.func24, Try.ntmps24
  go_wp2_with (first
    | (go_at_call 26; refine cO.mono ?_; rintro e w1 ⟨rfl, rfl⟩; clear cO)
    | (go_at_call 25; refine cC.mono ?_; rintro e w1 ⟨rfl, hB1⟩))
  go_ret
  exact ⟨rfl, hB1⟩

set_option maxRecDepth 100000 in
set_option maxHeartbeats 1000000 in
/-- The numbers beside the rounds come as a slice: its cells read as ns. -/
theorem check_any (ao no : Option Addr) (cap ncap : Nat) (L : List (List Int)) (ns : List Int) (x c : Int) (hc : FC L x c) (hns : (∃ y ∈ ns, y < 0 ∨ 256 ≤ y) ↔ (x < 0 ∨ 256 ≤ x)) (hl : L.length ≤ 9223372036854775807) (hnl : ns.length ≤ 1) (w : World) (hrow : RRow w ao L) (nrow : IRow w no ns) :
    Calls Try.prog 16 #[.slice ao L.length cap, .slice no ns.length ncap] w fun e w' => e = .returned (.int .i64 c) ∧ Below w.heap.size w w' := by
  obtain ⟨K, hK⟩ : ∃ K, K = L.length := ⟨_, rfl⟩
  have HC := hid hc
  by_cases hbig : 64 < K
  · have hb' : (64 : Int) < (K : Int) := by omega
    have e : Hid (1 = c) := HC.out.big (by rw [← hK]; exact hbig)
    rw [← hK] at hl ⊢
    clear hK hc hrow hns nrow
    go_enter Try.func16, Try.ntmps16
    go_wp2
    go_ret
    exact ⟨ret_int e.out, Below.refl _ _⟩
  have hb' : ¬ (64 : Int) < (K : Int) := by omega
  have hnb : ¬ 64 < L.length := by omega
  have hlen : L.length ≤ 1048576 := by omega
  obtain ⟨b1, hb1⟩ := bool_of (UnF L)
  have cU := conR_any 22 #[] (enters_of Try.func22 (by decide) rfl) ao cap L unB hlen b1 (hb1.trans (by simp [UnF, unB])) w hrow (un_ans L w)
  by_cases hun : b1 = true
  · have e : Hid (4 = c) := HC.out.un hnb (hb1.1 hun)
    subst hun
    rw [← hK] at cU hl ⊢
    clear hK hc hrow hns nrow hb1 hnb
    go_enter Try.func16, Try.ntmps16
    go_wp2_with (go_at_call 23; refine cU.mono ?_; rintro e w1 ⟨rfl, hB1⟩)
    go_ret
    exact ⟨ret_int e.out, hB1⟩
  · obtain rfl : b1 = false := by simpa using hun
    have hnu : ¬ UnF L := fun h => by have := hb1.2 h; cases this
    have hsm : ∀ l ∈ L, l.length = 16 := fun l h => not_un hnu h
    obtain ⟨b2, hb2⟩ := bool_of (OutF L)
    have cO : ∀ w1, Below w.heap.size w w1 → Calls Try.prog 23 #[.slice ao L.length cap, .func (.func 24) #[] #[]] w1 fun e w' => e = .returned (.bool b2) ∧ Below w1.heap.size w1 w' := fun w1 hB1 =>
      conR_any 24 #[] (enters_of Try.func24 (by decide) rfl) ao cap L outR hlen b2 (hb2.trans (by simp only [OutF, outR_iff, outB_iff])) w1 (rb hrow hB1) (out_ans L hsm w1)
    by_cases hout : b2 = true
    · have e : Hid (2 = c) := HC.out.out hnb hnu (.inl (hb2.1 hout))
      subst hout
      rw [← hK] at cU cO hl ⊢
      clear hK hc hrow hns nrow hb1 hb2 hnb hnu hsm
      go_enter Try.func16, Try.ntmps16
      go_wp2_with (first
        | (go_at_call 23; refine cU.mono ?_; rintro e w1 ⟨rfl, hB1⟩; clear cU)
        | (go_at_call 23; refine (cO _ hB1).mono ?_; rintro e w2 ⟨rfl, hB2⟩))
      go_ret
      exact ⟨ret_int e.out, below_trans hB1 hB2⟩
    · obtain rfl : b2 = false := by simpa using hout
      have hno : ¬ OutF L := fun h => by have := hb2.2 h; cases this
      obtain ⟨b3, hb3⟩ := bool_of (x < 0 ∨ 256 ≤ x)
      have cF := fout_any 256
      have cN : ∀ w2, Below w.heap.size w w2 → Calls Try.prog 25 #[.slice no ns.length ncap, .func (.func 32) #[] #[.pointer (some ⟨w2.heap.size, 0, none⟩)]] (w2.alloc (.cells #[.int .i64 256] 3)) fun e w' => e = .returned (.bool b3) ∧ Below w2.heap.size w2 w' := fun w2 hB2 =>
        fcon_any 256 no ncap ns (by omega) b3 (hb3.trans (hns.symm.trans (by simp only [outB_iff]))) w2 (ib nrow hB2)
      have e : Hid ((if b3 then 2 else 0) = c) := by
        show _ = c
        cases b3 with
        | true => exact HC.out.out hnb hnu (.inr (hb3.1 rfl))
        | false => exact HC.out.fine hnb hnu (fun h => by
            rcases h with h | h
            · exact hno h
            · have := hb3.2 h; cases this)
      generalize ns.length = nn at *
      rw [← hK] at cU cO hl ⊢
      clear hK hc hrow hns nrow hb1 hb2 hb3 hnb hnu hno hsm
      cases b3 with
      | true =>
        go_enter Try.func16, Try.ntmps16
        go_wp2_with (first
          | (go_at_call 23; refine cU.mono ?_; rintro e w1 ⟨rfl, hB1⟩; clear cU)
          | (go_at_call 23; refine (cO _ hB1).mono ?_; rintro e w2 ⟨rfl, hB2⟩; have hB12 := below_trans hB1 hB2; clear cO)
          | (go_at_call 26; refine (cF _).mono ?_; rintro e w3 ⟨rfl, rfl⟩; clear cF)
          | (go_at_call 25; refine (cN _ hB12).mono ?_; rintro e w4 ⟨rfl, hB4⟩))
        go_ret
        exact ⟨ret_int e.out, below_trans hB12 hB4⟩
      | false =>
        go_enter Try.func16, Try.ntmps16
        go_wp2_with (first
          | (go_at_call 23; refine cU.mono ?_; rintro e w1 ⟨rfl, hB1⟩; clear cU)
          | (go_at_call 23; refine (cO _ hB1).mono ?_; rintro e w2 ⟨rfl, hB2⟩; have hB12 := below_trans hB1 hB2; clear cO)
          | (go_at_call 26; refine (cF _).mono ?_; rintro e w3 ⟨rfl, rfl⟩; clear cF)
          | (go_at_call 25; refine (cN _ hB12).mono ?_; rintro e w4 ⟨rfl, hB4⟩))
        go_ret
        exact ⟨ret_int e.out, below_trans hB12 hB4⟩

end Go.Proofs.Ytngdhhhdnkkagaa.Calls103
