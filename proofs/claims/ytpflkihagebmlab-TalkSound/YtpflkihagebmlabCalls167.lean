/-
  Package talk: what is wrong with numbers that are to be exponents; Speak.
-/
import Derived.Test.YtpflkihagebmlabCalls160
namespace Go.Proofs.Ytpflkihagebmlab.Calls167
set_option linter.unusedVariables false
open Go.ChangeShapes Go.WideShapes Go.ChangeAt Go.RowKit Go.Deep Go.Proofs.Ytpflkihagebmlab.Base Go.Proofs.Ytpflkihagebmlab.Base2 Go.Proofs.Ytpflkihagebmlab.Num Go.Proofs.Ytpflkihagebmlab.Num13 Go.Proofs.Ytpflkihagebmlab.Num16 Go.Proofs.Ytpflkihagebmlab.Num17 Go.Proofs.Ytpflkihagebmlab.Num34 Go.Proofs.Ytpflkihagebmlab.Base4 Go.Proofs.Ytpflkihagebmlab.Num56 Go.Proofs.Ytpflkihagebmlab.Calls157 Go.Proofs.Ytpflkihagebmlab.Calls158 Go.Proofs.Ytpflkihagebmlab.Calls160

theorem irow3 (W : World) (x y z : Int) : IRow (W.alloc (.cells #[.int .i64 x, .int .i64 y, .int .i64 z] 2)) (some ⟨W.heap.size, 0, none⟩) [x, y, z] := by
  refine ⟨fun e => (by cases e), fun ad e j hj => ?_⟩
  obtain rfl : (⟨W.heap.size, 0, none⟩ : Addr) = ad := by simpa using e
  have : j = 0 ∨ j = 1 ∨ j = 2 := by simp at hj; omega
  rcases this with rfl | rfl | rfl <;> simp [co, zero_add_addr]

/-! ### the questions one by one -/

/-- Where one number is wrong, so are more. -/
theorem aC_bad {P Q G H : Int} {le le' : List Int} (lm : List Int) (h : aC P Q G H le [] ≠ 0) (hs : ∀ x ∈ le, x ∈ le') : aC P Q G H le' lm = aC P Q G H le [] := by
  unfold aC at h ⊢
  by_cases h0 : gC P Q G H = 0
  · rw [if_pos h0] at h
    rw [if_pos h0, if_pos h0]
    by_cases h1 : le.any (exB Q) = true
    · obtain ⟨x, hx, e⟩ := List.any_eq_true.1 h1
      rw [if_pos h1, if_pos (List.any_eq_true.2 ⟨x, hs x hx, e⟩)]
    · rw [if_neg h1] at h; simp at h
  · rw [if_neg h0, if_neg h0]

/-- Where none of the first ones is wrong, the others decide. -/
theorem aC_good {P Q G H : Int} {le le' ld : List Int} (lm : List Int) (h : aC P Q G H le [] = 0) (hs : ∀ x, x ∈ ld ↔ x ∈ le ∨ x ∈ le') : aC P Q G H ld lm = aC P Q G H le' lm := by
  obtain ⟨p, q, g, k, rfl, rfl, rfl, rfl, hG, h1, _⟩ := aC_zero h
  have e : ld.any (exB (q : Int)) = le'.any (exB (q : Int)) := by
    rw [Bool.eq_iff_iff, List.any_eq_true, List.any_eq_true]
    constructor
    · rintro ⟨x, hx, e⟩
      rcases (hs x).1 hx with h2 | h2
      · obtain ⟨n, rfl, hn⟩ := h1 x h2
        rw [(exB_iff (q : Int) (n : Int)).2 ⟨by omega, by omega⟩] at e; cases e
      · exact ⟨x, h2, e⟩
    · rintro ⟨x, hx, e⟩
      exact ⟨x, (hs x).2 (.inr hx), e⟩
  unfold aC
  rw [e]

/-- What is wrong with members, one by one. -/
theorem aC_mem {P Q G H : Int} {le lm lm' ld : List Int} (h : aC P Q G H le lm = 0) (hs : ∀ x, x ∈ ld ↔ x ∈ lm ∨ x ∈ lm') : aC P Q G H le ld = aC P Q G H le lm' := by
  obtain ⟨p, q, g, k, rfl, rfl, rfl, rfl, hG, h1, h2⟩ := aC_zero h
  have e : ld.any (noM (p : Int) (q : Int)) = lm'.any (noM (p : Int) (q : Int)) := by
    rw [Bool.eq_iff_iff, List.any_eq_true, List.any_eq_true]
    constructor
    · rintro ⟨x, hx, e⟩
      rcases (hs x).1 hx with h3 | h3
      · rw [(noM_iff p q x).2 (h2 x h3)] at e; cases e
      · exact ⟨x, h3, e⟩
    · rintro ⟨x, hx, e⟩
      exact ⟨x, (hs x).2 (.inr hx), e⟩
  unfold aC
  rw [e]

/-- Where exponents are right and a member is wrong, it is with more members. -/
theorem aC_form {P Q G H : Int} {le le' lm lm' : List Int} (h0 : aC P Q G H le [] = 0) (h0' : aC P Q G H le' [] = 0) (h : aC P Q G H le lm ≠ 0) (hs : ∀ x ∈ lm, x ∈ lm') : aC P Q G H le' lm' = aC P Q G H le lm := by
  obtain ⟨p, q, g, k, rfl, rfl, rfl, rfl, hG, h1, _⟩ := aC_zero h0
  have e1 : le.any (exB (q : Int)) = false := by
    unfold aC at h0
    rw [if_pos hG.code] at h0
    cases e : le.any (exB (q : Int)) with
    | false => rfl
    | true => rw [e] at h0; simp at h0
  have e2 : le'.any (exB (q : Int)) = false := by
    unfold aC at h0'
    rw [if_pos hG.code] at h0'
    cases e : le'.any (exB (q : Int)) with
    | false => rfl
    | true => rw [e] at h0'; simp at h0'
  unfold aC at h ⊢
  rw [if_pos hG.code, e1, if_neg Bool.false_ne_true] at h
  rw [if_pos hG.code, if_pos hG.code, e1, e2, if_neg Bool.false_ne_true, if_neg Bool.false_ne_true]
  by_cases h3 : lm.any (noM (p : Int) (q : Int)) = true
  · obtain ⟨x, hx, e⟩ := List.any_eq_true.1 h3
    rw [if_pos h3, if_pos (List.any_eq_true.2 ⟨x, hs x hx, e⟩)]
  · rw [if_neg h3] at h; exact absurd rfl h

/-- Exponents that are right don't tell members apart. -/
theorem aC_same {P Q G H : Int} {le le' : List Int} (lm : List Int) (h0 : aC P Q G H le [] = 0) (h0' : aC P Q G H le' [] = 0) : aC P Q G H le' lm = aC P Q G H le lm := by
  obtain ⟨p, q, g, k, rfl, rfl, rfl, rfl, hG, h1, _⟩ := aC_zero h0
  have e1 : le.any (exB (q : Int)) = false := by
    unfold aC at h0
    rw [if_pos hG.code] at h0
    cases e : le.any (exB (q : Int)) with
    | false => rfl
    | true => rw [e] at h0; simp at h0
  have e2 : le'.any (exB (q : Int)) = false := by
    unfold aC at h0'
    rw [if_pos hG.code] at h0'
    cases e : le'.any (exB (q : Int)) with
    | false => rfl
    | true => rw [e] at h0'; simp at h0'
  unfold aC
  rw [e1, e2]

/-- Nothing is wrong with fewer numbers where nothing is with more. -/
theorem aC_sub' {P Q G H : Int} {le le' lm lm' : List Int} (h : aC P Q G H le lm = 0) (h1 : ∀ x ∈ le', x ∈ le) (h2 : ∀ x ∈ lm', x ∈ lm) : aC P Q G H le' lm' = 0 := by
  obtain ⟨p, q, g, k, rfl, rfl, rfl, rfl, hG, e1, e2⟩ := aC_zero h
  exact aC_of hG (fun x hx => e1 x (h1 x hx)) (fun x hx => e2 x (h2 x hx))

theorem i64_eq {a b : Nat} (h : a = b) : ((a : Int) == (b : Int)) = true := by subst h; exact beq_self_eq_true _

theorem i64_ne {a b : Nat} (h : a ≠ b) : ((a : Int) == (b : Int)) = false := beq_eq_false_iff_ne.2 (by omega)

theorem i64_bne {a b : Nat} (h : a ≠ b) : ((a : Int) != (b : Int)) = true := bne_iff_ne.2 (by omega)

/-! ### check -/

theorem tkNo_any (B : Nat) (Q x : Int) (w : World) (hc : w.cell? ⟨B, 1, none⟩ = some (.int .i64 Q)) :
    Calls Try.prog 28 #[.int .i64 x, .pointer (some ⟨B, 0, none⟩)] w fun e w' => e = .returned (.bool (exB Q x)) ∧ Below w.heap.size w w' := by
  by_cases h : x < 0
  · have e : Hid (exB Q x = true) := by show _ = _; unfold exB; rw [decide_eq_true h]; rfl
    go_enter Try.func28, Try.ntmps28
    go_wp2
    go_ret
    exact ⟨ret_bool e.out.symm, Below.refl _ _⟩
  · have h' : decide (x < 0) = false := by simpa using h
    by_cases h2 : Q ≤ x
    · have e : Hid (exB Q x = true) := by show _ = _; unfold exB; rw [decide_eq_true h2]; simp
      go_enter Try.func28, Try.ntmps28
      go_wp2
      go_ret
      exact ⟨ret_bool e.out.symm, Below.refl _ _⟩
    · have e : Hid (exB Q x = false) := by show _ = _; unfold exB; rw [h', decide_eq_false h2]; rfl
      go_enter Try.func28, Try.ntmps28
      go_wp2
      go_ret
      exact ⟨ret_bool e.out.symm, Below.refl _ _⟩

set_option maxRecDepth 100000 in
set_option maxHeartbeats 1000000 in
theorem tcheck_any (P Q G H : Int) (lo : Option Addr) (lc : Nat) (le : List Int) (hl : le.length ≤ 1048576) (w : World) (lrow : IRow w lo le) :
    Calls Try.prog 16 #[.agg #[.int .i64 P, .int .i64 Q, .int .i64 G, .int .i64 H], .slice lo le.length lc] w fun e w' => e = .returned (.int .i64 (aC P Q G H le [])) ∧ Below w.heap.size w w' := by
  have cC := fun w => Check_any P Q G H w
  have K := hid (Gb.new w P Q G H)
  obtain ⟨c0, c1, c2, c3⟩ := K.out.cells
  by_cases h0 : gC P Q G H = 0
  · have cE : Hid (∀ w1, Gb w w1 P Q G H → Calls Try.prog 27 #[.slice lo le.length lc, .func (.func 28) #[] #[.pointer (some ⟨w.heap.size, 0, none⟩)]] w1 fun e w' => e = .returned (.bool (le.any (exB Q))) ∧ Below w1.heap.size w1 w') := fun w1 hK =>
      conL_any 28 #[.pointer (some ⟨w.heap.size, 0, none⟩)] (enters_of Try.func28 (by decide) rfl) lo lc le (exB Q) hl w1 (ib lrow hK.2) (fun x hx w2 hB2 => tkNo_any w.heap.size Q x w2 (hK.below hB2).cells.2.1)
    have ha : aC P Q G H le [] = if le.any (exB Q) = true then 2 else 0 := by
      unfold aC; rw [if_pos h0]; simp
    rw [ha]
    rw [h0] at cC
    clear ha h0 lrow
    generalize le.any (exB Q) = b1 at *
    generalize le.length = n1 at *
    cases b1
    all_goals
      go_enter Try.func16, Try.ntmps16
      go_wp2_with (first
        | (go_at_call 26; refine (cC _).mono ?_; clear cC; rintro e w1 ⟨rfl, hB1⟩; have K1 := hid (K.out.below hB1); obtain ⟨d0, d1, d2, d3⟩ := K1.out.cells; clear hB1)
        | (go_at_call 27; refine (cE.out _ K1.out).mono ?_; clear cE; rintro e w2 ⟨rfl, hB2⟩; have K2 := hid (K1.out.below hB2); clear hB2))
      go_ret
      exact ⟨rfl, K2.out.2⟩
  · have ha : aC P Q G H le [] = gC P Q G H := by unfold aC; rw [if_neg h0]
    rw [ha]
    generalize gC P Q G H = c at *
    have h1 : (c != 0) = true := by simpa using h0
    clear ha h0 lrow
    go_enter Try.func16, Try.ntmps16
    go_wp2_with (go_at_call 26; refine (cC _).mono ?_; clear cC; rintro e w1 ⟨rfl, hB1⟩; have K1 := hid (K.out.below hB1); clear hB1)
    go_ret
    exact ⟨rfl, K1.out.2⟩

theorem tk2 (P Q G H a b : Int) (wr : World) (n : Nat) (hn : n = wr.heap.size) :
    Calls Try.prog 16 #[.agg #[.int .i64 P, .int .i64 Q, .int .i64 G, .int .i64 H], .slice (some ⟨n, 0, none⟩) 2 2] (wr.alloc (.cells #[.int .i64 a, .int .i64 b] 2)) fun e w' => e = .returned (.int .i64 (aC P Q G H [a, b] [])) ∧ Below wr.heap.size wr w' := by
  subst hn
  exact (tcheck_any P Q G H _ 2 [a, b] (by simp) _ (irow_two wr a b)).mono fun e w' h => ⟨h.1, below_trans (alloc_b wr _) h.2⟩

theorem tk3 (P Q G H a b c : Int) (wr : World) (n : Nat) (hn : n = wr.heap.size) :
    Calls Try.prog 16 #[.agg #[.int .i64 P, .int .i64 Q, .int .i64 G, .int .i64 H], .slice (some ⟨n, 0, none⟩) 3 3] (wr.alloc (.cells #[.int .i64 a, .int .i64 b, .int .i64 c] 2)) fun e w' => e = .returned (.int .i64 (aC P Q G H [a, b, c] [])) ∧ Below wr.heap.size wr w' := by
  subst hn
  exact (tcheck_any P Q G H _ 3 [a, b, c] (by simp) _ (irow3 wr a b c)).mono fun e w' h => ⟨h.1, below_trans (alloc_b wr _) h.2⟩

theorem tk4 (P Q G H a b c d : Int) (wr : World) (n : Nat) (hn : n = wr.heap.size) :
    Calls Try.prog 16 #[.agg #[.int .i64 P, .int .i64 Q, .int .i64 G, .int .i64 H], .slice (some ⟨n, 0, none⟩) 4 4] (wr.alloc (.cells #[.int .i64 a, .int .i64 b, .int .i64 c, .int .i64 d] 2)) fun e w' => e = .returned (.int .i64 (aC P Q G H [a, b, c, d] [])) ∧ Below wr.heap.size wr w' := by
  subst hn
  exact (tcheck_any P Q G H _ 4 [a, b, c, d] (by simp) _ (irow_four wr a b c d)).mono fun e w' h => ⟨h.1, below_trans (alloc_b wr _) h.2⟩

/-! ### a box of three numbers behind the group's box -/

theorem put3 {W : World} {B : Nat} {t : TypeId} {a b c : Value} (h : BoxC W B t #[a, b, c]) (a' b' c' : Value) : BoxC (((W.setCell ⟨B, 0, none⟩ a').setCell ⟨B, 1, none⟩ b').setCell ⟨B, 2, none⟩ c') B t #[a', b', c'] := by
  have := ((h.set 0 a').set 1 b').set 2 c'
  simpa using this

theorem box_three {wr : World} {B : Nat} {t : TypeId} {a b c : Value} (h : BoxC wr B t #[a, b, c]) : wr.cell? ⟨B, 0, none⟩ = some a ∧ wr.cell? ⟨B, 1, none⟩ = some b ∧ wr.cell? ⟨B, 2, none⟩ = some c ∧ wr.frozen? ⟨B, 0, none⟩ = false ∧ wr.frozen? ⟨B, 1, none⟩ = false ∧ wr.frozen? ⟨B, 2, none⟩ = false := ⟨by rw [h.cell 0]; rfl, by rw [h.cell 1]; rfl, by rw [h.cell 2]; rfl, h.frozen 0, h.frozen 1, h.frozen 2⟩

def Gs (w wr : World) (P Q G H : Int) (x : Array Value) : Prop := Gb w wr P Q G H ∧ BoxC wr (w.heap.size + 1) 25 x

theorem Gs.new (w : World) (P Q G H : Int) (x : Array Value) : Gs w ((w.alloc (.cells #[.int .i64 P, .int .i64 Q, .int .i64 G, .int .i64 H] 23)).alloc (.cells x 25)) P Q G H x := by
  have h := BoxC.new (w.alloc (.cells #[.int .i64 P, .int .i64 Q, .int .i64 G, .int .i64 H] 23)) 25 x
  rw [World.size_alloc] at h
  exact ⟨(Gb.new w P Q G H).alloc _, h⟩

theorem Gs.below {w wr w' : World} {P Q G H : Int} {x : Array Value} (h : Gs w wr P Q G H x) (hb : Below wr.heap.size wr w') : Gs w w' P Q G H x := ⟨h.1.below hb, (hb.block _ h.2.lt).trans h.2⟩

theorem Gs.alloc {w wr : World} {P Q G H : Int} {x : Array Value} (h : Gs w wr P Q G H x) (o : Obj) : Gs w (wr.alloc o) P Q G H x := ⟨h.1.alloc o, h.2.alloc o⟩

theorem Gs.drew {w wr : World} {P Q G H : Int} {x : Array Value} (h : Gs w wr P Q G H x) : Gs w wr.drew P Q G H x := ⟨h.1.drew, h.2⟩

theorem Gs.set {w wr : World} {P Q G H : Int} {a b c : Value} (h : Gs w wr P Q G H #[a, b, c]) (a' b' c' : Value) : Gs w (((wr.setCell ⟨w.heap.size + 1, 0, none⟩ a').setCell ⟨w.heap.size + 1, 1, none⟩ b').setCell ⟨w.heap.size + 1, 2, none⟩ c') P Q G H #[a', b', c'] :=
  ⟨Gb.setCell (Gb.setCell (Gb.setCell h.1 (by omega) _ _) (by omega) _ _) (by omega) _ _, put3 h.2 a' b' c'⟩

/-! ### Speak -/

set_option maxRecDepth 100000 in
set_option maxHeartbeats 1000000 in
theorem Speak_bad (P Q G H s k a : Int) (h : aC P Q G H [s, k, a] [] ≠ 0) (w : World) :
    Calls Try.prog 7 #[.agg #[.int .i64 P, .int .i64 Q, .int .i64 G, .int .i64 H], .int .i64 s, .int .i64 k, .int .i64 a] w fun e w' => e = .returned (.tuple #[.agg #[.int .i64 0, .int .i64 0, .int .i64 0], .int .i64 (aC P Q G H [s, k, a] [])]) ∧ Below w.heap.size w w' := by
  have K := hid (Gs.new w P Q G H #[.int .i64 0, .int .i64 0, .int .i64 0])
  obtain ⟨c0, c1, c2, c3⟩ := K.out.1.cells
  have cC := tk3 P Q G H s k a _ (w.heap.size + 1 + 1) (size2 w (.cells #[.int .i64 P, .int .i64 Q, .int .i64 G, .int .i64 H] 23) (.cells #[.int .i64 0, .int .i64 0, .int .i64 0] 25))
  generalize aC P Q G H [s, k, a] [] = c at *
  have h1 : (c != 0) = true := by simpa using h
  go_enter Try.func7, Try.ntmps7
  go_wp2_with (go_at_call 16; refine cC.mono ?_; clear cC; rintro e w1 ⟨rfl, hB1⟩; have K1 := hid (K.out.below hB1); obtain ⟨r0, r1, r2, f0, f1, f2⟩ := box_three K1.out.2; clear hB1)
  have R := K1.out.set (.int .i64 0) (.int .i64 0) (.int .i64 0)
  obtain ⟨s0, s1, s2, _⟩ := box_three R.2
  exact bodyPost_ret (v := .tuple #[.agg #[.int .i64 0, .int .i64 0, .int .i64 0], .int .i64 c]) (by simp [results, Try.results7, go_sem, s0, s1, s2]) rfl ⟨rfl, R.1.2⟩

theorem ex3 {q a b c : Nat} (ha : a < q) (hb : b < q) (hc : c < q) : ∀ x ∈ [(a : Int), (b : Int), (c : Int)], ∃ n : Nat, x = (n : Int) ∧ n < q := fun x hx => by
  simp at hx
  rcases hx with rfl | rfl | rfl
  · exact ⟨a, rfl, ha⟩
  · exact ⟨b, rfl, hb⟩
  · exact ⟨c, rfl, hc⟩

theorem ex2 {q a b : Nat} (ha : a < q) (hb : b < q) : ∀ x ∈ [(a : Int), (b : Int)], ∃ n : Nat, x = (n : Int) ∧ n < q := fun x hx => by
  simp at hx
  rcases hx with rfl | rfl
  · exact ⟨a, rfl, ha⟩
  · exact ⟨b, rfl, hb⟩

set_option maxRecDepth 100000 in
set_option maxHeartbeats 2000000 in
theorem Speak_yes (P Q G H s k a : Nat) (hG : Grp P Q G H) (hs : s < Q) (hk : k < Q) (ha : a < Q) (w : World) :
    Calls Try.prog 7 #[.agg #[.int .i64 (P : Int), .int .i64 (Q : Int), .int .i64 (G : Int), .int .i64 (H : Int)], .int .i64 (s : Int), .int .i64 (k : Int), .int .i64 (a : Int)] w fun e w' => e = .returned (.tuple #[.agg #[.int .i64 (G ^ k % P : Nat), .int .i64 (a : Int), .int .i64 ((k + a * s) % Q : Nat)], .int .i64 0]) ∧ Below w.heap.size w w' := by
  have pb := hG.big
  have ql := hG.qlt
  have q2 := hG.q2
  have K := hid (Gs.new w (P : Int) (Q : Int) (G : Int) (H : Int) #[.int .i64 0, .int .i64 0, .int .i64 0])
  obtain ⟨c0, c1, c2, c3⟩ := K.out.1.cells
  have cC := tk3 (P : Int) (Q : Int) (G : Int) (H : Int) (s : Int) (k : Int) (a : Int) _ (w.heap.size + 1 + 1) (size2 w (.cells #[.int .i64 (P : Int), .int .i64 (Q : Int), .int .i64 (G : Int), .int .i64 (H : Int)] 23) (.cells #[.int .i64 0, .int .i64 0, .int .i64 0] 25))
  rw [aC_of hG (ex3 hs hk ha) none0] at cC
  have cA := fun w => Public_yes P Q G H k hG hk w
  obtain ⟨m1, m2⟩ := mul_bds (by omega : Q ≤ 1048576) ha hs
  have w1' : IntKind.i64.wrap ((a : Int) * (s : Int)) = (a : Int) * (s : Int) := wrap_in _ (by omega) (by omega)
  have w2' : IntKind.i64.wrap ((k : Int) + (a : Int) * (s : Int)) = (k : Int) + (a : Int) * (s : Int) := wrap_in _ (by omega) (by omega)
  have n0 : ¬ (Q : Int) = 0 := by omega
  have n1 : ¬ Q = 0 := by omega
  have E1 : ((k : Int) + (a : Int) * (s : Int)) = ((k + a * s : Nat) : Int) := by simp
  have E2 : ((k : Int) + (a : Int) * (s : Int)).tmod (Q : Int) = (((k + a * s) % Q : Nat) : Int) := by rw [E1, ← Int.ofNat_tmod]
  have E3 : ((k : Int) + (a : Int) * (s : Int)) % (Q : Int) = (((k + a * s) % Q : Nat) : Int) := by rw [E1, ← Int.natCast_emod]
  clear hG hs hk ha pb ql q2 E1
  generalize (k + a * s) % Q = z at *
  generalize G ^ k % P = y at *
  go_enter Try.func7, Try.ntmps7
  go_wp2_with (first
    | (go_at_call 16; refine cC.mono ?_; clear cC; rintro e w1 ⟨rfl, hB1⟩; have K1 := hid (K.out.below hB1); obtain ⟨d0, d1, d2, d3⟩ := K1.out.1.cells; clear hB1)
    | (go_at_call 9; refine (cA _).mono ?_; clear cA; rintro e w2 ⟨rfl, hB2⟩; have K2 := hid (K1.out.below hB2); obtain ⟨e0, e1, e2, e3⟩ := K2.out.1.cells; obtain ⟨r0, r1, r2, f0, f1, f2⟩ := box_three K2.out.2; clear hB2))
  have R := K2.out.set (.int .i64 (y : Int)) (.int .i64 (a : Int)) (.int .i64 (z : Int))
  obtain ⟨s0, s1, s2, _⟩ := box_three R.2
  exact bodyPost_ret (v := .tuple #[.agg #[.int .i64 (y : Int), .int .i64 (a : Int), .int .i64 (z : Int)], .int .i64 0]) (by simp [results, Try.results7, go_sem, s0, s1, s2]) rfl ⟨rfl, R.1.2⟩

end Go.Proofs.Ytpflkihagebmlab.Calls167
