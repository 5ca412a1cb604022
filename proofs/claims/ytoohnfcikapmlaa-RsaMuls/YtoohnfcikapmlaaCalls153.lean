/-
  Package rsa: what was locked, by parts.
-/
import Derived.Test.YtoohnfcikapmlaaCalls152
import Derived.Test.YtoohnfcikapmlaaCalls26
namespace Go.Proofs.Ytoohnfcikapmlaa.Calls153
set_option linter.unusedVariables false
open Go.ChangeShapes Go.WideShapes Go.ChangeAt Go.RowKit Go.Deep Go.Proofs.Ytoohnfcikapmlaa.Base Go.Proofs.Ytoohnfcikapmlaa.Base2 Go.Proofs.Ytoohnfcikapmlaa.Num Go.Proofs.Ytoohnfcikapmlaa.Num14 Go.Proofs.Ytoohnfcikapmlaa.Num27 Go.Proofs.Ytoohnfcikapmlaa.Num56 Go.Proofs.Ytoohnfcikapmlaa.Calls26 Go.Proofs.Ytoohnfcikapmlaa.Calls150 Go.Proofs.Ytoohnfcikapmlaa.Calls151 Go.Proofs.Ytoohnfcikapmlaa.Calls152

/-! ### plain arithmetic: two rests by two primes -/

/-- The two rests. -/
def two (P Q y d : Nat) : List (Int × Int) := [((y ^ d % P : Nat), (P : Int)), ((y ^ d % Q : Nat), (Q : Int))]

theorem two_lc (P Q y d : Nat) (hP : Pr P) (hQ : Pr Q) (hne : P ≠ Q) : lc (nats (two P Q y d)) 2 = P * Q := by
  have h : lc (nats (two P Q y d)) 2 = Nat.lcm (Nat.lcm 1 P) Q := by simp [lc, nats, two]
  have h1 : Nat.lcm 1 P = P := by rw [Nat.lcm, Nat.gcd_one_left]; simp
  rw [h, h1, Nat.lcm, cop_primes hP hQ hne, Nat.div_one]

theorem two_inR (P Q y d : Nat) (hP : Pr P) (hQ : Pr Q) (hne : P ≠ Q) (hPQ : P * Q ≤ 1048576) : InR (two P Q y d) := by
  have p2 := hP.1
  have q2 := hQ.1
  have l1 : P ≤ P * Q := Nat.le_mul_of_pos_right _ (by omega)
  have l2 : Q ≤ P * Q := Nat.le_mul_of_pos_left _ (by omega)
  have m1 : y ^ d % P < P := Nat.mod_lt _ (by omega)
  have m2 : y ^ d % Q < Q := Nat.mod_lt _ (by omega)
  refine ⟨fun j hj => ?_, ?_⟩
  · have hj2 : j < 2 := hj
    match j, hj2 with
    | 0, _ => exact ⟨show (1 : Int) ≤ (P : Int) by omega, show (P : Int) ≤ 1048576 by omega, show (-2147483648 : Int) ≤ ((y ^ d % P : Nat) : Int) by omega, show ((y ^ d % P : Nat) : Int) ≤ 2147483648 by omega⟩
    | 1, _ => exact ⟨show (1 : Int) ≤ (Q : Int) by omega, show (Q : Int) ≤ 1048576 by omega, show (-2147483648 : Int) ≤ ((y ^ d % Q : Nat) : Int) by omega, show ((y ^ d % Q : Nat) : Int) ≤ 2147483648 by omega⟩
  · show lc (nats (two P Q y d)) 2 ≤ _
    rw [two_lc P Q y d hP hQ hne]; omega

theorem fits_rest (m z : Nat) : Fits (z : Int) (((z % m : Nat) : Int), m) := by
  show (m : Int) ∣ (z : Int) - ((z % m : Nat) : Int)
  rw [Int.natCast_emod]
  exact Int.dvd_self_sub_emod

theorem two_each (P Q y d z : Nat) (hz1 : Fits (z : Int) (((y ^ d % P : Nat) : Int), P)) (hz2 : Fits (z : Int) (((y ^ d % Q : Nat) : Int), Q)) : ∀ j, j < 2 → Fits (z : Int) ((nats (two P Q y d)).getD j (0, 1)) := by
  intro j hj
  match j, hj with
  | 0, _ => simpa [nats, two] using hz1
  | 1, _ => simpa [nats, two] using hz2

theorem two_fits (P Q y d : Nat) : Fitted (two P Q y d) :=
  ⟨((y ^ d : Nat) : Int), fun j hj => two_each P Q y d (y ^ d) (fits_rest P _) (fits_rest Q _) j hj⟩

theorem two_sol (P Q y d : Nat) (hP : Pr P) (hQ : Pr Q) (hne : P ≠ Q) {A : Int} (h : Sol (nats (two P Q y d)) (two P Q y d).length A (lc (nats (two P Q y d)) (two P Q y d).length)) : A = ((y ^ d % (P * Q) : Nat) : Int) := by
  have h2 : Sol (nats (two P Q y d)) 2 A (lc (nats (two P Q y d)) 2) := h
  rw [two_lc P Q y d hP hQ hne] at h2
  have hf := (h2.all ((y ^ d : Nat) : Int)).1 (two_each P Q y d (y ^ d) (fits_rest P _) (fits_rest Q _))
  have hd : ((P * Q : Nat) : Int) ∣ ((y ^ d : Nat) : Int) - A := hf
  have e := Int.emod_eq_emod_iff_emod_sub_eq_zero.2 (Int.emod_eq_zero_of_dvd hd)
  rw [Int.emod_eq_of_lt h2.lo h2.hi] at e
  rw [Int.natCast_emod, e]

/-! ### the call -/

set_option maxRecDepth 100000 in
theorem Parts_bad (p q N E D y : Int) (h : ¬ Cr y E D N) (w : World) :
    Calls Try.prog 12 #[.int .i64 p, .int .i64 q, .agg #[.int .i64 N, .int .i64 E, .int .i64 D], .int .i64 y] w fun e w' => e = .returned (.tuple #[.int .i64 0, .int .i64 2]) ∧ Below w.heap.size w w' := by
  have cC := fun w => fits_no N E D y h w
  have K := hid (Kb.new w N E D)
  obtain ⟨c0, c1, c2⟩ := K.out.cells
  clear h
  go_enter Try.func12, Try.ntmps12
  go_wp2_with (go_at_call 16; refine (cC _).mono ?_; rintro e w1 ⟨rfl, hB1⟩; have K1 := hid (K.out.below hB1); obtain ⟨d0, d1, d2⟩ := K1.out.cells; clear hB1)
  go_ret2
  exact ⟨rfl, K1.out.2⟩

set_option maxRecDepth 100000 in
theorem Parts_arg (p q N E D y : Int) (h : Cr y E D N) (hno : ¬ (twoP p q = true ∧ p * q = N)) (w : World) :
    Calls Try.prog 12 #[.int .i64 p, .int .i64 q, .agg #[.int .i64 N, .int .i64 E, .int .i64 D], .int .i64 y] w fun e w' => e = .returned (.tuple #[.int .i64 0, .int .i64 3]) ∧ Below w.heap.size w w' := by
  have cC := fun w => fits_yes N E D y h w
  have cD := fun w => differ_any p q w
  have K := hid (Kb.new w N E D)
  obtain ⟨c0, c1, c2⟩ := K.out.cells
  clear h
  cases ht : twoP p q
  · rw [ht] at cD
    clear ht hno
    go_enter Try.func12, Try.ntmps12
    go_wp2_with (first
      | (go_at_call 16; refine (cC _).mono ?_; rintro e w1 ⟨rfl, hB1⟩; have K1 := hid (K.out.below hB1); obtain ⟨d0, d1, d2⟩ := K1.out.cells; clear hB1)
      | (go_at_call 19; refine (cD _).mono ?_; rintro e w2 ⟨rfl, hB2⟩; have K2 := hid (K1.out.below hB2); obtain ⟨e0, e1, e2⟩ := K2.out.cells; clear hB2))
    go_ret2
    exact ⟨rfl, K2.out.2⟩
  · have hne : ¬ p * q = N := fun e => hno ⟨ht, e⟩
    obtain ⟨P, Q, rfl, rfl, _, _, _, hp2, hq2⟩ := (twoP_iff p q).1 ht
    have hm : P * Q ≤ 1048576 * 1048576 := Nat.mul_le_mul hp2 hq2
    have he : (P : Int) * (Q : Int) = ((P * Q : Nat) : Int) := by simp
    have m1 : 0 ≤ (P : Int) * (Q : Int) := by omega
    have m2 : (P : Int) * (Q : Int) ≤ 1099511627776 := by omega
    have e1 : ((P : Int) * (Q : Int) != N) = true := bne_iff_ne.2 hne
    rw [ht] at cD
    clear ht hno he hm
    go_enter Try.func12, Try.ntmps12
    go_wp2_with (first
      | (go_at_call 16; refine (cC _).mono ?_; rintro e w1 ⟨rfl, hB1⟩; have K1 := hid (K.out.below hB1); obtain ⟨d0, d1, d2⟩ := K1.out.cells; clear hB1)
      | (go_at_call 19; refine (cD _).mono ?_; rintro e w2 ⟨rfl, hB2⟩; have K2 := hid (K1.out.below hB2); obtain ⟨f0, f1, f2⟩ := K2.out.cells; clear hB2))
    go_ret2
    exact ⟨rfl, K2.out.2⟩

theorem infoR : (Try.prog.info? 43).map (fun i => (i.zero, i.size, i.bytes)) = some (some (.agg #[.int .i64 0, .int .i64 0]), 2, 16) := by kernel_rfl

theorem infoR_ex : ∃ i, Try.prog.info? 43 = some i ∧ i.zero = some (.agg #[.int .i64 0, .int .i64 0]) ∧ i.size = 2 ∧ i.bytes = 16 := by
  have h := infoR
  cases e : Try.prog.info? 43 with
  | none => rw [e] at h; simp at h
  | some i => rw [e] at h; simp at h; exact ⟨i, rfl, h.1, h.2.1, h.2.2⟩

theorem pair_cells {W : World} {t : TypeId} {a b : Value} : ∀ j u, ([a, b] : List Value)[j]? = some u → (W.alloc (.cells #[a, b] t)).cell? ((⟨W.heap.size, 0, none⟩ : Addr).add j) = some u := by
  intro j u hj
  match j, hj with
  | 0, hj =>
    simp at hj; subst hj
    simp [Addr.add]
  | 1, hj =>
    simp at hj; subst hj
    simp [Addr.add]

theorem owned_row {W : World} {base : Nat} {e : TypeId} {v : Value} {l : List (Int × Int)} (hl : 0 < l.length) (h : W.ownsRow base e 2 v l.length (flatP l)) :
    ∃ g cap, v = .slice (some ⟨g, 0, none⟩) l.length cap ∧ PRow W (some ⟨g, 0, none⟩) l ∧ g < W.heap.size := by
  obtain ⟨g, cap, rfl, _, hlt⟩ := h.form hl
  exact ⟨g, cap, rfl, prow_owned h, hlt⟩

theorem solve_two (P Q y d : Nat) (hP : Pr P) (hQ : Pr Q) (hne : P ≠ Q) (hPQ : P * Q ≤ 1048576) (bo : Option Addr) (cb : Nat) (w : World) (hr : PRow w bo (two P Q y d)) (hl : Lies w bo (two P Q y d)) :
    Calls Try.prog 20 #[.slice bo 2 cb] w fun e w' => e = .returned (.tuple #[.agg #[.int .i64 ((y ^ d % (P * Q) : Nat) : Int), .int .i64 ((P * Q : Nat) : Int)], .int .i64 0]) ∧ Below w.heap.size w w' := by
  refine (Solve_yes bo cb (two P Q y d) (show 2 ≤ 8 by omega) w hr hl (two_inR P Q y d hP hQ hne hPQ) (two_fits P Q y d)).mono fun e w' ⟨⟨A, hA, he⟩, hB⟩ => ⟨?_, hB⟩
  have h2 : lc (nats (two P Q y d)) (two P Q y d).length = P * Q := two_lc P Q y d hP hQ hne
  rw [he, two_sol P Q y d hP hQ hne hA, h2]

theorem below_snoc {W w1 : World} {base : Nat} {e : TypeId} {size : Nat} {v : Value} {k : Nat} {xs : List Value} {tmp : Obj} {w : World} (hB : Below w.heap.size w W) (hb : w.heap.size ≤ base)
    (hown : W.ownsRow base e size v k xs) (hgrow : (W.alloc tmp).grownBy w1 v.ownBlock) : Below w.heap.size w w1 := by
  refine (hB.alloc hB.size tmp).grown hgrow (by have := hB.size; simp; omega) fun j ej => ?_
  exact Nat.le_trans hb (hown.lt j ej).1

set_option maxRecDepth 100000 in
set_option maxHeartbeats 1000000 in
theorem Parts_yes (P Q E D y : Nat) (hP : Pr P) (hQ : Pr Q) (hne : P ≠ Q) (hPQ : P * Q ≤ 1048576) (h : Cr (y : Int) (E : Int) (D : Int) ((P * Q : Nat) : Int)) (w : World) :
    Calls Try.prog 12 #[.int .i64 (P : Int), .int .i64 (Q : Int), .agg #[.int .i64 ((P * Q : Nat) : Int), .int .i64 (E : Int), .int .i64 (D : Int)], .int .i64 (y : Int)] w fun e w' => e = .returned (.tuple #[.int .i64 (y ^ D % (P * Q) : Nat), .int .i64 0]) ∧ Below w.heap.size w w' := by
  obtain ⟨i0, hi, hz0, hz1, hz2⟩ := infoR_ex
  have p2 := hP.1
  have q2 := hQ.1
  have l1 : P ≤ P * Q := Nat.le_mul_of_pos_right _ (by omega)
  have l2 : Q ≤ P * Q := Nat.le_mul_of_pos_left _ (by omega)
  have cC := fun w => fits_yes ((P * Q : Nat) : Int) (E : Int) (D : Int) (y : Int) h w
  have ht : twoP (P : Int) (Q : Int) = true := (twoP_iff _ _).2 ⟨P, Q, rfl, rfl, hP, hQ, hne, by omega, by omega⟩
  have cD := fun w => differ_any (P : Int) (Q : Int) w
  rw [ht] at cD
  obtain ⟨⟨h1, h2⟩, _, ⟨h3, h4⟩, h5, h6⟩ := h
  have cRP := fun w => raised_any y D P (by omega) (by omega) (by omega) (by omega) w
  have cRQ := fun w => raised_any y D Q (by omega) (by omega) (by omega) (by omega) w
  have cS := fun bo cb w (hr : PRow w bo [(((y ^ D % P : Nat) : Int), (P : Int)), (((y ^ D % Q : Nat) : Int), (Q : Int))]) (hl : Lies w bo [(((y ^ D % P : Nat) : Int), (P : Int)), (((y ^ D % Q : Nat) : Int), (Q : Int))]) => solve_two P Q y D hP hQ hne hPQ bo cb w hr hl
  have j0 : ∀ w, (Instr.index 41 (.agg #[.int .i64 (P : Int), .int .i64 (Q : Int)]) (.int .i64 0)).run Try.prog w = .ok (.int .i64 (P : Int)) w := fun _ => by kernel_rfl
  have j1 : ∀ w, (Instr.index 41 (.agg #[.int .i64 (P : Int), .int .i64 (Q : Int)]) (.int .i64 1)).run Try.prog w = .ok (.int .i64 (Q : Int)) w := fun _ => by kernel_rfl
  have he : (P : Int) * (Q : Int) = ((P * Q : Nat) : Int) := by simp
  have m0 : ((P * Q : Nat) : Int) ≤ 1048576 := by omega
  have K := hid (Kb.new w ((P * Q : Nat) : Int) (E : Int) (D : Int))
  obtain ⟨c0, c1, c2⟩ := K.out.cells
  clear ht hP hQ hne h1 h2 h3 h4 h5 h6
  generalize y ^ D % (P * Q) = z at *
  generalize y ^ D % P = a at *
  generalize y ^ D % Q = b at *
  generalize P * Q = N at *
  have e1 : ((N : Int) != (N : Int)) = false := bne_self_eq_false _
  go_enter Try.func12, Try.ntmps12
  go_wp2_with (first
    | (go_at_call 16; refine (cC _).mono ?_; rintro e w1 ⟨rfl, hB1⟩; have K1 := hid (K.out.below hB1); obtain ⟨d0, d1, d2⟩ := K1.out.cells; clear hB1)
    | (go_at_call 19; refine (cD _).mono ?_; rintro e w2 ⟨rfl, hB2⟩; have K2 := hid (K1.out.below hB2); obtain ⟨f0, f1, f2⟩ := K2.out.cells; clear hB2))
  have hs1 := K2.out.1.lt
  go_loopw [10, 34] (fun v i wr => ((i = .int .i64 0 ∧ Hid (wr.ownsRow w2.heap.size 43 2 v 0 [])) ∨ (i = .int .i64 1 ∧ Hid (wr.ownsRow w2.heap.size 43 2 v 1 [.int .i64 (a : Int), .int .i64 (P : Int)])) ∨ (i = .int .i64 2 ∧ Hid (wr.ownsRow w2.heap.size 43 2 v 2 [.int .i64 (a : Int), .int .i64 (P : Int), .int .i64 (b : Int), .int .i64 (Q : Int)]))) ∧ Hid (Below w2.heap.size w2 wr)) (fun v i wr => ((2 : Int) - intOf i).toNat)
  case atStart => exact ⟨.inl ⟨rfl, World.ownsRow_nil _ _ _ _⟩, Below.refl _ _⟩
  case round =>
    obtain ⟨hc, HBr⟩ := hrel
    have K3 := hid (K2.out.below HBr.out)
    obtain ⟨x0, x1, x2⟩ := K3.out.cells
    have hBs := HBr.out.size
    rcases hc with ⟨rfl, HO⟩ | ⟨rfl, HO⟩ | ⟨rfl, HO⟩
    · clear cRQ cS
      go_wp2_with (first
        | (go_at_call 17; refine (cRP _).mono ?_; rintro e w' ⟨rfl, hw⟩; subst w')
        | (at_builtin; refine wpList_append_own _ rfl _ _ 40 rfl w2.heap.size 43 i0 (.agg #[.int .i64 0, .int .i64 0]) 2 16 Try.underlying40 hi hz0 hz1 hz2 rfl (by decide) _ _ _ rfl (HO.out.alloc _) ⟨wr.heap.size, 0, none⟩ 1 1 [.int .i64 (a : Int), .int .i64 (P : Int)] rfl rfl pair_cells (by simp [Value.oneCell']) (by unfold maxLen; omega) (by omega) (by simp; omega) ?_; intro v' w3 hown' hgrow _; have HO3 := hid hown'; have HB3 := hid (below_snoc HBr.out (Nat.le_refl _) HO.out hgrow); clear hown' hgrow))
      go_roundw
      case rel => exact ⟨.inr (.inl ⟨rfl, HO3⟩), HB3⟩
      case measure => simp [intOf]
    · clear cRP cS
      go_wp2_with (first
        | (go_at_call 17; refine (cRQ _).mono ?_; rintro e w' ⟨rfl, hw⟩; subst w')
        | (at_builtin; refine wpList_append_own _ rfl _ _ 40 rfl w2.heap.size 43 i0 (.agg #[.int .i64 0, .int .i64 0]) 2 16 Try.underlying40 hi hz0 hz1 hz2 rfl (by decide) _ _ _ rfl (HO.out.alloc _) ⟨wr.heap.size, 0, none⟩ 1 1 [.int .i64 (b : Int), .int .i64 (Q : Int)] rfl rfl pair_cells (by simp [Value.oneCell']) (by unfold maxLen; omega) (by omega) (by simp; omega) ?_; intro v' w3 hown' hgrow _; have HO3 := hid hown'; have HB3 := hid (below_snoc HBr.out (Nat.le_refl _) HO.out hgrow); clear hown' hgrow))
      go_roundw
      case rel => exact ⟨.inr (.inr ⟨rfl, HO3⟩), HB3⟩
      case measure => simp [intOf]
    · clear cRP cRQ
      obtain ⟨g, cap, rfl, hr, hlt⟩ := owned_row (l := [((a : Int), (P : Int)), ((b : Int), (Q : Int))]) (by simp) HO.out
      have cS2 := cS (some ⟨g, 0, none⟩) cap wr hr (fun ad e => .inr (by obtain rfl : (⟨g, 0, none⟩ : Addr) = ad := by simpa using e
                                                                         exact hlt))
      clear cS hr hlt
      go_wp2_with (go_at_call 20; refine cS2.mono ?_; rintro e w5 ⟨rfl, hB2⟩)
      go_ret2
      exact ⟨rfl, (below_trans (below_trans K2.out.2 HBr.out) hB2).alloc (by have := hB2.size; omega) _⟩

end Go.Proofs.Ytoohnfcikapmlaa.Calls153
