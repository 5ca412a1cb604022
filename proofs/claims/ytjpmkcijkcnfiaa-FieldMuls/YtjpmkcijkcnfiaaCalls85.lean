/-
  The document's elements and its least element whose powers are all; powers one by one.
-/
import Derived.Test.YtjpmkcijkcnfiaaCalls84
import Derived.Test.YtjpmkcijkcnfiaaCalls60
import Derived.Deep.RegionHeld3
import Derived.Deep.RegionWith
namespace Go.Proofs.Ytjpmkcijkcnfiaa.Calls85
set_option linter.unusedVariables false
open Go.ChangeShapes Go.WideShapes Go.ChangeAt Go.RowKit Go.Deep Go.Proofs.Ytjpmkcijkcnfiaa.Base Go.Proofs.Ytjpmkcijkcnfiaa.Base2 Go.Proofs.Ytjpmkcijkcnfiaa.Num Go.Proofs.Ytjpmkcijkcnfiaa.Num16 Go.Proofs.Ytjpmkcijkcnfiaa.Num17 Go.Proofs.Ytjpmkcijkcnfiaa.Num21 Go.Proofs.Ytjpmkcijkcnfiaa.Num23 Go.Proofs.Ytjpmkcijkcnfiaa.Num34 Go.Proofs.Ytjpmkcijkcnfiaa.Num35 Go.Proofs.Ytjpmkcijkcnfiaa.Num36 Go.Proofs.Ytjpmkcijkcnfiaa.Num37 Go.Proofs.Ytjpmkcijkcnfiaa.Num38 Go.Proofs.Ytjpmkcijkcnfiaa.Base4 Go.Proofs.Ytjpmkcijkcnfiaa.Calls56 Go.Proofs.Ytjpmkcijkcnfiaa.Calls57 Go.Proofs.Ytjpmkcijkcnfiaa.Calls58 Go.Proofs.Ytjpmkcijkcnfiaa.Calls61 Go.Proofs.Ytjpmkcijkcnfiaa.Calls75 Go.Proofs.Ytjpmkcijkcnfiaa.Calls77 Go.Proofs.Ytjpmkcijkcnfiaa.Calls78 Go.Proofs.Ytjpmkcijkcnfiaa.Calls76 Go.Proofs.Ytjpmkcijkcnfiaa.Calls79 Go.Proofs.Ytjpmkcijkcnfiaa.Calls62 Go.Proofs.Ytjpmkcijkcnfiaa.Calls80 Go.Proofs.Ytjpmkcijkcnfiaa.Calls81 Go.Proofs.Ytjpmkcijkcnfiaa.Calls82 Go.Proofs.Ytjpmkcijkcnfiaa.Calls83 Go.Proofs.Ytjpmkcijkcnfiaa.Calls84
open Go.Proofs.Ytjpmkcijkcnfiaa.Num13 (rs rs_cast)
open Go.Proofs.Ytjpmkcijkcnfiaa.Calls60 (wrap_in)
open Go.Proofs.Ytjpmkcijkcnfiaa.Num20 (pw Ord)
open Go.Proofs.Ytjpmkcijkcnfiaa.Num22 (El MulR)

theorem ec_one {p : Int} {f : List Int} {a c : Int} (h : EC p f [a] c) : (FC p f c ∧ c ≠ 0) ∨ (FC p f 0 ∧ ((¬ (0 ≤ a ∧ a < ((p.toNat ^ (f.length - 1) : Nat) : Int)) ∧ c = 2) ∨ ((0 ≤ a ∧ a < ((p.toNat ^ (f.length - 1) : Nat) : Int)) ∧ c = 0))) := by
  rcases h with h | ⟨h1, ⟨h2, h3⟩ | ⟨h2, h3⟩⟩
  · exact .inl h
  · exact .inr ⟨h1, .inl ⟨fun h => h2 (fun z hz => by simp at hz; subst hz; exact h), h3⟩⟩
  · exact .inr ⟨h1, .inr ⟨h2 a (by simp), h3⟩⟩

set_option maxRecDepth 100000 in
theorem lawElement_any (p : Int) (fo : Option Addr) (cf : Nat) (f : List Int) (a : Int) (hm : f.length ≤ 9223372036854775807) (c : Int) (hc : EC p f [a] c) (w : World) (rf : IRow w fo f) :
    Calls Try.prog 13 #[.int .i64 p, .slice fo f.length cf, .int .i64 a] w fun e w' => e = .returned (.int .i64 c) ∧ Below w.heap.size w w' := by
  rcases ec_one hc with ⟨h, h0⟩ | ⟨h, h1⟩
  · have cC := refFieldCheck_any p fo cf f hm c h w rf
    have g1 : (c == 0) = false := by simpa using h0
    generalize f.length = n at *
    clear rf h hc
    go_enter Try.func13, Try.ntmps13
    go_wp2_with (go_at_call 10; refine cC.mono ?_; rintro e w1 ⟨rfl, hB1⟩)
    go_ret
    exact ⟨rfl, hB1⟩
  · have cC := refFieldCheck_any p fo cf f hm 0 h w rf
    obtain ⟨P, rfl, hF⟩ := h.ok
    have hs := hF.size
    have cZ := fun w => refFieldSize_any P hF.1.1 hF.2.1 fo cf f (by have := hF.fl; omega) w
    rw [fsz_of hF.2.2.2.2.2.2.1] at cZ
    rw [Int.toNat_natCast] at h1
    obtain ⟨S, hS⟩ : ∃ S, S = P ^ (f.length - 1) := ⟨_, rfl⟩
    rw [← hS] at h1 hs
    simp only [← hS] at cZ
    generalize f.length = n at *
    clear rf h hc hF hS
    by_cases ha : a < 0
    · have h3 : c = 2 := by
        rcases h1 with ⟨_, h⟩ | ⟨h, _⟩
        · exact h
        · omega
      subst h3
      clear h1
      go_enter Try.func13, Try.ntmps13
      go_wp2_with (first
        | (go_at_call 10; refine cC.mono ?_; rintro e w1 ⟨rfl, hB1⟩)
        | (go_at_call 23; refine (cZ _).mono ?_; rintro e w2 ⟨rfl, hw⟩; subst w2))
      go_ret
      exact ⟨rfl, hB1⟩
    · have ha' : decide (a < 0) = false := by simpa using ha
      by_cases ha2 : (S : Int) ≤ a
      · have h3 : c = 2 := by
          rcases h1 with ⟨_, h⟩ | ⟨h, _⟩
          · exact h
          · omega
        subst h3
        clear h1
        go_enter Try.func13, Try.ntmps13
        go_wp2_with (first
          | (go_at_call 10; refine cC.mono ?_; rintro e w1 ⟨rfl, hB1⟩)
          | (go_at_call 23; refine (cZ _).mono ?_; rintro e w2 ⟨rfl, hw⟩; subst w2))
        go_ret
        exact ⟨rfl, hB1⟩
      · have ha3 : decide ((S : Int) ≤ a) = false := by simpa using ha2
        have h3 : c = 0 := by
          rcases h1 with ⟨h, _⟩ | ⟨_, h⟩
          · exact absurd ⟨by omega, by omega⟩ h
          · exact h
        subst h3
        clear h1
        go_enter Try.func13, Try.ntmps13
        go_wp2_with (first
          | (go_at_call 10; refine cC.mono ?_; rintro e w1 ⟨rfl, hB1⟩)
          | (go_at_call 23; refine (cZ _).mono ?_; rintro e w2 ⟨rfl, hw⟩; subst w2))
        go_ret
        exact ⟨rfl, hB1⟩

/-- The codes of two elements. -/
theorem ec_two {p : Int} {f : List Int} {a b c d : Int} (hc : EC p f [a] c) (hd : EC p f [b] d) : EC p f [a, b] (if c = 0 then d else c) := by
  rcases ec_one hc with ⟨h, h0⟩ | ⟨h, ⟨h1, rfl⟩ | ⟨h1, rfl⟩⟩
  · rw [if_neg h0]; exact .inl ⟨h, h0⟩
  · rw [if_neg (by decide)]
    exact .inr ⟨h, .inl ⟨fun k => h1 (k a (by simp)), rfl⟩⟩
  · rw [if_pos rfl]
    rcases hd with ⟨k, k0⟩ | ⟨k, ⟨k1, rfl⟩ | ⟨k1, rfl⟩⟩
    · exact .inl ⟨k, k0⟩
    · exact .inr ⟨k, .inl ⟨fun g => k1 (fun z hz => g z (by simp at hz; simp [hz])), rfl⟩⟩
    · exact .inr ⟨k, .inr ⟨fun z hz => by
        simp at hz
        rcases hz with rfl | rfl
        · exact h1
        · exact k1 z (by simp), rfl⟩⟩

theorem ecB_ex (p : Int) (f l : List Int) : ∃ b : Bool, (b = true ↔ EC p f l 0) := by
  rcases Classical.em (EC p f l 0) with h | h
  · exact ⟨true, ⟨fun _ => h, fun _ => rfl⟩⟩
  · refine ⟨false, ⟨fun e => ?_, fun e => absurd e h⟩⟩
    cases e

theorem fc_uniq0 {p : Int} {f : List Int} {c : Int} (h : FC p f c) (h0 : c ≠ 0) : ¬ FC p f 0 := fun k => by
  obtain ⟨P, rfl, hF⟩ := k.ok
  obtain ⟨g1, g2, g3, g4, g5, g6, g7, g8⟩ := hF
  rcases h with ⟨h, _⟩ | ⟨_, h⟩
  · rcases h with ⟨h, _⟩ | ⟨_, ⟨h, _⟩ | ⟨_, ⟨h, _⟩ | ⟨_, h⟩⟩⟩
    · rcases h with ⟨h, _⟩ | ⟨_, ⟨h, _⟩ | ⟨_, h⟩⟩
      · have := g1.1; exact h ⟨by omega, by omega⟩
      · rw [Int.toNat_natCast] at h; exact h g1
      · exact h0 h
    · omega
    · rw [Int.toNat_natCast] at h; exact h g3
    · exact h0 h
  · rw [Int.toNat_natCast] at h
    rcases h with ⟨h, _⟩ | ⟨_, ⟨h, _⟩ | ⟨_, ⟨h, _⟩ | ⟨_, h⟩⟩⟩
    · exact h ⟨g4, g6⟩
    · exact h g7
    · exact h g8
    · exact h0 h

set_option maxRecDepth 100000 in
theorem within_any (p : Int) (fo lo : Option Addr) (cf cl : Nat) (f l : List Int) (hm : f.length ≤ 9223372036854775807) (hml : l.length ≤ 9223372036854775807) (b : Bool) (hb : b = true ↔ EC p f l 0) (w : World) (rf : IRow w fo f) (rl : IRow w lo l) :
    Calls Try.prog 20 #[.int .i64 p, .slice fo f.length cf, .slice lo l.length cl] w fun e w' => e = .returned (.bool b) ∧ Below w.heap.size w w' := by
  obtain ⟨c, hc⟩ := fc_ex p f
  have cC := refFieldCheck_any p fo cf f hm c hc w rf
  by_cases h0 : c = 0
  · subst h0
    obtain ⟨P, rfl, hF⟩ := hc.ok
    have hs := hF.size
    have cZ := fun w => refFieldSize_any P hF.1.1 hF.2.1 fo cf f (by have := hF.fl; omega) w
    rw [fsz_of hF.2.2.2.2.2.2.1] at cZ
    have hIff : Hid (b = true ↔ ∀ a ∈ l, 0 ≤ a ∧ a < ((P ^ (f.length - 1) : Nat) : Int)) := by
      refine hb.trans ⟨fun h => ?_, fun h => EC.of hF h⟩
      obtain ⟨P', e, _, h2⟩ := h.ok
      have : P' = P := by omega
      subst this
      exact h2
    obtain ⟨S, hS⟩ : ∃ S, S = P ^ (f.length - 1) := ⟨_, rfl⟩
    rw [← hS] at hs hIff
    simp only [← hS] at cZ
    generalize f.length = n at *
    obtain ⟨N, hN⟩ : ∃ N, N = l.length := ⟨_, rfl⟩
    have HN : Hid (N = l.length) := hN
    rw [← hN] at hml ⊢
    clear rf hc hF hS hN hb
    go_enter Try.func20, Try.ntmps20
    go_wp2_with (go_at_call 10; refine cC.mono ?_; rintro e w1 ⟨rfl, hB1⟩)
    have RL := hid (irow_below rl hB1 (Nat.le_refl _))
    clear rl
    go_loop [15] (fun i => ∃ k : Nat, i = .int .i64 (k : Int) ∧ k ≤ N ∧ Hid (∀ j, j < k → 0 ≤ co l j ∧ co l j < (S : Int))) (fun i => ((N : Int) - intOf i).toNat)
    case atStart => exact ⟨0, rfl, by omega, fun j hj => by omega⟩
    case round =>
      obtain ⟨k, rfl, hk, hJ⟩ := hrel
      by_cases hgo : k < N
      · have hgo' : (k : Int) < (N : Int) := by omega
        have hkl : Hid (k < l.length) := by have := HN.out; show k < l.length; omega
        rcases lo with _ | ad
        · exact (irow_none RL.out hkl.out).elim
        have ce1 := RL.out.2 ad rfl k hkl.out
        have hJ2 : Hid ((0 ≤ co l k ∧ co l k < (S : Int)) → ∀ j, j < k + 1 → 0 ≤ co l j ∧ co l j < (S : Int)) := fun h j hj => by
          by_cases e : j = k
          · subst e; exact h
          · exact hJ.out j (by omega)
        have hN1 : Hid (¬ (0 ≤ co l k ∧ co l k < (S : Int)) → b = false) := fun h => by
          cases b with
          | false => rfl
          | true => exact absurd (hIff.out.1 rfl _ (co_mem hkl.out)) h
        generalize co l k = x at *
        by_cases h1 : x < 0
        · have hbf : Hid (b = false) := hN1.out (by omega)
          clear hN1 hJ2
          go_wp2_with (go_at_call 23; refine (cZ _).mono ?_; rintro e w2 ⟨rfl, hw⟩; subst w2)
          go_ret
          exact ⟨ret_bool hbf.out.symm, hB1⟩
        · have h1' : decide (x < 0) = false := by simpa using h1
          by_cases h2 : (S : Int) ≤ x
          · have hbf : Hid (b = false) := hN1.out (by omega)
            clear hN1 hJ2
            go_wp2_with (go_at_call 23; refine (cZ _).mono ?_; rintro e w2 ⟨rfl, hw⟩; subst w2)
            go_ret
            exact ⟨ret_bool hbf.out.symm, hB1⟩
          · have h2' : decide ((S : Int) ≤ x) = false := by simpa using h2
            have hJ3 := hid (hJ2.out ⟨by omega, by omega⟩)
            clear hJ2 hN1
            go_wp2_with (go_at_call 23; refine (cZ _).mono ?_; rintro e w2 ⟨rfl, hw⟩; subst w2)
            go_round
            case rel => exact ⟨k + 1, by simp, by omega, hJ3⟩
            case measure => exact measK hgo
      · have hgo' : ¬ (k : Int) < (N : Int) := by omega
        have hbt : Hid (b = true) := hIff.out.2 (fun a ha => by
          obtain ⟨j, hj, e⟩ := List.getElem_of_mem ha
          have := hJ.out j (by have := HN.out; omega)
          simpa [co, List.getD, hj, e] using this)
        go_wp2
        go_ret
        exact ⟨ret_bool hbt.out.symm, hB1⟩
  · have hbf : Hid (b = false) := by
      cases b with
      | false => exact rfl
      | true =>
        exfalso
        rcases hb.1 rfl with ⟨h, h2⟩ | ⟨h, _⟩
        · exact h2 rfl
        · exact fc_uniq0 hc h0 h
    have g1 : (c != 0) = true := by simpa using h0
    have g2 : (c == 0) = false := by simpa using h0
    generalize f.length = n at *
    generalize l.length = nl at *
    clear rf rl hc hb
    go_enter Try.func20, Try.ntmps20
    go_wp2_with (go_at_call 10; refine cC.mono ?_; rintro e w1 ⟨rfl, hB1⟩)
    go_ret
    exact ⟨ret_bool hbf.out.symm, hB1⟩

theorem refFieldMul_el (p : Nat) (f : List Int) (hf : Fld p f) (F : Fe p f) (hF : Fits p f F) (fo : Option Addr) (cf : Nat) (x y : El p f) (w : World) (rf : IRow w fo f) :
    Calls Try.prog 16 #[.int .i64 (p : Int), .slice fo f.length cf, .int .i64 (num x : Int), .int .i64 (num y : Int)] w fun e w' => e = .returned (.int .i64 (num (F.mul x y) : Int)) ∧ Below w.heap.size w w' := by
  have hp1 := hf.1.1
  have hs := hf.size
  have hx := num_lt (p := p) (by omega) x
  have hy := num_lt (p := p) (by omega) y
  exact (refFieldMul_any p f hf fo cf (num x) (num y) (by omega) (by omega) w rf).mono (fun e w' ⟨⟨c, hc, he⟩, hB⟩ => ⟨by rw [he, hF.mul hf.1 hf.2.2.1 hf.fl.2 x y hc], hB⟩)

theorem ord_of {p : Nat} {f : List Int} (hf : Fld p f) {F : Fe p f} (hF : Fits p f F) {y : El p f} (hy : num y ≠ 0) : ∃ o, Ord F y o ∧ 1 ≤ o ∧ o ≤ 4096 ∧ o ∣ p ^ (f.length - 1) - 1 := by
  have hs := hf.size
  have h1 : pw F y (p ^ (f.length - 1) - 1) = F.one := (field_cyclic hf.1 hf.fl.1 F hF.1).2 y (hf.ne_zero hF hy)
  obtain ⟨o, ho⟩ := Go.Proofs.Ytjpmkcijkcnfiaa.Num20.ord_ex F (by omega) h1
  have hd := (ho.2 _).1 h1
  have := Nat.le_of_dvd (by omega) hd
  exact ⟨o, ho, ho.1, by omega, hd⟩

set_option maxRecDepth 100000 in
set_option maxHeartbeats 2000000 in
theorem refFieldBase_el (P : Nat) (f : List Int) (hf : Fld P f) (F : Fe P f) (hF : Fits P f F) (m G : Nat) (hm : P ^ (f.length - 1) - 1 = m) (hG : BaseIs F m G) (fo : Option Addr) (cf : Nat) (w : World) (rf : IRow w fo f) :
    Calls Try.prog 19 #[.int .i64 (P : Int), .slice fo f.length cf] w fun e w' => e = .returned (.int .i64 (G : Int)) ∧ Below w.heap.size w w' := by
  have hs := hf.size
  obtain ⟨hG1, hG2, hG3⟩ := base_facts hf hF hm hG
  have cZ := fun w => refFieldSize_any P hf.1.1 hf.2.1 fo cf f (by have := hf.fl; omega) w
  rw [fsz_of hf.2.2.2.2.2.2.1] at cZ
  have cM := fun (x y : El P f) w' (hB : Below w.heap.size w w') => refFieldMul_el P f hf F hF fo cf x y w' (irow_below rf hB (Nat.le_refl _))
  have hEl : Hid (∀ v : Nat, 1 ≤ v → v ≤ G → ∃ (y : El P f) (o : Nat), num y = v ∧ Ord F y o ∧ 1 ≤ o ∧ o ≤ 4096 ∧ (o = m ↔ v = G)) := fun v h1 h2 => by
    obtain ⟨y, hy⟩ := hf.el (a := v) (by omega)
    obtain ⟨o, ho, g1, g2, g3⟩ := ord_of hf hF (y := y) (by omega)
    refine ⟨y, o, hy, ho, g1, g2, ⟨fun e => ?_, fun e => ?_⟩⟩
    · subst e
      rcases Nat.lt_or_ge v G with h | h
      · exact absurd ho ((hG3 y).1 (by omega))
      · omega
    · exact Ord.uniq ho ((hG3 y).2 (by omega))
  have hOne : Hid (∀ x : El P f, num x = 1 ↔ x = F.one) := fun x => hf.one_of hF
  have hP1 : Hid (∀ y : El P f, pw F y 1 = y) := fun y => F.one_mul y
  obtain ⟨S, hS⟩ : ∃ S, S = P ^ (f.length - 1) := ⟨_, rfl⟩
  rw [← hS] at hs hG2 hm
  simp only [← hS] at cZ
  have hSm : (S : Int) - 1 = (m : Int) := by omega
  generalize f.length = n at *
  clear hf hF hG hG3 hS rf
  go_enter Try.func19, Try.ntmps19
  go_wp2_with (go_at_call 23; refine (cZ _).mono ?_; rintro e w1 ⟨rfl, hw⟩; subst w1)
  go_loopw [6] (fun v wr => ∃ k : Nat, v = .int .i64 (k : Int) ∧ 1 ≤ k ∧ k ≤ G ∧ Hid (Below w.heap.size w wr)) (fun v wr => ((G : Int) - intOf v).toNat)
  case atStart => exact ⟨1, rfl, by omega, hG1, Below.refl _ _⟩
  case round =>
    obtain ⟨k, rfl, hk1, hk2, hB⟩ := hrel
    have hkS : (k : Int) < (S : Int) := by omega
    obtain ⟨y, o, hy, hO, ho1, ho2, hoG⟩ := hEl.out k hk1 hk2
    have HO := hid hO
    clear hO
    go_wp2
    go_loopw [7, 8] (fun vx vi wr => ∃ i u : Nat, vx = .int .i64 (u : Int) ∧ vi = .int .i64 (i : Int) ∧ 1 ≤ i ∧ i ≤ o ∧ Hid (u = num (pw F y i)) ∧ Hid (Below w.heap.size w wr)) (fun vx vi wr => ((o : Int) - intOf vi).toNat)
    case atStart => exact ⟨1, k, rfl, rfl, by omega, ho1, by show _ = _; rw [hP1.out, hy], hB⟩
    case round =>
      obtain ⟨i, u, rfl, rfl, hi1, hio, hU, hB2⟩ := hrel
      have hone := hid (hOne.out (pw F y i))
      rw [← hU.out] at hone
      by_cases hu : u = 1
      · subst hu
        have hd := (HO.out.2 i).1 (hone.out.1 rfl)
        have hle := Nat.le_of_dvd (by omega) hd
        obtain rfl : i = o := by omega
        clear hd hle hone
        by_cases hkG : k = G
        · have e1 : i = m := hoG.2 hkG
          have e2 : ((i : Int) == (m : Int)) = true := by simp [e1]
          subst e1
          go_wp2
          go_ret
          exact ⟨rfl, hB2.out⟩
        · have e1 : ¬ i = m := fun e => hkG (hoG.1 e)
          have e2 : ((i : Int) == (m : Int)) = false := by simp; omega
          have e3 : ¬ (i : Int) = (m : Int) := by omega
          have hme : Hid (((G : Int) - ((k : Int) + 1)).toNat < ((G : Int) - (k : Int)).toNat) := by show _ < _; omega
          go_wp2
          go_roundw
          case rel => exact ⟨k + 1, by simp, by omega, by omega, hB2⟩
          case measure => exact hme.out
      · have hu' : ((u : Int) != 1) = true := by simp; omega
        have hu2 : ((u : Int) == 1) = false := by simp; omega
        have hu3 : ¬ (u : Int) = 1 := by omega
        have hlt : i < o := by
          rcases Nat.lt_or_ge i o with h | h
          · exact h
          · exfalso
            obtain rfl : i = o := by omega
            exact hu (hone.out.2 ((HO.out.2 i).2 (Nat.dvd_refl _)))
        have cM1 := cM (pw F y i) y wr hB2.out
        rw [← hU.out, hy] at cM1
        have hU2 : Hid (num (F.mul (pw F y i) y) = num (pw F y (i + 1))) := rfl
        rw [hU2.out] at cM1
        clear hU2 hone
        go_wp2_with (go_at_call 16; refine cM1.mono ?_; rintro e w2 ⟨rfl, hB3⟩; have HB3 := hid (below_trans hB2.out hB3); clear hB3)
        go_roundw
        case rel => exact ⟨i + 1, _, rfl, by simp, by omega, by omega, rfl, HB3⟩
        case measure => exact measK hlt

end Go.Proofs.Ytjpmkcijkcnfiaa.Calls85
