/-
  Package share: what explains points.
-/
import Derived.Test.YtokbdgikdlfneaaCalls59
import Derived.Test.YtokbdgikdlfneaaCalls91
namespace Go.Proofs.Ytokbdgikdlfneaa.Calls92
set_option linter.unusedVariables false
open Go.ChangeShapes Go.WideShapes Go.ChangeAt Go.RowKit Go.Deep Go.Proofs.Ytokbdgikdlfneaa.Base Go.Proofs.Ytokbdgikdlfneaa.Base2 Go.Proofs.Ytokbdgikdlfneaa.Num Go.Proofs.Ytokbdgikdlfneaa.Num7 Go.Proofs.Ytokbdgikdlfneaa.Num13 Go.Proofs.Ytokbdgikdlfneaa.Num16 Go.Proofs.Ytokbdgikdlfneaa.Num17 Go.Proofs.Ytokbdgikdlfneaa.Num34 Go.Proofs.Ytokbdgikdlfneaa.Num35 Go.Proofs.Ytokbdgikdlfneaa.Num39 Go.Proofs.Ytokbdgikdlfneaa.Base4 Go.Proofs.Ytokbdgikdlfneaa.Calls56 Go.Proofs.Ytokbdgikdlfneaa.Calls57 Go.Proofs.Ytokbdgikdlfneaa.Calls69 Go.Proofs.Ytokbdgikdlfneaa.Calls87 Go.Proofs.Ytokbdgikdlfneaa.Calls88 Go.Proofs.Ytokbdgikdlfneaa.Calls91
open Go.Proofs.Ytokbdgikdlfneaa.Calls59 (own1_made)
open Go.Proofs.Ytokbdgikdlfneaa.Calls58 (below_set)
open Go.Proofs.Ytokbdgikdlfneaa.Calls71 (al)
open Go.Proofs.Ytokbdgikdlfneaa.Calls73 (Through_yes ThrE)

/-- The code of points that are to be explained. -/
def ExC (p : Int) (l : List (Int × Int)) (s c : Int) : Prop :=
  (JnC p l c ∧ c ≠ 0) ∨ (JnC p l 0 ∧ ((¬ (0 ≤ s ∧ s < p) ∧ c = 2) ∨ ((0 ≤ s ∧ s < p) ∧ ((12 < l.length ∧ c = 1) ∨ (l.length ≤ 12 ∧ c = 0)))))

theorem exc_ex (p : Int) (l : List (Int × Int)) (s : Int) : ∃ c, ExC p l s c := by
  obtain ⟨c, hc⟩ := jnc_ex p l
  by_cases h0 : c = 0
  · subst h0
    by_cases h1 : 0 ≤ s ∧ s < p
    · by_cases h2 : 12 < l.length
      · exact ⟨1, .inr ⟨hc, .inr ⟨h1, .inl ⟨h2, rfl⟩⟩⟩⟩
      · exact ⟨0, .inr ⟨hc, .inr ⟨h1, .inr ⟨by omega, rfl⟩⟩⟩⟩
    · exact ⟨2, .inr ⟨hc, .inl ⟨h1, rfl⟩⟩⟩
  · exact ⟨c, .inl ⟨hc, h0⟩⟩

theorem ExC.ok {p : Int} {l : List (Int × Int)} {s : Int} (h : ExC p l s 0) : JnC p l 0 ∧ (0 ≤ s ∧ s < p) ∧ l.length ≤ 12 := by
  rcases h with ⟨_, h⟩ | ⟨h, ⟨_, h2⟩ | ⟨h1, ⟨_, h3⟩ | ⟨h2, _⟩⟩⟩
  · exact absurd rfl h
  · cases h2
  · cases h3
  · exact ⟨h, h1, h2⟩

theorem Join_code (p : Int) (ao : Option Addr) (cap : Nat) (l : List (Int × Int)) (hm : l.length ≤ 9223372036854775807) (c : Int) (hc : JnC p l c) (w : World) (hrow : PRow w ao l) :
    Calls Try.prog 13 #[.int .i64 p, .slice ao l.length cap] w fun e w' => (∃ v : Int, e = .returned (.tuple #[.int .i64 v, .int .i64 c])) ∧ Below w.heap.size w w' :=
  (Join_any p ao cap l hm c hc w hrow).mono fun e w' h => ⟨⟨h.1.choose, h.1.choose_spec.1⟩, h.2⟩

set_option maxRecDepth 100000 in
theorem checkExplain_any (p : Int) (ao : Option Addr) (cap : Nat) (l : List (Int × Int)) (hm : l.length ≤ 9223372036854775807) (s c : Int) (hc : ExC p l s c) (w : World) (hrow : PRow w ao l) :
    Calls Try.prog 30 #[.int .i64 p, .slice ao l.length cap, .int .i64 s] w fun e w' => e = .returned (.int .i64 c) ∧ Below w.heap.size w w' := by
  rcases hc with ⟨hc, h0⟩ | ⟨hc, h2⟩
  · have cJ := Join_code p ao cap l hm c hc w hrow
    have h1 : (c != 0) = true := by simpa using h0
    have h2 : (c == 0) = false := by simpa using h0
    generalize l.length = n at *
    clear hc hrow
    go_enter Try.func30, Try.ntmps30
    go_wp2_with (go_at_call 13; refine cJ.mono ?_; rintro e w1 ⟨⟨v, rfl⟩, hB⟩)
    go_ret
    exact ⟨rfl, hB⟩
  · have cJ := Join_code p ao cap l hm 0 hc w hrow
    have cO := fun w => shOutside_any p w
    have cS := fun w1 : World => shOut1_any w1.heap.size p s (w1.alloc (.cells #[.int .i64 p] 2)) (boxP w1 p)
    have hBa := hid (fun w1 (hB : Below w.heap.size w w1) => hB.alloc hB.size (.cells #[.int .i64 p] 2))
    generalize l.length = n at *
    clear hc hrow
    rcases h2 with ⟨h1, rfl⟩ | ⟨h1, ⟨h2, rfl⟩ | ⟨h2, rfl⟩⟩
    · have e : outB p s = true := by
        cases hb : outB p s
        · exact absurd (outB_no.1 hb) h1
        · rfl
      rw [e] at cS
      clear e h1
      go_enter Try.func30, Try.ntmps30
      go_wp2_with (first
        | (go_at_call 13; refine cJ.mono ?_; rintro e w1 ⟨⟨v, rfl⟩, hB⟩)
        | (go_at_call 34; refine (cO _).mono ?_; rintro e w' ⟨rfl, hw⟩; subst w')
        | (go_at_call 49; refine (cS _).mono ?_; rintro e w' ⟨rfl, hw⟩; subst w'))
      go_ret
      exact ⟨rfl, hBa.out _ hB⟩
    · rw [outB_no.2 h1] at cS
      have h2' : (12 : Int) < (n : Int) := by omega
      clear h1
      go_enter Try.func30, Try.ntmps30
      go_wp2_with (first
        | (go_at_call 13; refine cJ.mono ?_; rintro e w1 ⟨⟨v, rfl⟩, hB⟩)
        | (go_at_call 34; refine (cO _).mono ?_; rintro e w' ⟨rfl, hw⟩; subst w')
        | (go_at_call 49; refine (cS _).mono ?_; rintro e w' ⟨rfl, hw⟩; subst w'))
      go_ret
      exact ⟨rfl, hBa.out _ hB⟩
    · rw [outB_no.2 h1] at cS
      have h2' : decide ((12 : Int) < (n : Int)) = false := by simp; omega
      clear h1
      go_enter Try.func30, Try.ntmps30
      go_wp2_with (first
        | (go_at_call 13; refine cJ.mono ?_; rintro e w1 ⟨⟨v, rfl⟩, hB⟩)
        | (go_at_call 34; refine (cO _).mono ?_; rintro e w' ⟨rfl, hw⟩; subst w')
        | (go_at_call 49; refine (cS _).mono ?_; rintro e w' ⟨rfl, hw⟩; subst w'))
      go_ret
      exact ⟨rfl, hBa.out _ hB⟩

/-! ### the secret ahead of the points -/

theorem px_ahead (s : Int) (l : List (Int × Int)) : px ((0, s) :: l) = Go.Proofs.Ytokbdgikdlfneaa.Num39.ahead 0 (px l) := by
  funext j
  cases j with
  | zero => rfl
  | succ j => rfl

theorem py_ahead (s : Int) (l : List (Int × Int)) : py ((0, s) :: l) = Go.Proofs.Ytokbdgikdlfneaa.Num39.ahead s (py l) := by
  funext j
  cases j with
  | zero => rfl
  | succ j => rfl

theorem inp_ahead {P : Nat} {l : List (Int × Int)} {s : Int} {n : Nat} (hI : InP (P : Int) l n) (hs : 0 ≤ s ∧ s < (P : Int)) : InP (P : Int) ((0, s) :: l) (n + 1) := fun j hj => by
  cases j with
  | zero => exact ⟨⟨Int.le_refl _, (by show (0 : Int) < _; omega)⟩, hs⟩
  | succ j => exact hI j (by omega)

theorem dis_ahead {l : List (Int × Int)} {s : Int} {n : Nat} (hD : Dis l n) (hZ : NoZ l n) : Dis ((0, s) :: l) (n + 1) := fun i j hi hj => by
  cases i with
  | zero => omega
  | succ i =>
    cases j with
    | zero => exact hZ i (by omega)
    | succ j => exact hD i j (by omega) (by omega)

theorem two_prows (w : World) (s : Int) (lo : Option Addr) (n cl : Nat) : ((w.alloc (.cells #[.int .i64 0, .int .i64 s] 39)).alloc (.cells #[.slice (some ⟨w.heap.size, 0, none⟩) 1 1, .slice lo n cl] 23)).cell? ⟨w.heap.size + 1, 0, none⟩ = some (.slice (some ⟨w.heap.size, 0, none⟩) 1 1) ∧
    ((w.alloc (.cells #[.int .i64 0, .int .i64 s] 39)).alloc (.cells #[.slice (some ⟨w.heap.size, 0, none⟩) 1 1, .slice lo n cl] 23)).cell? ⟨w.heap.size + 1, 1, none⟩ = some (.slice lo n cl) := by
  have h := BoxC.new (w.alloc (.cells #[.int .i64 0, .int .i64 s] 39)) 23 #[.slice (some ⟨w.heap.size, 0, none⟩) 1 1, .slice lo n cl]
  rw [World.size_alloc] at h
  exact ⟨h.cell 0, h.cell 1⟩

theorem prow_first (W : World) (x y : Int) : PRow (W.alloc (.cells #[.int .i64 x, .int .i64 y] 39)) (some ⟨W.heap.size, 0, none⟩) [(x, y)] := by
  refine ⟨fun e => (by cases e), fun ad e j hj => ?_⟩
  obtain rfl : (⟨W.heap.size, 0, none⟩ : Addr) = ad := by simpa using e
  obtain rfl : j = 0 := by simpa using hj
  constructor <;> simp [zero_add_addr]

/-! ### the numbers behind the first -/

def fk (a : List Int) (k : Nat) : Nat → Int := fun j => if j < k then co a (j + 1) else 0

theorem fk_zero (a : List Int) : fk a 0 = fun _ => 0 := by funext j; simp [fk]

theorem fk_step (a : List Int) (k : Nat) : up1 (fk a k) k (co a (k + 1)) = fk a (k + 1) := by
  funext j
  unfold up1 fk
  by_cases h : j = k
  · subst h; simp
  · rw [if_neg h]
    by_cases h2 : j < k
    · rw [if_pos h2, if_pos (by omega)]
    · rw [if_neg h2, if_neg (by omega)]

theorem fk_done {a : List Int} {k : Nat} (h : a.length ≤ k + 1) : fk a k = fun j => co a (j + 1) := by
  funext j
  unfold fk
  by_cases h2 : j < k
  · rw [if_pos h2]
  · rw [if_neg h2, co_over (by omega)]

/-- Explain has returned. -/
def ExpR (p s : Int) (l : List (Int × Int)) (c : Int) (e : Ending) (w' : World) : Prop := ∃ bo k cb, e = .returned (.tuple #[.slice bo k cb, .int .i64 c]) ∧ (c ≠ 0 → k = 0 ∧ bo = none) ∧ (c = 0 → ∃ m, ExpIs p.toNat (px l) (py l) l.length s m ∧ k = m.length ∧ IRow w' bo m) ∧ k ≤ cb

theorem Explain_bad (p : Int) (ao : Option Addr) (cap : Nat) (l : List (Int × Int)) (hm : l.length ≤ 9223372036854775807) (s c : Int) (hc : ExC p l s c) (h0 : c ≠ 0) (w : World) (hrow : PRow w ao l) :
    Calls Try.prog 16 #[.int .i64 p, .slice ao l.length cap, .int .i64 s] w fun e w' => e = .returned (.tuple #[.slice none 0 0, .int .i64 c]) ∧ Below w.heap.size w w' := by
  have cC := checkExplain_any p ao cap l hm s c hc w hrow
  generalize l.length = nm at *
  have h1 : (c != 0) = true := by simpa using h0
  have h2 : (c == 0) = false := by simpa using h0
  clear hc hrow
  go_enter Try.func16, Try.ntmps16
  go_wp2_with (go_at_call 30; refine cC.mono ?_; rintro e w1 ⟨rfl, hB⟩)
  go_ret2
  exact ⟨rfl, hB⟩

theorem measY {k n : Nat} (h : k + 1 < n) : ((n : Int) - ((k : Int) + 1 + 1)).toNat < ((n : Int) - ((k : Int) + 1)).toNat := by omega

set_option maxRecDepth 100000 in
set_option maxHeartbeats 1000000 in
theorem Explain_yes (P : Nat) (hP : Pr P) (hP2 : P ≤ 251) (ao : Option Addr) (cap : Nat) (l : List (Int × Int)) (hl : l.length ≤ 12) (s : Int) (hs : 0 ≤ s ∧ s < (P : Int)) (hI : InP (P : Int) l l.length) (hD : Dis l l.length) (hZ : NoZ l l.length) (hc : ExC (P : Int) l s 0) (w : World) (hrow : PRow w ao l) :
    Calls Try.prog 16 #[.int .i64 (P : Int), .slice ao l.length cap, .int .i64 s] w fun e w' => ExpR (P : Int) s l 0 e w' ∧ Below w.heap.size w w' := by
  obtain ⟨i0, hi, hz0, hz1, hz2⟩ := info_ex
  have cC := checkExplain_any (P : Int) ao cap l (by omega) s 0 hc w hrow
  obtain ⟨LL, hLL⟩ : ∃ LL, LL = (0, s) :: l := ⟨_, rfl⟩
  have hlen : LL.length = l.length + 1 := by rw [hLL]; rfl
  have hI2 : InP (P : Int) LL LL.length := by rw [hlen, hLL]; exact inp_ahead hI hs
  have hD2 : Dis LL LL.length := by rw [hlen, hLL]; exact dis_ahead hD hZ
  have hPt : PtC (P : Int) LL 0 := .inr ⟨PrC.of hP hP2, .inr ⟨by omega, .inr ⟨hI2, .inr ⟨hD2, rfl⟩⟩⟩⟩
  have cT := fun o c w' (r : PRow w' o LL) => Through_yes P hP hP2 o c LL (by omega) hI2 hD2 hPt w' r (lies_of r)
  have hB1 := fun w1 (hB : Below w.heap.size w w1) => al hB (.cells #[.int .i64 0, .int .i64 s] 39)
  have hB2 := hid (fun w1 (hB : Below w.heap.size w w1) => al (hB1 w1 hB) (.cells #[.slice (some ⟨w1.heap.size, 0, none⟩) 1 1, .slice ao l.length cap] 23))
  have cK := fun w1 (hB : Below w.heap.size w w1) => ptsConcat2 (w1.heap.size + 1) (some ⟨w1.heap.size, 0, none⟩) ao 1 cap [(0, s)] l (by simp) (by simp; omega) _ (two_prows w1 s ao l.length cap).1 (two_prows w1 s ao l.length cap).2 (pb (prow_first w1 0 s) ((Below.refl _ _).alloc (Nat.le_refl _) _)) (pb hrow (hB2.out w1 hB))
  rw [show [((0 : Int), s)] ++ l = LL from by rw [hLL]; rfl] at cK
  have hE : Hid (∀ a, ThrIs P (px LL) (py LL) LL.length a → ∀ k, a.length ≤ k + 1 → ∀ bo w', IRow w' bo (mk l.length (fk a k)) → ∃ m, ExpIs ((P : Int).toNat) (px l) (py l) l.length s m ∧ l.length = m.length ∧ IRow w' bo m) := fun a ha k hk bo w' r => by
    rw [hlen, hLL, px_ahead, py_ahead] at ha
    have h1 := (exp_of hP hs (fun j hj => (hI j hj).2) ha).1
    rw [fk_done hk] at r
    exact ⟨_, by rw [Int.toNat_natCast]; exact h1, h1.1.symm, r⟩
  have hLn : Hid (∀ a, ThrIs P (px LL) (py LL) LL.length a → a.length ≤ l.length + 1) := fun a ha => by rw [← hlen]; exact ha.2.1
  obtain ⟨n, hn⟩ : ∃ n, n = l.length := ⟨_, rfl⟩
  have HFin : Hid (∀ bo w' m, ExpIs ((P : Int).toNat) (px l) (py l) n s m → n = m.length → IRow w' bo m → ExpR (P : Int) s l 0 (.returned (.tuple #[.slice bo n n, .int .i64 0])) w') := fun bo w' m h1 h2 h3 => ⟨bo, n, n, rfl, fun h => absurd rfl h, fun _ => ⟨m, by rw [← hn]; exact h1, h2, h3⟩, Nat.le_refl _⟩
  simp only [← hn] at cC cK hE hLn hl hB2 ⊢
  clear hc hrow hI hD hZ hI2 hD2 hPt hLL hlen hn hB1
  go_enter Try.func16, Try.ntmps16
  go_wp2_with (first
    | (go_at_call 30; refine cC.mono ?_; rintro e w1 ⟨rfl, hB⟩; have cK1 := cK w1 hB; have HB2 := hid (hB2.out w1 hB); clear cC)
    | (go_at_call 31; refine cK1.mono ?_; rintro e w2 ⟨⟨bo, cb, rfl, hcb, hr⟩, hBk⟩; have HB3 := hid (below_trans HB2.out hBk); have cT1 := cT bo cb w2 hr; clear hr hBk)
    | (go_at_call 24; refine cT1.mono ?_; rintro e w3 ⟨⟨a, ha, oa, ca, rfl, hca, hra⟩, hB4⟩; have HA := hid ha; have RA := hid hra; have HB4 := hid (below_trans HB3.out hB4); have hsz := HB4.out.size; clear ha hra hB4)
    | (at_make; refine wpList_make_full _ rfl _ _ 22 rfl w3.heap.size 2 i0 (.int .i64 0) 1 Try.underlying22 hi hz0 hz1 .i64 .i64 (n : Int) (n : Int) n rfl rfl rfl rfl (by rw [hz2]; omega) (by unfold maxLen; omega) (Nat.le_refl _) ?_; intro w4 hown hgrow; have O4 := hid (own1_made hown); have HB5 : Hid (Below w3.heap.size w3 w4) := (Below.refl _ w3).grown hgrow (Nat.le_refl _) (fun j e => by cases e); clear hown hgrow))
  have hE2 := hid (hE.out a HA.out)
  have hal := hLn.out a HA.out
  obtain ⟨na, hna⟩ : ∃ na, na = a.length := ⟨_, rfl⟩
  have HNA := hid hna
  obtain ⟨g, hg⟩ : ∃ g, g = w3.heap.size := ⟨_, rfl⟩
  have O5 : Hid (Own1 w4 w3.heap.size g n n (fk a 0)) := by rw [fk_zero, hg]; exact O4.out
  rw [← hna] at hal ⊢
  rw [← hg]
  clear hna hg O4 cK cK1 cT cT1 hi hz0 hz1 hz2 hE HA HB2 HB3 hLn
  go_loopw [12] (fun i wr => ∃ k : Nat, i = .int .i64 ((k : Int) + 1) ∧ k ≤ n ∧ Hid (Own1 wr w3.heap.size g n n (fk a k)) ∧ Hid (Below w3.heap.size w3 wr)) (fun i wr => ((na : Int) - intOf i).toNat)
  case atStart => exact ⟨0, rfl, by omega, O5, HB5⟩
  case round =>
    obtain ⟨k, rfl, hk, HO, HB⟩ := hrel
    by_cases hgo : k + 1 < na
    · have hgo' : (k : Int) + 1 < (na : Int) := by omega
      have hkn : k < n := by omega
      have hkn' : (k : Int) < (n : Int) := by omega
      have hkl : Hid (k + 1 < a.length) := by have := HNA.out; show k + 1 < a.length; omega
      rcases oa with _ | ad
      · exact (irow_none RA.out hkl.out).elim
      · have d1 := (ib RA.out HB.out).2 ad rfl (k + 1) hkl.out
        rw [show ad.add (k + 1) = ⟨ad.block, ad.off + (k + 1), none⟩ by simp [Addr.add]] at d1
        have d2 := HO.out.cell hkn
        have d3 := HO.out.frozen k
        have hO2 : Hid (Own1 (wr.setCell ⟨g, k, none⟩ (.int .i64 (co a (k + 1)))) w3.heap.size g n n (fk a (k + 1))) := (HO.out.set k _).congr (fk_step a k)
        have hB2' : Hid (Below w3.heap.size w3 (wr.setCell ⟨g, k, none⟩ (.int .i64 (co a (k + 1))))) := below_set HB.out HO.out.lt.1 _ _
        generalize co a (k + 1) = x at *
        go_wp2
        go_roundw
        case rel => exact ⟨k + 1, by simp, by omega, hO2, hB2'⟩
        case measure => exact measY hgo
    · have hgo' : ¬ (k : Int) + 1 < (na : Int) := by omega
      have hfin := hid (hE2.out k (by have := HNA.out; omega) _ wr HO.out.row)
      go_wp2
      go_ret2
      obtain ⟨m, f1, f2, f3⟩ := hfin.out
      exact ⟨HFin.out _ _ m f1 f2 f3, below_trans HB4.out HB.out⟩

theorem Explain_any (p : Int) (ao : Option Addr) (cap : Nat) (l : List (Int × Int)) (hm : l.length ≤ 9223372036854775807) (s c : Int) (hc : ExC p l s c) (w : World) (hrow : PRow w ao l) :
    Calls Try.prog 16 #[.int .i64 p, .slice ao l.length cap, .int .i64 s] w fun e w' => ExpR p s l c e w' ∧ Below w.heap.size w w' := by
  by_cases h0 : c = 0
  · subst h0
    obtain ⟨hj, hs, hl⟩ := hc.ok
    obtain ⟨hpt, hz⟩ := hj.ok
    obtain ⟨P, rfl, hP, hP2, _, hI, hD⟩ := hpt.ok
    exact Explain_yes P hP hP2 ao cap l hl s hs hI hD hz hc w hrow
  · refine (Explain_bad p ao cap l hm s c hc h0 w hrow).mono ?_
    rintro e w' ⟨he, hB⟩
    exact ⟨⟨none, 0, 0, he, fun _ => ⟨rfl, rfl⟩, fun h => absurd h h0, Nat.le_refl _⟩, hB⟩

end Go.Proofs.Ytokbdgikdlfneaa.Calls92
