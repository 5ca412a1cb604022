/-
  Package field: its faces but Base.
-/
import Derived.Test.YtjpmkcijkcnfiaaCalls82
import Derived.Test.YtjpmkcijkcnfiaaCalls60
import Derived.Deep.RegionHeld3
import Derived.Deep.RegionWith
namespace Go.Proofs.Ytjpmkcijkcnfiaa.Calls83
set_option linter.unusedVariables false
open Go.ChangeShapes Go.WideShapes Go.ChangeAt Go.RowKit Go.Deep Go.Proofs.Ytjpmkcijkcnfiaa.Base Go.Proofs.Ytjpmkcijkcnfiaa.Base2 Go.Proofs.Ytjpmkcijkcnfiaa.Num Go.Proofs.Ytjpmkcijkcnfiaa.Num16 Go.Proofs.Ytjpmkcijkcnfiaa.Num17 Go.Proofs.Ytjpmkcijkcnfiaa.Num21 Go.Proofs.Ytjpmkcijkcnfiaa.Num23 Go.Proofs.Ytjpmkcijkcnfiaa.Num34 Go.Proofs.Ytjpmkcijkcnfiaa.Num35 Go.Proofs.Ytjpmkcijkcnfiaa.Num36 Go.Proofs.Ytjpmkcijkcnfiaa.Num37 Go.Proofs.Ytjpmkcijkcnfiaa.Num38 Go.Proofs.Ytjpmkcijkcnfiaa.Base4 Go.Proofs.Ytjpmkcijkcnfiaa.Calls56 Go.Proofs.Ytjpmkcijkcnfiaa.Calls57 Go.Proofs.Ytjpmkcijkcnfiaa.Calls58 Go.Proofs.Ytjpmkcijkcnfiaa.Calls61 Go.Proofs.Ytjpmkcijkcnfiaa.Calls75 Go.Proofs.Ytjpmkcijkcnfiaa.Calls77 Go.Proofs.Ytjpmkcijkcnfiaa.Calls78 Go.Proofs.Ytjpmkcijkcnfiaa.Calls76 Go.Proofs.Ytjpmkcijkcnfiaa.Calls79 Go.Proofs.Ytjpmkcijkcnfiaa.Calls62 Go.Proofs.Ytjpmkcijkcnfiaa.Calls80 Go.Proofs.Ytjpmkcijkcnfiaa.Calls81 Go.Proofs.Ytjpmkcijkcnfiaa.Calls82
open Go.Proofs.Ytjpmkcijkcnfiaa.Num13 (rs rs_cast)
open Go.Proofs.Ytjpmkcijkcnfiaa.Calls60 (wrap_in)
open Go.Proofs.Ytjpmkcijkcnfiaa.Num20 (pw)
open Go.Proofs.Ytjpmkcijkcnfiaa.Num22 (El MulR)

theorem irow_two (W : World) (x y : Int) : IRow (W.alloc (.cells #[.int .i64 x, .int .i64 y] 2)) (some ⟨W.heap.size, 0, none⟩) [x, y] := by
  refine ⟨fun e => (by cases e), fun ad e j hj => ?_⟩
  obtain rfl : (⟨W.heap.size, 0, none⟩ : Addr) = ad := by simpa using e
  have hb := BoxC.new W 2 #[.int .i64 x, .int .i64 y]
  rw [zero_add_addr, hb.cell j]
  match j, hj with
  | 0, _ => rfl
  | 1, _ => rfl

theorem irow_one1 (W : World) (x : Int) : IRow (W.alloc (.cells #[.int .i64 x] 2)) (some ⟨W.heap.size, 0, none⟩) [x] := by
  refine ⟨fun e => (by cases e), fun ad e j hj => ?_⟩
  obtain rfl : (⟨W.heap.size, 0, none⟩ : Addr) = ad := by simpa using e
  have hb := BoxC.new W 2 #[.int .i64 x]
  rw [zero_add_addr, hb.cell j]
  match j, hj with
  | 0, _ => rfl

theorem EC.nil {p : Int} {f : List Int} {c : Int} (h : FC p f c) : EC p f [] c := by
  by_cases h0 : c = 0
  · subst h0
    exact .inr ⟨h, .inr ⟨fun a ha => by simp at ha, rfl⟩⟩
  · exact .inl ⟨h, h0⟩

theorem fieldCheck_any (p : Int) (fo : Option Addr) (cf : Nat) (f : List Int) (hm : f.length ≤ 9223372036854775807) (c : Int) (hc : FC p f c) (w : World) (rf : IRow w fo f) :
    Calls Try.prog 9 #[.int .i64 p, .slice fo f.length cf] w fun e w' => e = .returned (.int .i64 c) ∧ Below w.heap.size w w' := by
  by_cases h0 : c = 0
  · subst h0
    obtain ⟨P, rfl, hF⟩ := hc.ok
    have cO := open_ok P f [] hF (by simp) (fun a ha => by simp at ha) fo none cf 0 w rf (irow_nil _ _)
    simp only [List.length_nil] at cO
    generalize P ^ (f.length - 1) = S at *
    generalize f.length = n at *
    clear rf hc hF
    go_enter Try.func9, Try.ntmps9
    go_wp2_with (go_at_call 21; refine cO.mono ?_; rintro e w1 ⟨rfl, hB1⟩)
    go_ret
    exact ⟨rfl, hB1.alloc hB1.size _⟩
  · have cO := open_bad p fo none cf 0 f [] hm (by simp) c (EC.nil hc) h0 w rf (irow_nil _ _)
    simp only [List.length_nil] at cO
    generalize f.length = n at *
    clear rf hc
    go_enter Try.func9, Try.ntmps9
    go_wp2_with (go_at_call 21; refine cO.mono ?_; rintro e w1 ⟨rfl, hB1⟩)
    go_ret
    exact ⟨rfl, hB1.alloc hB1.size _⟩

theorem fAdd_bad (p : Int) (fo : Option Addr) (cf : Nat) (f : List Int) (a b : Int) (hm : f.length ≤ 9223372036854775807) (c : Int) (hc : EC p f [a, b] c) (h0 : c ≠ 0) (w : World) (rf : IRow w fo f) :
    Calls Try.prog 11 #[.int .i64 p, .slice fo f.length cf, .int .i64 a, .int .i64 b] w fun e w' => e = .returned (.tuple #[.int .i64 0, .int .i64 c]) ∧ Below w.heap.size w w' := by
  have hBw : Hid (Below w.heap.size w (w.alloc (.cells #[.int .i64 a, .int .i64 b] 2))) := (Below.refl _ w).alloc (Nat.le_refl _) _
  have cO := fun (ce : Nat) => open_bad p fo (some ⟨w.heap.size, 0, none⟩) cf ce f [a, b] hm (by simp) c hc h0 _ (irow_below rf hBw.out (Nat.le_refl _)) (irow_two w a b)
  simp only [List.length_cons, List.length_nil, Nat.zero_add] at cO
  have h1 : (c != 0) = true := by simpa using h0
  have h2 : (c == 0) = false := by simpa using h0
  generalize f.length = n at *
  clear rf hc
  go_enter Try.func11, Try.ntmps11
  go_wp2_with (go_at_call 21; refine (cO _).mono ?_; rintro e w1 ⟨rfl, hB1⟩; have HB1 := hid (below_trans hBw.out hB1); clear hB1)
  go_ret2
  exact ⟨rfl, HB1.out.alloc HB1.out.size _⟩

theorem fMul_bad (p : Int) (fo : Option Addr) (cf : Nat) (f : List Int) (a b : Int) (hm : f.length ≤ 9223372036854775807) (c : Int) (hc : EC p f [a, b] c) (h0 : c ≠ 0) (w : World) (rf : IRow w fo f) :
    Calls Try.prog 15 #[.int .i64 p, .slice fo f.length cf, .int .i64 a, .int .i64 b] w fun e w' => e = .returned (.tuple #[.int .i64 0, .int .i64 c]) ∧ Below w.heap.size w w' := by
  have hBw : Hid (Below w.heap.size w (w.alloc (.cells #[.int .i64 a, .int .i64 b] 2))) := (Below.refl _ w).alloc (Nat.le_refl _) _
  have cO := fun (ce : Nat) => open_bad p fo (some ⟨w.heap.size, 0, none⟩) cf ce f [a, b] hm (by simp) c hc h0 _ (irow_below rf hBw.out (Nat.le_refl _)) (irow_two w a b)
  simp only [List.length_cons, List.length_nil, Nat.zero_add] at cO
  have h1 : (c != 0) = true := by simpa using h0
  have h2 : (c == 0) = false := by simpa using h0
  generalize f.length = n at *
  clear rf hc
  go_enter Try.func15, Try.ntmps15
  go_wp2_with (go_at_call 21; refine (cO _).mono ?_; rintro e w1 ⟨rfl, hB1⟩; have HB1 := hid (below_trans hBw.out hB1); clear hB1)
  go_ret2
  exact ⟨rfl, HB1.out.alloc HB1.out.size _⟩

theorem fInv_bad (p : Int) (fo : Option Addr) (cf : Nat) (f : List Int) (a : Int) (hm : f.length ≤ 9223372036854775807) (c : Int) (hc : EC p f [a] c) (h0 : c ≠ 0) (w : World) (rf : IRow w fo f) :
    Calls Try.prog 17 #[.int .i64 p, .slice fo f.length cf, .int .i64 a] w fun e w' => e = .returned (.tuple #[.int .i64 0, .int .i64 c]) ∧ Below w.heap.size w w' := by
  have hBw : Hid (Below w.heap.size w (w.alloc (.cells #[.int .i64 a] 2))) := (Below.refl _ w).alloc (Nat.le_refl _) _
  have cO := fun (ce : Nat) => open_bad p fo (some ⟨w.heap.size, 0, none⟩) cf ce f [a] hm (by simp) c hc h0 _ (irow_below rf hBw.out (Nat.le_refl _)) (irow_one1 w a)
  simp only [List.length_cons, List.length_nil, Nat.zero_add] at cO
  have h1 : (c != 0) = true := by simpa using h0
  have h2 : (c == 0) = false := by simpa using h0
  generalize f.length = n at *
  clear rf hc
  go_enter Try.func17, Try.ntmps17
  go_wp2_with (go_at_call 21; refine (cO _).mono ?_; rintro e w1 ⟨rfl, hB1⟩; have HB1 := hid (below_trans hBw.out hB1); clear hB1)
  go_ret2
  exact ⟨rfl, HB1.out.alloc HB1.out.size _⟩

set_option maxRecDepth 100000 in
theorem fAdd_yes (P : Nat) (f : List Int) (hF : Fld P f) (a b : Nat) (ha : a < P ^ (f.length - 1)) (hb : b < P ^ (f.length - 1)) (fo : Option Addr) (cf : Nat) (w : World) (rf : IRow w fo f) :
    Calls Try.prog 11 #[.int .i64 (P : Int), .slice fo f.length cf, .int .i64 (a : Int), .int .i64 (b : Int)] w fun e w' => e = .returned (.tuple #[.int .i64 (fad P a b : Int), .int .i64 0]) ∧ Below w.heap.size w w' := by
  have hBw : Hid (Below w.heap.size w (w.alloc (.cells #[.int .i64 (a : Int), .int .i64 (b : Int)] 2))) := (Below.refl _ w).alloc (Nat.le_refl _) _
  have hs := hF.size
  have hfl := hF.fl
  have cO := fun (ce : Nat) => open_ok P f [(a : Int), (b : Int)] hF (by simp) (fun z hz => by simp at hz; rcases hz with rfl | rfl <;> omega) fo (some ⟨w.heap.size, 0, none⟩) cf ce _ (irow_below rf hBw.out (Nat.le_refl _)) (irow_two w (a : Int) (b : Int))
  simp only [List.length_cons, List.length_nil, Nat.zero_add] at cO
  have cP := fun w => plus_any P hF.1 hF.2.1 fo f.length cf (P ^ (f.length - 1)) (f.length - 1) (by omega) hs.2 a b ha hb w
  generalize P ^ (f.length - 1) = S at *
  generalize fad P a b = z at *
  obtain ⟨n, hn⟩ : ∃ n, n = f.length := ⟨_, rfl⟩
  simp only [← hn] at cO cP ⊢
  clear hn hF
  clear rf
  go_enter Try.func11, Try.ntmps11
  go_wp2_with (first
    | (go_at_call 21; refine (cO _).mono ?_; rintro e w1 ⟨rfl, hB1⟩; have HB1 := hid (below_trans hBw.out hB1); have HB2 := hid (HB1.out.alloc HB1.out.size (fx P fo n cf S)); have hK := hid (Bf.new w1 P fo n cf S); have k0 := hK.out.c0; have k1 := hK.out.c1; have k2 := hK.out.c2; clear hB1)
    | (go_at_call 25; refine (cP _).mono ?_; rintro e w2 ⟨rfl, hB2⟩; have HB3 := hid (below_trans HB2.out hB2); clear hB2))
  go_ret2
  exact ⟨rfl, HB3.out⟩

/-- The call has returned the product, and no error. -/
def MulT (p : Nat) (f : List Int) (a b : Nat) (e : Ending) : Prop := ∃ c : Nat, FMul p f a b c ∧ e = .returned (.tuple #[.int .i64 (c : Int), .int .i64 0])

set_option maxRecDepth 100000 in
theorem fMul_yes (P : Nat) (f : List Int) (hF : Fld P f) (a b : Nat) (ha : a < P ^ (f.length - 1)) (hb : b < P ^ (f.length - 1)) (fo : Option Addr) (cf : Nat) (w : World) (rf : IRow w fo f) :
    Calls Try.prog 15 #[.int .i64 (P : Int), .slice fo f.length cf, .int .i64 (a : Int), .int .i64 (b : Int)] w fun e w' => MulT P f a b e ∧ Below w.heap.size w w' := by
  have hBw : Hid (Below w.heap.size w (w.alloc (.cells #[.int .i64 (a : Int), .int .i64 (b : Int)] 2))) := (Below.refl _ w).alloc (Nat.le_refl _) _
  have hs := hF.size
  have hfl := hF.fl
  have cO := fun (ce : Nat) => open_ok P f [(a : Int), (b : Int)] hF (by simp) (fun z hz => by simp at hz; rcases hz with rfl | rfl <;> omega) fo (some ⟨w.heap.size, 0, none⟩) cf ce _ (irow_below rf hBw.out (Nat.le_refl _)) (irow_two w (a : Int) (b : Int))
  simp only [List.length_cons, List.length_nil, Nat.zero_add] at cO
  have cP := fun w' (hB : Below w.heap.size w w') => times_any P f hF fo cf (P ^ (f.length - 1)) a b ha hb w' (irow_below rf hB (Nat.le_refl _))
  generalize P ^ (f.length - 1) = S at *
  obtain ⟨n, hn⟩ : ∃ n, n = f.length := ⟨_, rfl⟩
  simp only [← hn] at cO cP ⊢
  clear hn hF
  clear rf
  go_enter Try.func15, Try.ntmps15
  go_wp2_with (first
    | (go_at_call 21; refine (cO _).mono ?_; rintro e w1 ⟨rfl, hB1⟩; have HB1 := hid (below_trans hBw.out hB1); have HB2 := hid (HB1.out.alloc HB1.out.size (fx P fo n cf S)); have hK := hid (Bf.new w1 P fo n cf S); have k0 := hK.out.c0; have k1 := hK.out.c1; have k2 := hK.out.c2; clear hB1)
    | (go_at_call 29; refine (cP _ HB2.out).mono ?_; rintro e w2 ⟨⟨c, hc, rfl⟩, hB2⟩; have HC := hid hc; have HB3 := hid (below_trans HB2.out hB2); clear hB2 hc))
  go_ret2
  exact ⟨⟨c, HC.out, rfl⟩, HB3.out⟩

theorem fAdd_el (P : Nat) (f : List Int) (hF : Fld P f) (F : Fe P f) (hFi : Fits P f F) (x y : El P f) (fo : Option Addr) (cf : Nat) (w : World) (rf : IRow w fo f) :
    Calls Try.prog 11 #[.int .i64 (P : Int), .slice fo f.length cf, .int .i64 (num x : Int), .int .i64 (num y : Int)] w fun e w' => e = .returned (.tuple #[.int .i64 (num (F.add x y) : Int), .int .i64 0]) ∧ Below w.heap.size w w' := by
  have hp1 := hF.1.1
  have h := fAdd_yes P f hF (num x) (num y) (num_lt (by omega) x) (num_lt (by omega) y) fo cf w rf
  rw [hFi.add (by omega) hF.fl.2] at h
  exact h

theorem fMul_el (P : Nat) (f : List Int) (hF : Fld P f) (F : Fe P f) (hFi : Fits P f F) (x y : El P f) (fo : Option Addr) (cf : Nat) (w : World) (rf : IRow w fo f) :
    Calls Try.prog 15 #[.int .i64 (P : Int), .slice fo f.length cf, .int .i64 (num x : Int), .int .i64 (num y : Int)] w fun e w' => e = .returned (.tuple #[.int .i64 (num (F.mul x y) : Int), .int .i64 0]) ∧ Below w.heap.size w w' := by
  have hp1 := hF.1.1
  exact (fMul_yes P f hF (num x) (num y) (num_lt (by omega) x) (num_lt (by omega) y) fo cf w rf).mono (fun e w' ⟨⟨c, hc, he⟩, hB⟩ => ⟨by rw [he, hFi.mul hF.1 hF.2.2.1 hF.fl.2 x y hc], hB⟩)

set_option maxRecDepth 100000 in
theorem fInv_zero (P : Nat) (f : List Int) (hF : Fld P f)  (fo : Option Addr) (cf : Nat) (w : World) (rf : IRow w fo f) :
    Calls Try.prog 17 #[.int .i64 (P : Int), .slice fo f.length cf, .int .i64 0] w fun e w' => e = .returned (.tuple #[.int .i64 0, .int .i64 5]) ∧ Below w.heap.size w w' := by
  have hBw : Hid (Below w.heap.size w (w.alloc (.cells #[.int .i64 0] 2))) := (Below.refl _ w).alloc (Nat.le_refl _) _
  have hs := hF.size
  have hfl := hF.fl
  have cO := fun (ce : Nat) => open_ok P f [0] hF (by simp) (fun z hz => by simp at hz; subst hz; omega) fo (some ⟨w.heap.size, 0, none⟩) cf ce _ (irow_below rf hBw.out (Nat.le_refl _)) (irow_one1 w 0)
  simp only [List.length_cons, List.length_nil, Nat.zero_add] at cO
  generalize P ^ (f.length - 1) = S at *
  obtain ⟨n, hn⟩ : ∃ n, n = f.length := ⟨_, rfl⟩
  simp only [← hn] at cO ⊢
  clear hn hF
  clear rf
  go_enter Try.func17, Try.ntmps17
  go_wp2_with (first
    | (go_at_call 21; refine (cO _).mono ?_; rintro e w1 ⟨rfl, hB1⟩; have HB1 := hid (below_trans hBw.out hB1); have HB2 := hid (HB1.out.alloc HB1.out.size (fx P fo n cf S)); have hK := hid (Bf.new w1 P fo n cf S); have k0 := hK.out.c0; have k1 := hK.out.c1; have k2 := hK.out.c2; clear hB1))
  go_ret2
  exact ⟨rfl, HB2.out⟩

set_option maxRecDepth 100000 in
theorem fInv_el (P : Nat) (f : List Int) (hF : Fld P f) (F : Fe P f) (hFi : Fits P f F) (x : El P f) (a : Nat) (hxa : num x = a) (ha : a < P ^ (f.length - 1)) (hx0 : a ≠ 0) (fo : Option Addr) (cf : Nat) (w : World) (rf : IRow w fo f) :
    Calls Try.prog 17 #[.int .i64 (P : Int), .slice fo f.length cf, .int .i64 (a : Int)] w fun e w' => e = .returned (.tuple #[.int .i64 (num (pw F x (P ^ (f.length - 1) - 2)) : Int), .int .i64 0]) ∧ Below w.heap.size w w' := by
  have hBw : Hid (Below w.heap.size w (w.alloc (.cells #[.int .i64 (a : Int)] 2))) := (Below.refl _ w).alloc (Nat.le_refl _) _
  have hs := hF.size
  have hfl := hF.fl
  have cO := fun (ce : Nat) => open_ok P f [(a : Int)] hF (by simp) (fun z hz => by simp at hz; subst hz; omega) fo (some ⟨w.heap.size, 0, none⟩) cf ce _ (irow_below rf hBw.out (Nat.le_refl _)) (irow_one1 w (a : Int))
  simp only [List.length_cons, List.length_nil, Nat.zero_add] at cO
  obtain ⟨S, hS⟩ : ∃ S, S = P ^ (f.length - 1) := ⟨_, rfl⟩
  have cP := fun w' (hB : Below w.heap.size w w') => power_el P f hF F hFi fo cf (P ^ (f.length - 1)) x (P ^ (f.length - 1) - 2) (by omega) w' (irow_below rf hB (Nat.le_refl _))
  rw [hxa] at cP
  generalize num (pw F x (P ^ (f.length - 1) - 2)) = z at *
  rw [← hS] at hs
  simp only [← hS] at cO cP
  have e2 : ((S - 2 : Nat) : Int) = (S : Int) - 2 := by omega
  rw [e2] at cP
  have ha0 : ((a : Int) == 0) = false := by simp; omega
  have ha1 : ¬ (a : Int) = 0 := by omega
  obtain ⟨n, hn⟩ : ∃ n, n = f.length := ⟨_, rfl⟩
  simp only [← hn] at cO cP ⊢
  clear hn hF hS e2 hxa hFi
  clear rf
  go_enter Try.func17, Try.ntmps17
  go_wp2_with (first
    | (go_at_call 21; refine (cO _).mono ?_; rintro e w1 ⟨rfl, hB1⟩; have HB1 := hid (below_trans hBw.out hB1); have HB2 := hid (HB1.out.alloc HB1.out.size (fx P fo n cf S)); have hK := hid (Bf.new w1 P fo n cf S); have k0 := hK.out.c0; have k1 := hK.out.c1; have k2 := hK.out.c2; clear hB1)
    | (go_at_call 32; refine (cP _ HB2.out).mono ?_; rintro e w2 ⟨rfl, hB2⟩; have HB3 := hid (below_trans HB2.out hB2); clear hB2))
  go_ret2
  exact ⟨rfl, HB3.out⟩

end Go.Proofs.Ytjpmkcijkcnfiaa.Calls83
