/-
  For any group, any numbers and any text the program tells what signs the text.
-/
import Derived.Test.YtpflkihagebmlaaRows
import Derived.Test.YtpflkihagebmlaaCalls174
import Derived.Test.YtpflkihagebmlaaBase10
import Derived.WalkKit
import Derived.ProofKit
import Derived.OpenShut
import Derived.Carry
namespace Go.Proofs.Ytpflkihagebmlaa.talkWrites
open Go.ChangeShapes Go.WideShapes Go.ChangeAt Go.RowKit Go.Deep Go.Proofs.Ytpflkihagebmlaa.Base Go.Proofs.Ytpflkihagebmlaa.Base2 Go.Proofs.Ytpflkihagebmlaa.Base4 Go.Proofs.Ytpflkihagebmlaa.Base10 Go.Proofs.Ytpflkihagebmlaa.Num Go.Proofs.Ytpflkihagebmlaa.Num56 Go.Proofs.Ytpflkihagebmlaa.Calls157 Go.Proofs.Ytpflkihagebmlaa.Calls158 Go.Proofs.Ytpflkihagebmlaa.Calls160 Go.Proofs.Ytpflkihagebmlaa.Base8 Go.Proofs.Ytpflkihagebmlaa.Num55 Go.Proofs.Ytpflkihagebmlaa.Calls126 Go.Proofs.Ytpflkihagebmlaa.Calls159 Go.Proofs.Ytpflkihagebmlaa.Calls161 Go.Proofs.Ytpflkihagebmlaa.Calls167 Go.Proofs.Ytpflkihagebmlaa.Calls168 Go.Proofs.Ytpflkihagebmlaa.Calls169 Go.Proofs.Ytpflkihagebmlaa.Calls170 Go.Proofs.Ytpflkihagebmlaa.Calls171 Go.Proofs.Ytpflkihagebmlaa.Calls172 Go.Proofs.Ytpflkihagebmlaa.Calls173 Go.Proofs.Ytpflkihagebmlaa.Calls174
set_option linter.unusedVariables false

theorem own : ownKnob Try.prog.godebug = none := by kernel_rfl

theorem laidOut : laidOutB Try.prog = true := by kernel_rfl

theorem cells2 : Try.prog.cellsOf 2 = 1 := by kernel_rfl

theorem cells8 : Try.prog.cellsOf 5 = 1 := by kernel_rfl

theorem cells_G : Try.prog.cellsOf 23 = 4 := by kernel_rfl

set_option maxRecDepth 100000 in
set_option maxHeartbeats 1000000 in
theorem walkF (P Q G H s k : Int) (o : Option Addr) (n c : Nat) (h : aC P Q G H [s, k] [] ≠ 0) (w : World) :
    Calls Try.prog 7 #[.agg #[.int .i64 P, .int .i64 Q, .int .i64 G, .int .i64 H], .int .i64 s, .int .i64 k, .slice o n c] w fun e w' => e = .returned (.bool true) ∧ Below w.heap.size w w' := by
  have cL := fun w => Sign_bad P Q G H s k o n c h w
  have cK := hid (fun (w1 : World) => ak2' P Q G H s k (w1.alloc (.cells #[.int .i64 0, .int .i64 0, .int .i64 0] 25)) (w1.heap.size + 1) (World.size_alloc _ _).symm)
  have K := hid (Gb.new w P Q G H)
  obtain ⟨c0, c1, c2, c3⟩ := K.out.cells
  generalize aC P Q G H [s, k] [] = d at *
  have h1 : (d != 0) = true := by simpa using h
  have h2 : (d == 0) = false := by simpa using h
  clear h
  go_enter Try.func7, Try.ntmps7
  go_wp2_with (first
    | (go_at_call 18; refine (cL _).mono ?_; clear cL; rintro e w1 ⟨rfl, hB1⟩; have K1 := hid ((K.out.below hB1).alloc (.cells #[.int .i64 0, .int .i64 0, .int .i64 0] 25)); have R1 := hid (BoxC.new w1 25 #[.int .i64 0, .int .i64 0, .int .i64 0]); obtain ⟨d0, d1, d2, d3⟩ := K1.out.cells; clear hB1)
    | (go_at_call 10; refine (cK.out _).mono ?_; clear cK; rintro e w2 ⟨rfl, hB2⟩; have K2 := hid (K1.out.below hB2); have R2 := hid (bxk R1.out hB2); obtain ⟨r0, r1, r2, _⟩ := box_three R2.out; clear hB2))
  go_ret
  exact ⟨by simp, K2.out.2⟩

set_option maxRecDepth 100000 in
set_option maxHeartbeats 1000000 in
theorem walkL (P Q G H s k : Nat) (o : Option Addr) (n c : Nat) (hG : Grp P Q G H) (hs : s < Q) (hk : k < Q) (hn : 4088 < n) (hn2 : n ≤ 9223372036854775807) (w : World) :
    Calls Try.prog 7 #[.agg #[.int .i64 (P : Int), .int .i64 (Q : Int), .int .i64 (G : Int), .int .i64 (H : Int)], .int .i64 (s : Int), .int .i64 (k : Int), .slice o n c] w fun e w' => e = .returned (.bool true) ∧ Below w.heap.size w w' := by
  have cL := fun w => Sign_large P Q G H s k o n c hG hs hk hn hn2 w
  have cK := hid (fun (w1 : World) => ak2' (P : Int) (Q : Int) (G : Int) (H : Int) (s : Int) (k : Int) (w1.alloc (.cells #[.int .i64 0, .int .i64 0, .int .i64 0] 25)) (w1.heap.size + 1) (World.size_alloc _ _).symm)
  rw [aC_of hG (ex2 hs hk) none0] at cK
  have K := hid (Gb.new w (P : Int) (Q : Int) (G : Int) (H : Int))
  obtain ⟨c0, c1, c2, c3⟩ := K.out.cells
  have hn' : (4088 : Int) < (n : Int) := by omega
  clear hG hs hk
  go_enter Try.func7, Try.ntmps7
  go_wp2_with (first
    | (go_at_call 18; refine (cL _).mono ?_; clear cL; rintro e w1 ⟨rfl, hB1⟩; have K1 := hid ((K.out.below hB1).alloc (.cells #[.int .i64 0, .int .i64 0, .int .i64 0] 25)); have R1 := hid (BoxC.new w1 25 #[.int .i64 0, .int .i64 0, .int .i64 0]); obtain ⟨d0, d1, d2, d3⟩ := K1.out.cells; clear hB1)
    | (go_at_call 10; refine (cK.out _).mono ?_; clear cK; rintro e w2 ⟨rfl, hB2⟩; have K2 := hid (K1.out.below hB2); have R2 := hid (bxk R1.out hB2); obtain ⟨r0, r1, r2, _⟩ := box_three R2.out; clear hB2))
  go_ret
  exact ⟨by simp, K2.out.2⟩

set_option maxRecDepth 100000 in
set_option maxHeartbeats 4000000 in
theorem walkY (P Q G H s k : Nat) (o : Option Addr) (c : Nat) (l : List Nat) (hG : Grp P Q G H) (hs : s < Q) (hk : k < Q) (hl : l.length ≤ 4088) (hby : Byt l) (w : World) (r : YRow w o l) :
    Calls Try.prog 7 #[.agg #[.int .i64 (P : Int), .int .i64 (Q : Int), .int .i64 (G : Int), .int .i64 (H : Int)], .int .i64 (s : Int), .int .i64 (k : Int), .slice o l.length c] w fun e w' => e = .returned (.bool true) ∧ Below w.heap.size w w' := by
  have p3 := hG.p3
  have pb := hG.big
  have ql := hG.qlt
  have q2 := hG.q2
  have yl : G ^ k % P < P := Nat.mod_lt _ (by omega)
  have xl : G ^ s % P < P := Nat.mod_lt _ (by omega)
  have ha : askd Q (G ^ k % P) (G ^ s % P) l < Q := askd_lt q2
  have cL := hid (fun w (r : YRow w o l) => Sign_yes P Q G H s k o c l hG hs hk hl hby w r)
  have cK := hid (fun (w1 : World) => ak2' (P : Int) (Q : Int) (G : Int) (H : Int) (s : Int) (k : Int) (w1.alloc (.cells #[.int .i64 (G ^ k % P : Nat), .int .i64 (askd Q (G ^ k % P) (G ^ s % P) l : Nat), .int .i64 ((k + askd Q (G ^ k % P) (G ^ s % P) l * s) % Q : Nat)] 25)) (w1.heap.size + 1) (World.size_alloc _ _).symm)
  rw [aC_of hG (ex2 hs hk) none0] at cK
  have cP := fun w => refPow_nat G k P (by omega) pb (by omega) w
  have cX := fun w => refPow_nat G s P (by omega) pb (by omega) w
  have cT := hid (fun w (r : YRow w o l) => textAsks_any P Q G H (G ^ k % P) (G ^ s % P) (by omega) (by omega) (by omega) (by omega) o c l hl hby w r)
  have e0 : sum (said (G ^ k % P) (G ^ s % P) l) % Q = askd Q (G ^ k % P) (G ^ s % P) l := rfl
  rw [e0] at cT
  clear e0
  have R0 := hid r
  generalize askd Q (G ^ k % P) (G ^ s % P) l = a at *
  obtain ⟨m1, m2⟩ := mul_bds (by omega : Q ≤ 1048576) ha hs
  have w1' : IntKind.i64.wrap ((a : Int) * (s : Int)) = (a : Int) * (s : Int) := wrap_in _ (by omega) (by omega)
  have w2' : IntKind.i64.wrap ((k : Int) + (a : Int) * (s : Int)) = (k : Int) + (a : Int) * (s : Int) := wrap_in _ (by omega) (by omega)
  have n0 : ¬ (Q : Int) = 0 := by omega
  have n1 : ¬ Q = 0 := by omega
  have E1 : ((k : Int) + (a : Int) * (s : Int)) = ((k + a * s : Nat) : Int) := by simp
  have E2 : ((k : Int) + (a : Int) * (s : Int)).tmod (Q : Int) = (((k + a * s) % Q : Nat) : Int) := by rw [E1, ← Int.ofNat_tmod]
  have E3 : ((k : Int) + (a : Int) * (s : Int)) % (Q : Int) = (((k + a * s) % Q : Nat) : Int) := by rw [E1, ← Int.natCast_emod]
  have K := hid (Gb.new w (P : Int) (Q : Int) (G : Int) (H : Int))
  obtain ⟨c0, c1, c2, c3⟩ := K.out.cells
  clear hG hs hk ha p3 pb ql q2 E1 r xl yl
  generalize (k + a * s) % Q = z at *
  generalize G ^ s % P = x at *
  generalize G ^ k % P = y at *
  generalize l.length = n at *
  have hn' : ¬ (4088 : Int) < (n : Int) := by omega
  go_enter Try.func7, Try.ntmps7
  go_wp2_with (first
    | (go_at_call 18; refine (cL.out _ (yb' R0.out K.out.2)).mono ?_; clear cL; rintro e w1 ⟨rfl, hB1⟩; have K1 := hid ((K.out.below hB1).alloc (.cells #[.int .i64 (y : Int), .int .i64 (a : Int), .int .i64 (z : Int)] 25)); have R1 := hid (BoxC.new w1 25 #[.int .i64 (y : Int), .int .i64 (a : Int), .int .i64 (z : Int)]); obtain ⟨d0, d1, d2, d3⟩ := K1.out.cells; clear hB1)
    | (go_at_call 10; refine (cK.out _).mono ?_; clear cK; rintro e w2 ⟨rfl, hB2⟩; have K2 := hid (K1.out.below hB2); have R2 := hid (bxk R1.out hB2); obtain ⟨e0, e1, e2, e3⟩ := K2.out.cells; clear hB2; have KD := hid K2.out.drew; have RD := hid (show BoxC w2.drew _ _ _ from R2.out))
    | (go_at_call 11; refine (cP _).mono ?_; clear cP; rintro e w3 ⟨rfl, hw⟩; subst w3))
  go_region_held3 (fun w' => w'.cell? ⟨w.heap.size, 0, none⟩ = some (.int .i64 (P : Int)) ∧ w'.cell? ⟨w.heap.size, 1, none⟩ = some (.int .i64 (Q : Int)) ∧ w'.cell? ⟨w.heap.size, 2, none⟩ = some (.int .i64 (G : Int)) ∧ w'.cell? ⟨w.heap.size, 3, none⟩ = some (.int .i64 (H : Int))) (first | exact ⟨e0, e1, e2, e3⟩ | exact ⟨f0, f1, f2, f3⟩)
    (first
      | (go_at_call 11; refine (cX _).mono ?_; rintro e w5 ⟨rfl, hw⟩; subst w5)
      | (go_at_call 19; refine (cT.out _ (yb' R0.out KD.out.2)).mono ?_; rintro e w6 ⟨rfl, hB6⟩; have K6 := hid (KD.out.below hB6); have R6 := hid (bxk RD.out hB6); obtain ⟨f0, f1, f2, f3⟩ := K6.out.cells; obtain ⟨r0, r1, r2, _⟩ := box_three R6.out; clear hB6))
  all_goals
    go_wp2
    go_quiet (fail)
    go_wp2
    go_ret
    exact ⟨by simp, by first | exact K6.out.2 | exact K6.out.drew.2 | exact Go.Proofs.Ytpflkihagebmlaa.Base.below_drewN K6.out.2 _⟩

theorem walk (P Q G H : Int) (wP : (Lit.int .i64 P).wf = true) (wQ : (Lit.int .i64 Q).wf = true) (wG : (Lit.int .i64 G).wf = true) (wH : (Lit.int .i64 H).wf = true) (s k : Int) (o : Option Addr) (c : Nat) (l : List Nat) (hb : ∀ b ∈ l, b < 256) (hc : l.length ≤ c) (hm : l.length ≤ 9223372036854775807) (w : World) (r : YRow w o l) :
    Calls Try.prog 7 #[.agg #[.int .i64 P, .int .i64 Q, .int .i64 G, .int .i64 H], .int .i64 s, .int .i64 k, .slice o l.length c] w fun e w' => e = .returned (.bool true) ∧ Below w.heap.size w w' := by
  by_cases h : aC P Q G H [s, k] [] = 0
  · obtain ⟨p, q, g, h', rfl, rfl, rfl, rfl, hG, h1, _⟩ := aC_zero h
    obtain ⟨s', rfl, hs⟩ := h1 s (by simp)
    obtain ⟨k', rfl, hk⟩ := h1 k (by simp)
    by_cases hl : l.length ≤ 4088
    · exact walkY p q g h' s' k' o c l hG hs hk hl hb w r
    · exact walkL p q g h' s' k' o l.length c hG hs hk (by omega) hm w
  · exact walkF P Q G H s k o l.length c h w

set_option maxRecDepth 100000 in
theorem lifted (os : Os) (started : os.Started) (H : Type) (enc : TypeId × Value → H) :
    ReturnsInHanded {} Try.checked os 7 .any (Rows.talkWritesSpec.pre6 enc Try.prog Try.f7 Rows.talkWritesRow.domain false) (Rows.talkWritesSpec.post enc Try.prog Try.f7 false true false false) := by
  refine returnsInHanded_of_change (C := Try.checked) own started (by kernel_rfl) Try.func7
    (ChangeSpec.witness6 (enc := enc) (C := Try.checked) false ⟨#[], #[.agg #[.int .i64 0, .int .i64 0, .int .i64 0, .int .i64 0], .int .i64 0, .int .i64 0, .slice none 0 0], []⟩ 8 (by kernel_rfl) (by kernel_rfl) (by kernel_rfl) (by kernel_rfl)) ?_
  intro W base args ds gs before hval0 hW hcnd _
  have hval : ∀ (j : Nat) t v, Try.f7.params[j]? = some t → args[j]? = some v → Value.okWide Try.prog W .any base t v := hval0
  have hW' := hW
  obtain ⟨p, q, hA0, hV, rfl, _, _⟩ := hW
  have hA : DataW.TrodAll enc Try.prog W 0 (fun _ => true) true Try.f7.params.toList args.toList ds p := hA0
  rw [Try.params7] at hA hval
  obtain ⟨v0, v1, v2, v3, d0, d1, d2, d3, p0, p1, p2, p3, rfl, rfl, rfl, h0, h1, h2, h3⟩ := trodAll_four hA
  obtain ⟨rfl, rfl⟩ := trodVars_none hV
  have hsv0 := hval 0 23 v0 rfl rfl
  obtain ⟨a1, rfl, rfl, rfl, w1⟩ := open_int Try.underlying2 (hval 1 2 v1 rfl rfl) h1
  obtain ⟨a2, rfl, rfl, rfl, w2⟩ := open_int Try.underlying2 (hval 2 2 v2 rfl rfl) h2
  have hsl3 := okWide_slice Try.underlying42 (hval 3 42 v3 rfl rfl)
  clear hA0 hval0
  simp only [List.append_nil] at hW'
  have hlt0 : ∀ x ∈ p0, x.block < W.heap.size := fun x hx => by simpa using hW'.lt x (by simp [hx])
  have harg0 : ∀ (W' : World), Below W.heap.size W W' → DataW.Trod enc Try.prog W' 0 (fun b => decide (b < W.heap.size)) true 23 v0 d0 p0 :=
    fun W' hn => Below.trod laidOut (by kernel_rfl) (of_decide_eq_true (by kernel_rfl)) h0 hn hlt0
  obtain ⟨x0a, x0b, x0c, x0d, rfl, w0a, w0b, w0c, w0d⟩ := struct4_view Try.underlying23 cells_G rfl rfl rfl rfl ⟨cells2, Try.underlying2⟩ ⟨cells2, Try.underlying2⟩ ⟨cells2, Try.underlying2⟩ ⟨cells2, Try.underlying2⟩ h0 hsv0
  have hlt3 : ∀ x ∈ p3, x.block < W.heap.size := fun x hx => by simpa using hW'.lt x (by simp [hx])
  have harg3 : ∀ (W' : World), Below W.heap.size W W' → DataW.Trod enc Try.prog W' 0 (fun b => decide (b < W.heap.size)) true 42 v3 d3 p3 :=
    fun W' hn => Below.trod laidOut (by kernel_rfl) (of_decide_eq_true (by kernel_rfl)) h3 hn hlt3
  obtain ⟨o3, c3, l3, rfl, r3, b3, k3, m3⟩ := bytes_view Try.underlying42 cells8 Try.underlying5 h3 hsl3
  refine (walk x0a x0b x0c x0d w0a w0b w0c w0d a1 a2 o3 c3 l3 b3 k3 m3 W r3).mono fun e W' ⟨he, hg⟩ => ?_
  subst he
  refine ⟨_, rfl, _, _, _, [], p0 ++ (([] : List MemPlace) ++ (([] : List MemPlace) ++ (p3))), [], hW', ?_, ?_, rfl, hg.frame _, fun h => by cases h⟩
  · exact trodAll_mk1 (shut_bool Try.underlying4 true)
  · exact trodAll_mk4 (harg0 _ hg) (shut_int Try.underlying2 w1) (shut_int Try.underlying2 w2) (harg3 _ hg)

theorem over : Rows.talkWritesRow.holds Try.pinned (OpenSpec.ofChange Rows.talkWritesSpec) :=
  OpenClaim.holds_of_wide 7 Try.f7 rfl rfl rfl rfl rfl rfl rfl ⟨rfl, rfl, rfl, rfl, rfl⟩ rfl rfl rfl rfl rfl (by kernel_rfl) Try.func7 (by kernel_rfl)
    (of_decide_eq_true (by kernel_rfl)) (by unfold Func.isWrapper; first | (rw [if_pos (by decide +kernel)]; kernel_rfl) | (rw [if_neg (by decide +kernel)]; exact ⟨rfl, rfl⟩))
    (fun os started H enc _ => lifted os started H enc)

/-- ████ THE STATEMENT ████ -/
theorem proved : Rows.TalkWritesSaid :=
  over

end Go.Proofs.Ytpflkihagebmlaa.talkWrites
