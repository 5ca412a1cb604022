/-
  SHAMIR: for any secret and any numbers: any shares, one more than there are numbers at least (and at most thirteen), tell the secret: with no condition.
-/
import Derived.Test.YtokbdgikdlfneaaRows
import Derived.Test.YtokbdgikdlfneaaCalls95
import Derived.WalkKit
import Derived.ProofKit
import Derived.OpenShut
import Derived.Carry
namespace Go.Proofs.Ytokbdgikdlfneaa.shareEnough
open Go.ChangeShapes Go.WideShapes Go.ChangeAt Go.RowKit Go.Deep Go.Proofs.Ytokbdgikdlfneaa.Base Go.Proofs.Ytokbdgikdlfneaa.Base2 Go.Proofs.Ytokbdgikdlfneaa.Num Go.Proofs.Ytokbdgikdlfneaa.Num7 Go.Proofs.Ytokbdgikdlfneaa.Num13 Go.Proofs.Ytokbdgikdlfneaa.Num16 Go.Proofs.Ytokbdgikdlfneaa.Num17 Go.Proofs.Ytokbdgikdlfneaa.Num34 Go.Proofs.Ytokbdgikdlfneaa.Num35 Go.Proofs.Ytokbdgikdlfneaa.Num39 Go.Proofs.Ytokbdgikdlfneaa.Base4 Go.Proofs.Ytokbdgikdlfneaa.Calls56 Go.Proofs.Ytokbdgikdlfneaa.Calls57 Go.Proofs.Ytokbdgikdlfneaa.Calls69 Go.Proofs.Ytokbdgikdlfneaa.Calls87 Go.Proofs.Ytokbdgikdlfneaa.Calls88 Go.Proofs.Ytokbdgikdlfneaa.Calls90 Go.Proofs.Ytokbdgikdlfneaa.Calls91 Go.Proofs.Ytokbdgikdlfneaa.Calls94 Go.Proofs.Ytokbdgikdlfneaa.Calls95
set_option linter.unusedVariables false

theorem own : ownKnob Try.prog.godebug = none := by kernel_rfl

theorem laidOut : laidOutB Try.prog = true := by kernel_rfl

theorem cells2 : Try.prog.cellsOf 2 = 1 := by kernel_rfl

set_option maxRecDepth 100000 in
theorem walk (p s : Int) (mo : Option Addr) (cm : Nat) (m : List Int) (km : m.length ≤ cm) (mm : m.length ≤ 9223372036854775807) (n : Int) (wn : (Lit.int .i64 n).wf = true) (u : Int) (wu : (Lit.int .u32 u).wf = true) (w : World) (hrow : IRow w mo m) :
    Calls Try.prog 6 #[.int .i64 p, .int .i64 s, .slice mo m.length cm, .int .i64 n, .int .u32 u] w fun e w' => e = .returned (.bool true) ∧ Below w.heap.size w w' := by
  obtain ⟨c, hc⟩ := spc_ex p s n m
  by_cases h0 : c = 0
  · subst h0
    obtain ⟨P, rfl, hP, hP2, hl, hg⟩ := hc.ok
    obtain ⟨N, rfl⟩ : ∃ N : Nat, n = (N : Int) := ⟨n.toNat, by have := hg.2.2.1; omega⟩
    obtain ⟨M, hM, rfl⟩ : ∃ M : Nat, M < 4294967296 ∧ u = (M : Int) := by
      simp [Lit.wf] at wu
      have m0 : IntKind.u32.min = 0 := by decide
      have m1 : IntKind.u32.max = 4294967295 := by decide
      exact ⟨u.toNat, by omega, by omega⟩
    have hN : N < P := by have := hg.2.2.2; omega
    have cS := Split_yes P hP hP2 s N mo cm m hl hg w hrow
    unfold RetPE at cS
    have hsh : (shl P s m N).length = N := shl_length P s m N
    have cF := fun o1 c1 w' (r : PRow w' o1 (shl P s m N)) => few_any o1 c1 (shl P s m N) (by omega) M hM w' r
    unfold RetP at cF
    simp only [hsh] at cS cF
    obtain ⟨r, hr⟩ : ∃ r, r = fewL M (shl P s m N) (min N 32) := ⟨_, rfl⟩
    have hS : Some P s m N r := by rw [hr]; exact some_few P s m N M _ (by omega)
    have hrl : r.length ≤ 32 := by rw [hr]; have := fewL_len M (shl P s m N) (min N 32); omega
    rw [← hr] at cF
    obtain ⟨j, hj, hj0⟩ : ∃ j, JnC (P : Int) r j ∧ (r.length ≤ 13 → j = 0) := by
      by_cases h13 : r.length ≤ 13
      · exact ⟨0, hS.jnc hP hP2 hN h13, fun _ => rfl⟩
      · obtain ⟨j, hj⟩ := jnc_ex (P : Int) r
        exact ⟨j, hj, fun h => absurd h h13⟩
    have cJ := fun o2 c2 w' (rr : PRow w' o2 r) => (Join_any (P : Int) o2 c2 r (by omega) j hj w' rr).mono (R' := fun e w'' => (∃ v, Hid (m.length < r.length → r.length ≤ 13 → v = s) ∧ e = .returned (.tuple #[.int .i64 v, .int .i64 j])) ∧ Below w'.heap.size w' w'') (fun e w'' h => ⟨by
      obtain ⟨v, he, _, hv⟩ := h.1
      refine ⟨v, fun h1 h2 => ?_, he⟩
      have := hv (hj0 h2)
      rw [Int.toNat_natCast] at this
      exact enough hP (gd_bd hg) h1 hS.val (hS.dist hN) this, h.2⟩)
    obtain ⟨nm, hnm⟩ : ∃ nm, nm = m.length := ⟨_, rfl⟩
    obtain ⟨nr, hnr⟩ : ∃ nr, nr = r.length := ⟨_, rfl⟩
    simp only [← hnm, ← hnr] at cS cF cJ hj0 hl hrl ⊢
    clear hnm hnr hj hS hr hsh hg hc hrow wn wu mm km
    by_cases g1 : nr ≤ nm
    · have g1' : (nr : Int) ≤ (nm : Int) := by omega
      clear hj0
      go_enter Try.func6, Try.ntmps6
      go_wp2_with (first
        | (go_at_call 9; refine cS.mono ?_; rintro e w1 ⟨⟨o1, c1, rfl, h1, h2⟩, hB⟩; have cF1 := cF o1 c1 w1 h2; clear h1 h2)
        | (go_at_call 18; refine cF1.mono ?_; rintro e w2 ⟨⟨o2, c2, rfl, h1, h2⟩, hB2⟩; have cJ1 := cJ o2 c2 w2 h2; clear h1 h2)
        | (go_at_call 13; refine cJ1.mono ?_; rintro e w3 ⟨⟨v, hv, rfl⟩, hB3⟩))
      go_ret
      exact ⟨rfl, below_trans (below_trans hB hB2) hB3⟩
    · have g1' : decide ((nr : Int) ≤ (nm : Int)) = false := by simp; omega
      have g1'' : decide (nr ≤ nm) = false := by simp; omega
      by_cases g2 : 13 < nr
      · have g2' : (13 : Int) < (nr : Int) := by omega
        clear hj0
        go_enter Try.func6, Try.ntmps6
        go_wp2_with (first
          | (go_at_call 9; refine cS.mono ?_; rintro e w1 ⟨⟨o1, c1, rfl, h1, h2⟩, hB⟩; have cF1 := cF o1 c1 w1 h2; clear h1 h2)
          | (go_at_call 18; refine cF1.mono ?_; rintro e w2 ⟨⟨o2, c2, rfl, h1, h2⟩, hB2⟩; have cJ1 := cJ o2 c2 w2 h2; clear h1 h2)
          | (go_at_call 13; refine cJ1.mono ?_; rintro e w3 ⟨⟨v, hv, rfl⟩, hB3⟩))
        go_ret
        exact ⟨rfl, below_trans (below_trans hB hB2) hB3⟩
      · have g2' : decide ((13 : Int) < (nr : Int)) = false := by simp; omega
        obtain rfl : j = 0 := hj0 (by omega)
        clear hj0
        go_enter Try.func6, Try.ntmps6
        go_wp2_with (first
          | (go_at_call 9; refine cS.mono ?_; rintro e w1 ⟨⟨o1, c1, rfl, h1, h2⟩, hB⟩; have cF1 := cF o1 c1 w1 h2; clear h1 h2)
          | (go_at_call 18; refine cF1.mono ?_; rintro e w2 ⟨⟨o2, c2, rfl, h1, h2⟩, hB2⟩; have cJ1 := cJ o2 c2 w2 h2; clear h1 h2)
          | (go_at_call 13; refine cJ1.mono ?_; rintro e w3 ⟨⟨v, hv, rfl⟩, hB3⟩; obtain rfl : v = s := hv.out (by omega) (by omega)))
        go_ret
        exact ⟨rfl, below_trans (below_trans hB hB2) hB3⟩
  · have cS := Split_bad p s n mo cm m mm c hc h0 w hrow
    generalize m.length = nm at *
    have h1 : (c != 0) = true := by simpa using h0
    have h2 : (c == 0) = false := by simpa using h0
    clear hc hrow
    go_enter Try.func6, Try.ntmps6
    go_wp2_with (go_at_call 9; refine cS.mono ?_; rintro e w1 ⟨rfl, hB⟩)
    go_ret
    exact ⟨rfl, hB⟩

theorem trodAll_five {H : Type} {enc : TypeId × Value → H} {P : Program} {w : World} {base : Nat} {spare : Nat → Bool} {held : Bool} {t0 t1 t2 t3 t4 : TypeId} {args : Array Value} {ds : List (DataW H)} {ps : List MemPlace} (h : DataW.TrodAll enc P w base spare held [t0, t1, t2, t3, t4] args.toList ds ps) :
    ∃ v0 v1 v2 v3 v4 d0 d1 d2 d3 d4 p0 p1 p2 p3 p4, args = #[v0, v1, v2, v3, v4] ∧ ds = [d0, d1, d2, d3, d4] ∧ ps = p0 ++ p1 ++ p2 ++ p3 ++ p4 ∧ DataW.Trod enc P w base spare held t0 v0 d0 p0 ∧ DataW.Trod enc P w base spare held t1 v1 d1 p1 ∧ DataW.Trod enc P w base spare held t2 v2 d2 p2 ∧ DataW.Trod enc P w base spare held t3 v3 d3 p3 ∧ DataW.Trod enc P w base spare held t4 v4 d4 p4 := by
  obtain ⟨v0, vs0, d0, ds0, p0, q0, hargs, rfl, rfl, hd0, hrest0⟩ := trodAll_cons h
  obtain ⟨v1, vs1, d1, ds1, p1, q1, rfl, rfl, rfl, hd1, hrest1⟩ := trodAll_cons hrest0
  obtain ⟨v2, vs2, d2, ds2, p2, q2, rfl, rfl, rfl, hd2, hrest2⟩ := trodAll_cons hrest1
  obtain ⟨v3, vs3, d3, ds3, p3, q3, rfl, rfl, rfl, hd3, hrest3⟩ := trodAll_cons hrest2
  obtain ⟨v4, vs4, d4, ds4, p4, q4, rfl, rfl, rfl, hd4, hrest4⟩ := trodAll_cons hrest3
  obtain ⟨rfl, rfl, rfl⟩ := trodAll_nil hrest4
  exact ⟨v0, v1, v2, v3, v4, d0, d1, d2, d3, d4, p0, p1, p2, p3, p4, by cases args; simp_all, rfl, by simp, hd0, hd1, hd2, hd3, hd4⟩

theorem trodAll_mk5 {H : Type} {enc : TypeId × Value → H} {P : Program} {w : World} {base : Nat} {spare : Nat → Bool} {held : Bool} {t0 t1 t2 t3 t4 : TypeId} {v0 v1 v2 v3 v4 : Value} {d0 d1 d2 d3 d4 : DataW H} {p0 p1 p2 p3 p4 : List MemPlace} (h0 : DataW.Trod enc P w base spare held t0 v0 d0 p0) (h1 : DataW.Trod enc P w base spare held t1 v1 d1 p1) (h2 : DataW.Trod enc P w base spare held t2 v2 d2 p2) (h3 : DataW.Trod enc P w base spare held t3 v3 d3 p3) (h4 : DataW.Trod enc P w base spare held t4 v4 d4 p4) : DataW.TrodAll enc P w base spare held [t0, t1, t2, t3, t4] [v0, v1, v2, v3, v4] [d0, d1, d2, d3, d4] (p0 ++ (p1 ++ (p2 ++ (p3 ++ (p4))))) := ⟨p0, p1 ++ (p2 ++ (p3 ++ (p4))), h0, trodAll_mk4 h1 h2 h3 h4, rfl⟩

set_option maxRecDepth 100000 in
theorem lifted (os : Os) (started : os.Started) (H : Type) (enc : TypeId × Value → H) :
    ReturnsInHanded {} Try.checked os 6 .any (Rows.shareEnoughSpec.pre6 enc Try.prog Try.f6 Rows.shareEnoughRow.domain false) (Rows.shareEnoughSpec.post enc Try.prog Try.f6 false true false false) := by
  refine returnsInHanded_of_change (C := Try.checked) own started (by kernel_rfl) Try.func6
    (ChangeSpec.witness6 (enc := enc) (C := Try.checked) false ⟨#[], #[.int .i64 0, .int .i64 0, .slice none 0 0, .int .i64 0, .int .u32 0], []⟩ 8 (by kernel_rfl) (by kernel_rfl) (by kernel_rfl) (by kernel_rfl)) ?_
  intro W base args ds gs before hval0 hW hcnd _
  have hval : ∀ (j : Nat) t v, Try.f6.params[j]? = some t → args[j]? = some v → Value.okWide Try.prog W .any base t v := hval0
  have hW' := hW
  obtain ⟨p, q, hA0, hV, rfl, _, _⟩ := hW
  have hA : DataW.TrodAll enc Try.prog W 0 (fun _ => true) true Try.f6.params.toList args.toList ds p := hA0
  rw [Try.params6] at hA hval
  obtain ⟨v0, v1, v2, v3, v4, d0, d1, d2, d3, d4, p0, p1, p2, p3, p4, rfl, rfl, rfl, h0, h1, h2, h3, h4⟩ := trodAll_five hA
  obtain ⟨rfl, rfl⟩ := trodVars_none hV
  obtain ⟨a0, rfl, rfl, rfl, w0⟩ := open_int Try.underlying2 (hval 0 2 v0 rfl rfl) h0
  obtain ⟨a1, rfl, rfl, rfl, w1⟩ := open_int Try.underlying2 (hval 1 2 v1 rfl rfl) h1
  have hsl2 := okWide_slice Try.underlying22 (hval 2 22 v2 rfl rfl)
  obtain ⟨a3, rfl, rfl, rfl, w3⟩ := open_int Try.underlying3 (hval 3 3 v3 rfl rfl) h3
  obtain ⟨a4, rfl, rfl, rfl, w4⟩ := open_int Try.underlying42 (hval 4 42 v4 rfl rfl) h4
  clear hA0 hval0
  simp only [List.append_nil, List.nil_append] at hW'
  have hlt2 : ∀ x ∈ p2, x.block < W.heap.size := fun x hx => by simpa using hW'.lt x (by simp [hx])
  have harg2 : ∀ (W' : World), Below W.heap.size W W' → DataW.Trod enc Try.prog W' 0 (fun b => decide (b < W.heap.size)) true 22 v2 d2 p2 :=
    fun W' hn => Below.trod laidOut (by kernel_rfl) (of_decide_eq_true (by kernel_rfl)) h2 hn hlt2
  obtain ⟨o2, c2, l2, rfl, r2, k2, m2⟩ := longs_view Try.underlying22 cells2 Try.underlying2 h2 hsl2
  refine (walk a0 a1 o2 c2 l2 k2 m2 a3 w3 a4 w4 W r2).mono fun e W' ⟨he, hg⟩ => ?_
  subst he
  refine ⟨_, rfl, _, _, _, [], ([] : List MemPlace) ++ (([] : List MemPlace) ++ (p2 ++ (([] : List MemPlace) ++ (([] : List MemPlace))))), [], hW', ?_, ?_, rfl, hg.frame _, fun h => by cases h⟩
  · exact trodAll_mk1 (shut_bool Try.underlying4 true)
  · exact trodAll_mk5 (shut_int Try.underlying2 w0) (shut_int Try.underlying2 w1) (harg2 _ hg) (shut_int Try.underlying3 w3) (shut_int Try.underlying42 w4)

theorem over : Rows.shareEnoughRow.holds Try.pinned (OpenSpec.ofChange Rows.shareEnoughSpec) :=
  OpenClaim.holds_of_wide 6 Try.f6 rfl rfl rfl rfl rfl rfl rfl ⟨rfl, rfl, rfl, rfl, rfl⟩ rfl rfl rfl rfl rfl (by kernel_rfl) Try.func6 (by kernel_rfl)
    (of_decide_eq_true (by kernel_rfl)) (by unfold Func.isWrapper; first | (rw [if_pos (by decide +kernel)]; kernel_rfl) | (rw [if_neg (by decide +kernel)]; exact ⟨rfl, rfl⟩))
    (fun os started H enc _ => lifted os started H enc)

/-- ████ THE STATEMENT ████ -/
theorem proved : Rows.ShareEnoughSaid :=
  over

end Go.Proofs.Ytokbdgikdlfneaa.shareEnough
