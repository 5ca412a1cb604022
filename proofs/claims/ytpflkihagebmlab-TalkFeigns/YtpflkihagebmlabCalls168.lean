/-
  Package talk: what a text asks.
-/
import Derived.Test.YtpflkihagebmlabCalls157
import Derived.Test.YtpflkihagebmlabCalls128
namespace Go.Proofs.Ytpflkihagebmlab.Calls168
set_option linter.unusedVariables false
open Go.ChangeShapes Go.WideShapes Go.ChangeAt Go.RowKit Go.Deep Go.Proofs.Ytpflkihagebmlab.Base Go.Proofs.Ytpflkihagebmlab.Base2 Go.Proofs.Ytpflkihagebmlab.Base7 Go.Proofs.Ytpflkihagebmlab.Base8 Go.Proofs.Ytpflkihagebmlab.Num Go.Proofs.Ytpflkihagebmlab.Num55 Go.Proofs.Ytpflkihagebmlab.Calls126 Go.Proofs.Ytpflkihagebmlab.Calls127 Go.Proofs.Ytpflkihagebmlab.Calls128
open Go.Proofs.Ytpflkihagebmlab.Calls157 (Gb Gb.new Gb.alloc Gb.drew Gb.below Gb.cells)

/-- What a text asks is reckoned of. -/
def said (f x : Nat) (l : List Nat) : List Nat := len4 f ++ len4 x ++ l

theorem said_length (f x : Nat) (l : List Nat) : (said f x l).length = 8 + l.length := by simp [said, len4]; omega

theorem said_byt {f x : Nat} {l : List Nat} (h : Byt l) : Byt (said f x l) := by
  intro b hb
  unfold said at hb
  rcases List.mem_append.1 hb with h1 | h1
  · rcases List.mem_append.1 h1 with h2 | h2
    · rw [← lit_four] at h2; exact lit_byt f 4 b h2
    · rw [← lit_four] at h2; exact lit_byt x 4 b h2
  · exact h b h1

/-- The world with the group's box. -/
def gw (w : World) (P Q G H : Int) : World := w.alloc (.cells #[.int .i64 P, .int .i64 Q, .int .i64 G, .int .i64 H] 23)

theorem gw_size (w : World) (P Q G H : Int) : (gw w P Q G H).heap.size = w.heap.size + 1 := World.size_alloc _ _

theorem gw_gb {w wr : World} {P Q G H : Int} (h : Below (gw w P Q G H).heap.size (gw w P Q G H) wr) : Gb w wr P Q G H := (Gb.new w P Q G H).below h

theorem v_four {W : World} {t : TypeId} {a b c d : Value} : ∀ j u, ([a, b, c, d] : List Value)[j]? = some u → (W.alloc (.cells #[a, b, c, d] t)).cell? ((⟨W.heap.size, 0, none⟩ : Addr).add j) = some u := by
  intro j u hu
  rw [v_zero, (BoxC.new W t #[a, b, c, d]).cell j]
  simpa using hu

theorem own_row {W : World} {base : Nat} {e : TypeId} {g n cap : Nat} {l : List Nat} (h : W.ownsRow base e 1 (.slice (some ⟨g, 0, none⟩) n cap) n (yv l)) : YRow W (some ⟨g, 0, none⟩) l := by
  obtain ⟨g', cb, e, _, _, _, r⟩ := reto_owns h
  simp at e
  obtain ⟨rfl, _, _⟩ := e
  exact r

set_option maxRecDepth 100000 in
theorem asks_large (P Q G H f x : Int) (o : Option Addr) (n c : Nat) (hn : 4088 < n) (hn2 : n ≤ 9223372036854775807) (w : World) :
    Calls Try.prog 23 #[.agg #[.int .i64 P, .int .i64 Q, .int .i64 G, .int .i64 H], .int .i64 f, .int .i64 x, .slice o n c] w fun e w' => e = .returned (.tuple #[.int .i64 0, .int .i64 1]) ∧ Below w.heap.size w w' := by
  have K := hid (Gb.new w P Q G H)
  go_enter Try.func23, Try.ntmps23
  go_wp2
  go_ret2
  exact ⟨rfl, K.out.2⟩

set_option maxRecDepth 100000 in
set_option maxHeartbeats 2000000 in
theorem asks_yes (P Q G H : Nat) (f x : Nat) (hf : f ≤ 1048576) (hx : x ≤ 1048576) (hQ : 1 ≤ Q) (hQ2 : Q ≤ 1048576) (o : Option Addr) (c : Nat) (l : List Nat) (hl : l.length ≤ 4088) (hb : Byt l) (w : World) (r : YRow w o l) :
    Calls Try.prog 23 #[.agg #[.int .i64 (P : Int), .int .i64 (Q : Int), .int .i64 (G : Int), .int .i64 (H : Int)], .int .i64 (f : Int), .int .i64 (x : Int), .slice o l.length c] w fun e w' => e = .returned (.tuple #[.int .i64 (sum (said f x l) % Q : Nat), .int .i64 0]) ∧ Below w.heap.size w w' := by
  obtain ⟨i0, hi, hz0, hz1, hz2⟩ := infoY infoU8
  have j0 : ∀ w, (Instr.index 64 (.agg #[.int .i64 (f : Int), .int .i64 (x : Int)]) (.int .i64 0)).run Try.prog w = .ok (.int .i64 (f : Int)) w := fun _ => by kernel_rfl
  have j1 : ∀ w, (Instr.index 64 (.agg #[.int .i64 (f : Int), .int .i64 (x : Int)]) (.int .i64 1)).run Try.prog w = .ok (.int .i64 (x : Int)) w := fun _ => by kernel_rfl
  have K := hid (Gb.new w (P : Int) (Q : Int) (G : Int) (H : Int))
  have hlen := said_length f x l
  have hby := said_byt (f := f) (x := x) hb
  have cS := hid (fun (o' : Option Addr) (c' : Nat) (w' : World) (r' : YRow w' o' (said f x l)) => Sum_any o' c' (said f x l) (by omega) hby w' r')
  have hs1 := sum_lt (said f x l)
  obtain ⟨n, hn⟩ : ∃ n, n = l.length := ⟨_, rfl⟩
  have HN := hid hn
  have R := hid r
  have HL := hid hlen
  have hSl : Hid (yv (said f x l) = yv (len4 f ++ len4 x) ++ yv l) := by show _ = _; unfold said; rw [yv_append]
  generalize said f x l = L at *
  rw [hlen] at cS
  rw [← hn] at hl cS ⊢
  have n0 : ¬ (Q : Int) = 0 := by omega
  have n1 : ¬ Q = 0 := by omega
  generalize sum L = S at *
  have E2 := hid (show ((S : Int)).tmod (Q : Int) = ((S % Q : Nat) : Int) by rw [← Int.ofNat_tmod])
  have E3 := hid (show ((S : Int)) % (Q : Int) = ((S % Q : Nat) : Int) by rw [← Int.natCast_emod])
  have F4 : Hid (yv (len4 f) = [.int .u8 ((f : Int) % 256), .int .u8 ((f : Int) / 256 % 256), .int .u8 ((f : Int) / 65536), .int .u8 ((f : Int) / 16777216)]) := by
    show _ = _
    rw [len4, show f / 65536 % 256 = f / 65536 by omega, show f / 16777216 % 256 = f / 16777216 by omega]; simp [yv4]
  have X4 : Hid (yv (len4 f ++ len4 x) = yv (len4 f) ++ [.int .u8 ((x : Int) % 256), .int .u8 ((x : Int) / 256 % 256), .int .u8 ((x : Int) / 65536), .int .u8 ((x : Int) / 16777216)]) := by
    show _ = _
    rw [yv_append, show len4 x = [x % 256, x / 256 % 256, x / 65536, x / 16777216] by rw [len4, show x / 65536 % 256 = x / 65536 by omega, show x / 16777216 % 256 = x / 16777216 by omega]]; simp [yv4]
  clear hn r hlen hby hb
  go_enter Try.func23, Try.ntmps23
  go_wp2
  go_loopw [10, 21] (fun v i wr => (Hid (Below (gw w (P : Int) (Q : Int) (G : Int) (H : Int)).heap.size (gw w (P : Int) (Q : Int) (G : Int) (H : Int)) wr)) ∧ ((i = .int .i64 0 ∧ v = .slice none 0 0) ∨ (∃ g cp : Nat, i = .int .i64 1 ∧ v = .slice (some ⟨g, 0, none⟩) 4 cp ∧ Hid (wr.ownsRow (w.heap.size + 1) 5 1 (.slice (some ⟨g, 0, none⟩) 4 cp) 4 (yv (len4 f)))) ∨ (∃ g cp : Nat, i = .int .i64 2 ∧ v = .slice (some ⟨g, 0, none⟩) 8 cp ∧ Hid (wr.ownsRow (w.heap.size + 1) 5 1 (.slice (some ⟨g, 0, none⟩) 8 cp) 8 (yv (len4 f ++ len4 x)))))) (fun v i wr => (3 - intOf i).toNat)
  case atStart => exact ⟨hid (Below.refl _ _), .inl ⟨rfl, rfl⟩⟩
  case round =>
    obtain ⟨HB, ⟨rfl, rfl⟩ | ⟨g, cp, rfl, rfl, HO⟩ | ⟨g, cp, rfl, rfl, HO⟩⟩ := hrel
    · have hsz := HB.out.size
      rw [gw_size] at hsz
      go_wp2_with (at_builtin; refine wpList_append_own0 _ rfl _ _ 37 rfl (w.heap.size + 1) 5 i0 (.int .u8 0) 1 1 Try.underlying37 hi hz0 hz1 hz2 rfl (by decide) _ 0 [] rfl (World.ownsRow_nil _ _ _ _) ⟨wr.heap.size, 0, none⟩ 4 4 [.int .u8 ((f : Int) % 256), .int .u8 ((f : Int) / 256 % 256), .int .u8 ((f : Int) / 65536), .int .u8 ((f : Int) / 16777216)] rfl rfl v_four (by simp [Value.oneCell']) (by omega) (by unfold maxLen; omega) (by omega) (by simp; omega) ?_; intro g cp w3 hown hgrow _ _; have HO3 := hid hown; have HB3 := hid (v_snoc HB.out (Nat.le_of_eq (gw_size _ _ _ _ _)) (World.ownsRow_nil wr (w.heap.size + 1) 5 1) hgrow); clear hown hgrow)
      go_roundw
      case rel => exact ⟨HB3, .inr (.inl ⟨g, cp, rfl, rfl, by have := HO3.out; rw [F4.out]; exact this⟩)⟩
      case measure => decide
    · have hsz := HB.out.size
      rw [gw_size] at hsz
      go_wp2_with (at_builtin; refine wpList_append_own0 _ rfl _ _ 37 rfl (w.heap.size + 1) 5 i0 (.int .u8 0) 1 1 Try.underlying37 hi hz0 hz1 hz2 rfl (by decide) _ 4 _ rfl (HO.out.alloc _) ⟨wr.heap.size, 0, none⟩ 4 4 [.int .u8 ((x : Int) % 256), .int .u8 ((x : Int) / 256 % 256), .int .u8 ((x : Int) / 65536), .int .u8 ((x : Int) / 16777216)] rfl rfl v_four (by simp [Value.oneCell']) (by omega) (by unfold maxLen; omega) (by omega) (by simp; omega) ?_; intro g' cp' w3 hown hgrow _ _; have HO3 := hid hown; have HB3 := hid (v_snoc HB.out (Nat.le_of_eq (gw_size _ _ _ _ _)) HO.out hgrow); clear hown hgrow)
      go_roundw
      case rel => exact ⟨HB3, .inr (.inr ⟨g', cp', rfl, rfl, by have := HO3.out; rw [X4.out]; exact this⟩)⟩
      case measure => decide
    · have hsz := HB.out.size
      rw [gw_size] at hsz
      have KR := hid (gw_gb HB.out)
      go_wp2_with (first
        | (at_builtin; refine wpList_append_y _ rfl _ _ 37 rfl (w.heap.size + 1) 5 i0 Try.underlying37 hi hz0 hz1 hz2 g 8 cp _ rfl HO.out o n c l rfl HN.out (yb' R.out KR.out.2) (by omega) hsz ?_; intro g' cp' w3 hown hB3; have HO3 := hid hown; have HB3 := hid (HB.out.trans (by rw [gw_size]; exact hB3)); clear hown hB3; have K3 := hid (gw_gb HB3.out); have R3 := hid (own_row (l := L) (by have := HO3.out; rw [← hSl.out] at this; exact this)))
        | (go_at_call 36; refine (cS.out _ _ _ R3.out).mono ?_; clear cS; rintro e w4 ⟨rfl, hB4⟩; have K4 := hid (K3.out.below hB4); obtain ⟨d0, d1, d2, d3⟩ := K4.out.cells; clear hB4))
      go_ret2
      exact ⟨by first | rfl | (rw [E3.out]; rfl) | (rw [E2.out]; rfl), K4.out.2⟩

end Go.Proofs.Ytpflkihagebmlab.Calls168
