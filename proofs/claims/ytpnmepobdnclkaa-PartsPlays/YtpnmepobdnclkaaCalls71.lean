/-
  What is wrong with points, by the program and by the document.
-/
import Derived.Test.YtpnmepobdnclkaaCalls70
import Derived.Laws.EntriesVeiled
namespace Go.Proofs.Ytpnmepobdnclkaa.Calls71
set_option linter.unusedVariables false
open Go.ChangeShapes Go.WideShapes Go.ChangeAt Go.RowKit Go.Deep Go.Proofs.Ytpnmepobdnclkaa.Base Go.Proofs.Ytpnmepobdnclkaa.Num Go.Proofs.Ytpnmepobdnclkaa.Num13 Go.Proofs.Ytpnmepobdnclkaa.Num16 Go.Proofs.Ytpnmepobdnclkaa.Num17 Go.Proofs.Ytpnmepobdnclkaa.Num34 Go.Proofs.Ytpnmepobdnclkaa.Num35 Go.Proofs.Ytpnmepobdnclkaa.Base4 Go.Proofs.Ytpnmepobdnclkaa.Calls56 Go.Proofs.Ytpnmepobdnclkaa.Calls57 Go.Proofs.Ytpnmepobdnclkaa.Calls69 Go.Proofs.Ytpnmepobdnclkaa.Calls70

theorem two_boxes (W : World) (v u : Value) (t t2 : TypeId) : ((W.alloc (.cells #[v] t)).alloc (.cells #[u] t2)).cell? ⟨W.heap.size, 0, none⟩ = some v ∧ ((W.alloc (.cells #[v] t)).alloc (.cells #[u] t2)).cell? ⟨W.heap.size + 1, 0, none⟩ = some u := by
  have h1 := ((BoxC.new W t #[v]).alloc (.cells #[u] t2)).cell 0
  have h2 := (BoxC.new (W.alloc (.cells #[v] t)) t2 #[u]).cell 0
  rw [World.size_alloc] at h2
  exact ⟨h1, h2⟩

theorem al {w W : World} (h : Below w.heap.size w W) (o : Obj) : Below w.heap.size w (W.alloc o) := h.alloc h.size o

theorem InP.small {p : Int} {l : List (Int × Int)} {k : Nat} (h : InP p l k) (hp : p ≤ 251) : InP 251 l k := fun j hj => by have := h j hj; omega

set_option maxRecDepth 100000 in
theorem checkPoints_any (p : Int) (ao : Option Addr) (cap : Nat) (l : List (Int × Int)) (hm : l.length ≤ 9223372036854775807) (c : Int) (hc : PtC p l c) (w : World) (hrow : PRow w ao l) (hli : Lies w ao l) :
    Calls Try.prog 58 #[.int .i64 p, .slice ao l.length cap] w fun e w' => e = .returned (.int .i64 c) ∧ Below w.heap.size w w' := by
  rcases hc with ⟨hc, h0⟩ | ⟨hc, ⟨hl, rfl⟩ | ⟨hl, hc2⟩⟩
  · have cP := checkPrime_any p c hc w
    generalize l.length = n at *
    have h1 : (c != 0) = true := by simpa using h0
    have h2 : (c == 0) = false := by simpa using h0
    clear hc hrow
    go_enter Try.func58, Try.ntmps58
    go_wp2_with (go_at_call 54; refine cP.mono ?_; rintro e w1 ⟨rfl, hB⟩)
    go_ret
    exact ⟨rfl, hB⟩
  · have cP := checkPrime_any p 0 hc w
    generalize l.length = n at *
    have hl' : (13 : Int) < (n : Int) := by omega
    clear hc hrow
    go_enter Try.func58, Try.ntmps58
    go_wp2_with (go_at_call 54; refine cP.mono ?_; rintro e w1 ⟨rfl, hB⟩)
    go_ret
    exact ⟨rfl, hB⟩
  · have cP := checkPrime_any p 0 hc w
    have cO := fun w => outside_any p w
    obtain ⟨P, rfl, _, hP2⟩ := hc.ok
    obtain ⟨n, hn⟩ : ∃ n, n = l.length := ⟨_, rfl⟩
    have hl' : decide ((13 : Int) < (n : Int)) = false := by simp; omega
    rcases hc2 with ⟨hI, rfl⟩ | ⟨hI, hc3⟩
    · have cF := fun w1 (hB : Below w.heap.size w w1) => ptsContains_any ao cap l w1.heap.size (w1.heap.size + 1) (P : Int) (by omega) true (by simp [hI]) ((w1.alloc (.cells #[.int .i64 (P : Int)] 2)).alloc (.cells #[.func (.func 69) #[] #[.pointer (some ⟨w1.heap.size, 0, none⟩)]] 51)) (prow_below hrow (al (al hB _) _) hli) (hli.below (al (al hB _) _)) (two_boxes _ _ _ _ _).1 (two_boxes _ _ _ _ _).2
      simp only [← hn] at cF hm ⊢
      clear hc hrow hI hli hn hl
      go_enter Try.func58, Try.ntmps58
      go_wp2_with (first
        | (go_at_call 54; refine cP.mono ?_; rintro e w1 ⟨rfl, hB⟩)
        | (go_at_call 55; refine (cO _).mono ?_; rintro e w2 ⟨rfl, hw⟩; subst w2)
        | (go_at_call 47; refine (cF w1 hB).mono ?_; rintro e w3 ⟨rfl, hB3⟩))
      go_ret
      exact ⟨rfl, below_trans (al (al hB _) _) hB3⟩
    · have cF := fun w1 (hB : Below w.heap.size w w1) => ptsContains_any ao cap l w1.heap.size (w1.heap.size + 1) (P : Int) (by omega) false (by simp [hI]) ((w1.alloc (.cells #[.int .i64 (P : Int)] 2)).alloc (.cells #[.func (.func 69) #[] #[.pointer (some ⟨w1.heap.size, 0, none⟩)]] 51)) (prow_below hrow (al (al hB _) _) hli) (hli.below (al (al hB _) _)) (two_boxes _ _ _ _ _).1 (two_boxes _ _ _ _ _).2
      have hS : ∃ b : Bool, (b = false ↔ Dis l l.length) ∧ c = (if b = true then 4 else 0) := by
        rcases hc3 with ⟨h, rfl⟩ | ⟨h, rfl⟩
        · exact ⟨true, by simp [h], rfl⟩
        · exact ⟨false, by simp [h], rfl⟩
      obtain ⟨b, hb, hcb⟩ := hS
      have cS := fun w' (hB : Below w.heap.size w w') => samePlace_any ao cap l hl (Calls71.InP.small hI (by omega)) b hb w' (prow_below hrow hB hli) (hli.below hB)
      simp only [← hn] at cF cS hm ⊢
      clear hc hrow hI hli hn hl hc3 hb
      cases b
      · rw [hcb]
        go_enter Try.func58, Try.ntmps58
        go_wp2_with (first
          | (go_at_call 54; refine cP.mono ?_; rintro e w1 ⟨rfl, hB⟩)
          | (go_at_call 55; refine (cO _).mono ?_; rintro e w2 ⟨rfl, hw⟩; subst w2)
          | (go_at_call 47; refine (cF w1 hB).mono ?_; rintro e w3 ⟨rfl, hB3⟩)
          | (go_at_call 71; refine (cS _ (below_trans (al (al hB _) _) hB3)).mono ?_; rintro e w4 ⟨rfl, hB4⟩))
        go_ret
        exact ⟨rfl, below_trans (below_trans (al (al hB _) _) hB3) hB4⟩
      · rw [hcb]
        go_enter Try.func58, Try.ntmps58
        go_wp2_with (first
          | (go_at_call 54; refine cP.mono ?_; rintro e w1 ⟨rfl, hB⟩)
          | (go_at_call 55; refine (cO _).mono ?_; rintro e w2 ⟨rfl, hw⟩; subst w2)
          | (go_at_call 47; refine (cF w1 hB).mono ?_; rintro e w3 ⟨rfl, hB3⟩)
          | (go_at_call 71; refine (cS _ (below_trans (al (al hB _) _) hB3)).mono ?_; rintro e w4 ⟨rfl, hB4⟩))
        go_ret
        exact ⟨rfl, below_trans (below_trans (al (al hB _) _) hB3) hB4⟩

end Go.Proofs.Ytpnmepobdnclkaa.Calls71
