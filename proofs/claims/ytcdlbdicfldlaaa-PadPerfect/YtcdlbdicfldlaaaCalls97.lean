/-
  What is wrong with a cipher: the document's answer, and package pad's.
-/
import Derived.Test.YtcdlbdicfldlaaaCalls96
namespace Go.Proofs.Ytcdlbdicfldlaaa.Calls97
set_option linter.unusedVariables false
open Go.ChangeShapes Go.WideShapes Go.ChangeAt Go.RowKit Go.Deep Go.Proofs.Ytcdlbdicfldlaaa.Base Go.Proofs.Ytcdlbdicfldlaaa.Base2 Go.Proofs.Ytcdlbdicfldlaaa.Num16 Go.Proofs.Ytcdlbdicfldlaaa.Num17 Go.Proofs.Ytcdlbdicfldlaaa.Num34 Go.Proofs.Ytcdlbdicfldlaaa.Base4 Go.Proofs.Ytcdlbdicfldlaaa.Base5 Go.Proofs.Ytcdlbdicfldlaaa.Calls96

def BigC (L : List (List Int)) : Prop := 16 < L.length ∨ ∃ r ∈ L, 16 < r.length

def NoC (L : List (List Int)) : Prop := L.length = 0 ∨ (rw' L 0).length = 0

def UnC (L : List (List Int)) : Prop := ∃ r ∈ L, r.length ≠ (rw' L 0).length

def OutC (L : List (List Int)) : Prop := ∃ r ∈ L, ∃ x ∈ r, x < 0 ∨ 4096 ≤ x

/-- The code of a cipher. -/
def CiC (L : List (List Int)) (c : Int) : Prop :=
  (BigC L ∧ c = 1) ∨ (¬ BigC L ∧ ((NoC L ∧ c = 5) ∨ (¬ NoC L ∧ ((UnC L ∧ c = 4) ∨ (¬ UnC L ∧ ((OutC L ∧ c = 2) ∨ (¬ OutC L ∧ c = 0)))))))

theorem cic_ex (L : List (List Int)) : ∃ c, CiC L c := by
  rcases Classical.em (BigC L) with h1 | h1
  · exact ⟨1, .inl ⟨h1, rfl⟩⟩
  rcases Classical.em (NoC L) with h2 | h2
  · exact ⟨5, .inr ⟨h1, .inl ⟨h2, rfl⟩⟩⟩
  rcases Classical.em (UnC L) with h3 | h3
  · exact ⟨4, .inr ⟨h1, .inr ⟨h2, .inl ⟨h3, rfl⟩⟩⟩⟩
  rcases Classical.em (OutC L) with h4 | h4
  · exact ⟨2, .inr ⟨h1, .inr ⟨h2, .inr ⟨h3, .inl ⟨h4, rfl⟩⟩⟩⟩⟩
  · exact ⟨0, .inr ⟨h1, .inr ⟨h2, .inr ⟨h3, .inr ⟨h4, rfl⟩⟩⟩⟩⟩

theorem CiC.big {L : List (List Int)} {c : Int} (h : CiC L c) (hb : BigC L) : 1 = c := by
  rcases h with ⟨_, h⟩ | ⟨h, _⟩
  · exact h.symm
  · exact absurd hb h

theorem CiC.none {L : List (List Int)} {c : Int} (h : CiC L c) (h1 : ¬ BigC L) (h2 : NoC L) : 5 = c := by
  rcases h with ⟨h, _⟩ | ⟨_, ⟨_, h⟩ | ⟨h, _⟩⟩
  · exact absurd h h1
  · exact h.symm
  · exact absurd h2 h

theorem CiC.un {L : List (List Int)} {c : Int} (h : CiC L c) (h1 : ¬ BigC L) (h2 : ¬ NoC L) (h3 : UnC L) : 4 = c := by
  rcases h with ⟨h, _⟩ | ⟨_, ⟨h, _⟩ | ⟨_, ⟨_, h⟩ | ⟨h, _⟩⟩⟩
  · exact absurd h h1
  · exact absurd h h2
  · exact h.symm
  · exact absurd h3 h

theorem CiC.out {L : List (List Int)} {c : Int} (h : CiC L c) (h1 : ¬ BigC L) (h2 : ¬ NoC L) (h3 : ¬ UnC L) (h4 : OutC L) : 2 = c := by
  rcases h with ⟨h, _⟩ | ⟨_, ⟨h, _⟩ | ⟨_, ⟨h, _⟩ | ⟨_, ⟨_, h⟩ | ⟨h, _⟩⟩⟩⟩
  · exact absurd h h1
  · exact absurd h h2
  · exact absurd h h3
  · exact h.symm
  · exact absurd h4 h

theorem CiC.fine {L : List (List Int)} {c : Int} (h : CiC L c) (h1 : ¬ BigC L) (h2 : ¬ NoC L) (h3 : ¬ UnC L) (h4 : ¬ OutC L) : 0 = c := by
  rcases h with ⟨h, _⟩ | ⟨_, ⟨h, _⟩ | ⟨_, ⟨h, _⟩ | ⟨_, ⟨h, _⟩ | ⟨_, h⟩⟩⟩⟩
  · exact absurd h h1
  · exact absurd h h2
  · exact absurd h h3
  · exact absurd h h4
  · exact h.symm

/-- What a cipher is. -/
structure Ci (L : List (List Int)) : Prop where
  K1 : 1 ≤ L.length
  K2 : L.length ≤ 16
  M1 : 1 ≤ (rw' L 0).length
  M2 : (rw' L 0).length ≤ 16
  even : ∀ j, j < L.length → (rw' L j).length = (rw' L 0).length
  bd : ∀ r ∈ L, ∀ x ∈ r, 0 ≤ x ∧ x < 4096

theorem CiC.ok {L : List (List Int)} (h : CiC L 0) : Ci L := by
  rcases h with ⟨_, h⟩ | ⟨h1, ⟨_, h⟩ | ⟨h2, ⟨_, h⟩ | ⟨h3, ⟨_, h⟩ | ⟨h4, _⟩⟩⟩⟩
  · cases h
  · cases h
  · cases h
  · cases h
  · have hK : 1 ≤ L.length := by
      have : ¬ L.length = 0 := fun e => h2 (.inl e)
      omega
    refine ⟨hK, ?_, ?_, ?_, fun j hj => ?_, fun r hr x hx => ?_⟩
    · have : ¬ 16 < L.length := fun e => h1 (.inl e)
      omega
    · have : ¬ (rw' L 0).length = 0 := fun e => h2 (.inr e)
      omega
    · have : ¬ 16 < (rw' L 0).length := fun e => h1 (.inr ⟨_, rw_mem (by omega), e⟩)
      omega
    · exact Classical.byContradiction fun e => h3 ⟨_, rw_mem hj, e⟩
    · have : ¬ (x < 0 ∨ 4096 ≤ x) := fun e => h4 ⟨r, hr, x, hx, e⟩
      omega

theorem zero_addr (ad : Addr) : ad.add 0 = ad := by simp [Addr.add]

set_option maxRecDepth 100000 in
set_option maxHeartbeats 1000000 in
theorem refCipher_any (ao : Option Addr) (cap : Nat) (L : List (List Int)) (c : Int) (hc : CiC L c) (hl : L.length ≤ 9223372036854775807) (w : World) (hrow : RRow w ao L) :
    Calls Try.prog 10 #[.slice ao L.length cap] w fun e w' => e = .returned (.int .i64 c) ∧ w' = w := by
  obtain ⟨N, hN⟩ : ∃ N, N = L.length := ⟨_, rfl⟩
  have HN : Hid (N = L.length) := hN
  have HC := hid hc
  have HR := hid hrow
  rw [← hN] at hl ⊢
  clear hN hc hrow
  by_cases hbig : 16 < N
  · have hb' : (16 : Int) < (N : Int) := by omega
    have e : Hid (1 = c) := HC.out.big (.inl (by rw [← HN.out]; exact hbig))
    go_enter Try.func10, Try.ntmps10
    go_wp2
    go_ret
    exact ⟨ret_int e.out, rfl⟩
  have hb' : ¬ (16 : Int) < (N : Int) := by omega
  go_enter Try.func10, Try.ntmps10
  go_wp2
  go_loop [16] (fun i => ∃ k : Nat, i = .int .i64 (k : Int) ∧ k ≤ N ∧ Hid (∀ j, j < k → (rw' L j).length ≤ 16)) (fun i => ((N : Int) - intOf i).toNat)
  case atStart => exact ⟨0, rfl, by omega, fun j hj => by omega⟩
  case round =>
    obtain ⟨k, rfl, hk, hA⟩ := hrel
    by_cases hgo : k < N
    · have hgo' : (k : Int) < (N : Int) := by omega
      have hkl : Hid (k < L.length) := by have := HN.out; show k < L.length; omega
      rcases ao with _ | ad
      · exact (rrow_none HR.out hkl.out).elim
      · obtain ⟨bo, cc, c1, hr, hlc, hlm⟩ := HR.out.2 ad rfl k hkl.out
        obtain ⟨n, hn⟩ : ∃ n, (rw' L k).length = n := ⟨_, rfl⟩
        rw [hn] at c1 hlm
        have HE := hid hn
        clear hn hr hlc
        by_cases hx : 16 < n
        · have hx' : (16 : Int) < (n : Int) := by omega
          have e : Hid (1 = c) := HC.out.big (.inr ⟨_, rw_mem hkl.out, by rw [HE.out]; exact hx⟩)
          go_wp2
          go_ret
          exact ⟨ret_int e.out, rfl⟩
        · have hx' : ¬ (16 : Int) < (n : Int) := by omega
          have hA2 : Hid (∀ j, j < k + 1 → (rw' L j).length ≤ 16) := fun j hj => by
            by_cases e : j = k
            · subst e; rw [HE.out]; omega
            · exact hA.out j (by omega)
          go_wp2
          go_round
          case rel => exact ⟨k + 1, by simp, by omega, hA2⟩
          case measure => exact measK hgo
    · have hgo' : ¬ (k : Int) < (N : Int) := by omega
      obtain rfl : k = N := by omega
      have hnb : Hid (¬ BigC L) := fun h => by
        rcases h with h | ⟨r, hr, h⟩
        · rw [← HN.out] at h; omega
        · obtain ⟨j, hj, rfl⟩ := rw_of_mem hr
          have := hA.out j (by rw [HN.out]; exact hj)
          omega
      clear hA
      by_cases h0 : k = 0
      · have h0' : ((k : Int) == 0) = true := by simp; omega
        have e : Hid (5 = c) := HC.out.none hnb.out (.inl (by rw [← HN.out]; exact h0))
        subst h0
        go_wp2
        go_ret
        exact ⟨ret_int e.out, rfl⟩
      · have h0' : ((k : Int) == 0) = false := by simp; omega
        have hkl : Hid (0 < L.length) := by have := HN.out; show 0 < L.length; omega
        rcases ao with _ | ad
        · exact (rrow_none HR.out hkl.out).elim
        · obtain ⟨b0, cc0, c0, hr0, hlc0, hlm0⟩ := HR.out.2 ad rfl 0 hkl.out
          rw [zero_addr] at c0
          obtain ⟨n0, hn0⟩ : ∃ n0, (rw' L 0).length = n0 := ⟨_, rfl⟩
          rw [hn0] at c0 hlm0
          have HE0 := hid hn0
          clear hn0 hr0 hlc0
          by_cases hz : n0 = 0
          · have hz' : ((n0 : Int) == 0) = true := by simp; omega
            have e : Hid (5 = c) := HC.out.none hnb.out (.inr (by rw [HE0.out]; exact hz))
            subst hz
            go_wp2
            go_ret
            exact ⟨ret_int e.out, rfl⟩
          · have hz' : ((n0 : Int) == 0) = false := by simp; omega
            have hno : Hid (¬ NoC L) := fun h => by
              rcases h with h | h
              · exact h0 (by rw [HN.out]; exact h)
              · exact hz (by rw [← HE0.out]; exact h)
            go_wp2
            go_loop [36] (fun i => ∃ j : Nat, i = .int .i64 (j : Int) ∧ j ≤ k ∧ Hid (∀ i, i < j → (rw' L i).length = n0)) (fun i => ((k : Int) - intOf i).toNat)
            case atStart => exact ⟨0, rfl, by omega, fun j hj => by omega⟩
            case round =>
              obtain ⟨j, rfl, hj, hA⟩ := hrel
              by_cases hgo2 : j < k
              · have hgo2' : (j : Int) < (k : Int) := by omega
                have hjl : Hid (j < L.length) := by have := HN.out; show j < L.length; omega
                obtain ⟨bo, cc, c1, hr, hlc, hlm⟩ := HR.out.2 ad rfl j hjl.out
                obtain ⟨n, hn⟩ : ∃ n, (rw' L j).length = n := ⟨_, rfl⟩
                rw [hn] at c1 hlm
                have HE := hid hn
                clear hn hr hlc
                by_cases hx : n = n0
                · subst hx
                  have hA2 : Hid (∀ i, i < j + 1 → (rw' L i).length = n) := fun i hi => by
                    by_cases e : i = j
                    · subst e; exact HE.out
                    · exact hA.out i (by omega)
                  go_wp2
                  go_round
                  case rel => exact ⟨j + 1, by simp, by omega, hA2⟩
                  case measure => exact measK hgo2
                · have hx' : ¬ (n : Int) = (n0 : Int) := by omega
                  have e : Hid (4 = c) := HC.out.un hnb.out hno.out ⟨_, rw_mem hjl.out, by rw [HE.out, HE0.out]; exact hx⟩
                  go_wp2
                  go_ret
                  exact ⟨ret_int e.out, rfl⟩
              · have hgo2' : ¬ (j : Int) < (k : Int) := by omega
                obtain rfl : j = k := by omega
                have hun : Hid (¬ UnC L) := fun h => by
                  obtain ⟨r, hr, h⟩ := h
                  obtain ⟨i, hi, rfl⟩ := rw_of_mem hr
                  exact h (by rw [hA.out i (by rw [HN.out]; exact hi), HE0.out])
                clear hA
                go_wp2
                go_loop [50] (fun i => ∃ i' : Nat, i = .int .i64 (i' : Int) ∧ i' ≤ j ∧ Hid (∀ i, i < i' → ∀ x ∈ rw' L i, ¬ (x < 0 ∨ 4096 ≤ x))) (fun i => ((j : Int) - intOf i).toNat)
                case atStart => exact ⟨0, rfl, by omega, fun j hj => by omega⟩
                case round =>
                  obtain ⟨i, rfl, hi, hA⟩ := hrel
                  by_cases hgo3 : i < j
                  · have hgo3' : (i : Int) < (j : Int) := by omega
                    have hil : Hid (i < L.length) := by have := HN.out; show i < L.length; omega
                    obtain ⟨bo, cc, c1, hr, hlc, hlm⟩ := HR.out.2 ad rfl i hil.out
                    obtain ⟨n, hn⟩ : ∃ n, (rw' L i).length = n := ⟨_, rfl⟩
                    rw [hn] at c1 hlm
                    have HE := hid hn
                    have hr' := hid hr
                    clear hn hr hlc
                    go_wp2
                    go_loop [56] (fun m => ∃ m' : Nat, m = .int .i64 (m' : Int) ∧ m' ≤ n ∧ Hid (∀ q, q < m' → ¬ (co (rw' L i) q < 0 ∨ 4096 ≤ co (rw' L i) q))) (fun i => ((n : Int) - intOf i).toNat)
                    case atStart => exact ⟨0, rfl, by omega, fun j hj => by omega⟩
                    case round =>
                      obtain ⟨m, rfl, hm, hB⟩ := hrel
                      by_cases hgo4 : m < n
                      · have hgo4' : (m : Int) < (n : Int) := by omega
                        have hml : Hid (m < (rw' L i).length) := by show m < _; rw [HE.out]; exact hgo4
                        rcases bo with _ | bd
                        · exact (irow_none hr'.out hml.out).elim
                        · have c2 := hr'.out.2 bd rfl m hml.out
                          obtain ⟨x, hx⟩ : ∃ x, co (rw' L i) m = x := ⟨_, rfl⟩
                          have hxm : Hid (x ∈ rw' L i) := by show x ∈ _; rw [← hx]; exact co_mem hml.out
                          rw [hx] at c2
                          have HX := hid hx
                          clear hx
                          by_cases hx0 : x < 0
                          · have e : Hid (2 = c) := HC.out.out hnb.out hno.out hun.out ⟨_, rw_mem hil.out, x, hxm.out, .inl hx0⟩
                            go_wp2
                            go_ret
                            exact ⟨ret_int e.out, rfl⟩
                          · have hx0' : decide (x < 0) = false := by simpa using hx0
                            by_cases hx1 : 4096 ≤ x
                            · have e : Hid (2 = c) := HC.out.out hnb.out hno.out hun.out ⟨_, rw_mem hil.out, x, hxm.out, .inr hx1⟩
                              go_wp2
                              go_ret
                              exact ⟨ret_int e.out, rfl⟩
                            · have hx1' : decide (4096 ≤ x) = false := by simpa using hx1
                              have hB2 : Hid (∀ q, q < m + 1 → ¬ (co (rw' L i) q < 0 ∨ 4096 ≤ co (rw' L i) q)) := fun q hq => by
                                by_cases e : q = m
                                · subst e; rw [HX.out]; omega
                                · exact hB.out q (by omega)
                              go_wp2
                              go_round
                              case rel => exact ⟨m + 1, by simp, by omega, hB2⟩
                              case measure => exact measK hgo4
                      · have hgo4' : ¬ (m : Int) < (n : Int) := by omega
                        obtain rfl : m = n := by omega
                        have hA2 : Hid (∀ i', i' < i + 1 → ∀ x ∈ rw' L i', ¬ (x < 0 ∨ 4096 ≤ x)) := fun i' hi' x hx => by
                          by_cases e : i' = i
                          · subst e
                            obtain ⟨q, hq, e⟩ := List.getElem_of_mem hx
                            have e2 : co (rw' L i') q = x := by simp [co, List.getD, hq, e]
                            rw [← e2]
                            exact hB.out q (by rw [← HE.out]; exact hq)
                          · exact hA.out i' (by omega) x hx
                        go_wp2
                        go_round
                        case rel => exact ⟨i + 1, by simp, by omega, hA2⟩
                        case measure => exact measK hgo3
                  · have hgo3' : ¬ (i : Int) < (j : Int) := by omega
                    obtain rfl : i = j := by omega
                    have e : Hid (0 = c) := HC.out.fine hnb.out hno.out hun.out (fun h => by
                      obtain ⟨r, hr, x, hx, h⟩ := h
                      obtain ⟨i', hi', rfl⟩ := rw_of_mem hr
                      exact hA.out i' (by rw [HN.out]; exact hi') x hx h)
                    go_wp2
                    go_ret
                    exact ⟨ret_int e.out, rfl⟩

end Go.Proofs.Ytcdlbdicfldlaaa.Calls97
