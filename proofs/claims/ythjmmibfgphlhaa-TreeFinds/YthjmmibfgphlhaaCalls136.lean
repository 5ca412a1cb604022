/-
  Row by row from the leafs to the root, each handed to a function value: package tree's rows, whatever the function value is.
-/
import Derived.Test.YthjmmibfgphlhaaCalls135
import Derived.Shelf.Abstract
namespace Go.Proofs.Ythjmmibfgphlhaa.Calls136
set_option linter.unusedVariables false
open Go.ChangeShapes Go.WideShapes Go.ChangeAt Go.RowKit Go.Deep Go.Proofs.Ythjmmibfgphlhaa.Base Go.Proofs.Ythjmmibfgphlhaa.Base2 Go.Proofs.Ythjmmibfgphlhaa.Base7 Go.Proofs.Ythjmmibfgphlhaa.Base8 Go.Proofs.Ythjmmibfgphlhaa.Base9 Go.Proofs.Ythjmmibfgphlhaa.Num55 Go.Proofs.Ythjmmibfgphlhaa.Num60 Go.Proofs.Ythjmmibfgphlhaa.Calls126 Go.Proofs.Ythjmmibfgphlhaa.Calls133 Go.Proofs.Ythjmmibfgphlhaa.Calls134 Go.Proofs.Ythjmmibfgphlhaa.Calls135

/-- A leaf's node. -/
def lf (L : List (List Nat)) (i : Nat) : Nat := sum (lft (yr L i))

/-- The rows above leafs. -/
def rws (L : List (List Nat)) (k : Nat) : List Nat := rw L.length (lf L) k

theorem rws_length (L : List (List Nat)) (k : Nat) : (rws L k).length = mn L.length k := mu_length _ _

theorem rws_lt (L : List (List Nat)) (k : Nat) : ∀ x ∈ rws L k, x < 65536 := fun x hx => by
  obtain ⟨i, _, rfl⟩ := mu_mem hx
  exact nd_lt (fun i => Calls128.sum_lt _) k i

theorem rws_up (L : List (List Nat)) (k : Nat) : mu (((rws L k).length + 1) / 2) (up (rws L k)) = rws L (k + 1) := by
  rw [rws_length]
  exact (rw_up L.length (lf L) k).symm

theorem rws_zero (L : List (List Nat)) : rws L 0 = mu L.length (lf L) := rfl

/-- An own row of nodes, where it lies. -/
def OwnU (W : World) (b G cap : Nat) (r : List Nat) : Prop := W.ownsRow b 23 1 (.slice (some ⟨G, 0, none⟩) r.length cap) r.length (uv r)

theorem OwnU.row {W : World} {b G cap : Nat} {r : List Nat} (h : OwnU W b G cap r) : URow W (some ⟨G, 0, none⟩) r ∧ r.length ≤ cap := by
  obtain ⟨ao, c, h1, h2, h3⟩ := u_owns h
  simp only [Value.slice.injEq, true_and] at h1
  obtain ⟨h1, rfl⟩ := h1
  rw [← h1] at h3
  exact ⟨h3, h2⟩

theorem OwnU.below {W W' : World} {b G cap : Nat} {r : List Nat} (h : OwnU W b G cap r) (hB : Below W.heap.size W W') : OwnU W' b G cap r := v_below h hB

theorem OwnU.lt {W : World} {b G cap : Nat} {r : List Nat} (h : OwnU W b G cap r) : b ≤ G ∧ G < W.heap.size := World.ownsRow.lt h G rfl

/-- What the function value does with each row: J tells what it knows behind so many rows; its own blocks lie below b. -/
def Takes (g : Nat) (cb : Array Value) (L : List (List Nat)) (h B0 : Nat) (J : Nat → Nat → World → Prop) : Prop :=
  ∀ k b W G cap, k ≤ h → J k b W → b ≤ W.heap.size → OwnU W b G cap (rws L k) →
    Calls Try.prog g (#[.slice (some ⟨G, 0, none⟩) (rws L k).length cap] ++ cb) W fun e W' => e = .returned (.tuple #[]) ∧ J (k + 1) W'.heap.size W' ∧ OwnU W' b G cap (rws L k) ∧ Below B0 W W'

/-- What is known stays so while what is new is made. -/
def Stays (J : Nat → Nat → World → Prop) : Prop := ∀ k b W W', J k b W → b ≤ W.heap.size → Below b W W' → J k b W'

/-- On the way up. -/
def Rel (L : List (List Nat)) (h B0 : Nat) (J : Nat → Nat → World → Prop) (w : World) (v : Value) (wr : World) : Prop :=
  ∃ k G cap m b : Nat, v = .slice (some ⟨G, 0, none⟩) m cap ∧ m ≤ 64 ∧ 1 ≤ m ∧ k ≤ h ∧ Hid (m = (rws L k).length) ∧ Hid (OwnU wr b G cap (rws L k)) ∧ Hid (J (k + 1) wr.heap.size wr) ∧ Hid (Below B0 w wr) ∧ b ≤ wr.heap.size

set_option maxRecDepth 100000 in
set_option maxHeartbeats 2000000 in
theorem rows_any (g : Nat) (cb : Array Value) (eg : ∀ args w, (callFunc g args).run Try.prog w = .ok (.enter g args) w) (lo : Option Addr) (lc : Nat) (L : List (List Nat)) (hL : Lf L) (h B0 : Nat) (ht : Top L.length h) (J : Nat → Nat → World → Prop) (w : World) (hrow : YRows w lo L) (hB0 : B0 ≤ w.heap.size) (hJ0 : J 0 w.heap.size w) (hst : Stays J) (cT : Takes g cb L h B0 J) :
    Calls Try.prog 25 #[.slice lo L.length lc, .func (.func g) #[] cb] w fun e w' => e = .returned (.tuple #[]) ∧ J (h + 1) w'.heap.size w' ∧ Below B0 w w' := by
  obtain ⟨i0, hi, hz0, hz1, hz2⟩ := infoU32
  have HR := hid hrow
  have HJ0 := hid hJ0
  have HS := hid hst
  have HT := hid ht
  have CT := hid cT
  have HLs := hid hL.short
  have h1 := hL.one
  have h64 := hL.few
  obtain ⟨N, hN⟩ : ∃ N, N = L.length := ⟨_, rfl⟩
  have HN := hid hN
  rw [← hN] at h1 h64 ⊢
  have HB0 := hid hB0
  clear hN hrow hJ0 hst ht cT hL hB0
  go_enter Try.func25, Try.ntmps25
  go_wp2
  go_loopw [4, 9] (fun v i wr => ∃ (k : Nat) (vn : Value), vn = v ∧ i = .int .i64 (k : Int) ∧ k ≤ N ∧ Hid (wr.ownsRow w.heap.size 23 1 vn k (uv (mu k (lf L)))) ∧ Hid (Below w.heap.size w wr)) (fun v i wr => ((N : Int) - intOf i).toNat)
  case atStart => exact ⟨0, _, rfl, rfl, by omega, World.ownsRow_nil _ _ _ _, Below.refl _ _⟩
  case round =>
    obtain ⟨k, vn, hvn, rfl, hk, hO, hB⟩ := hrel
    subst hvn
    by_cases hgo : k < N
    · have hgo' : (k : Int) < (N : Int) := by omega
      have hkl : Hid (k < L.length) := by have := HN.out; show k < L.length; omega
      rcases lo with _ | ad
      · exact (yrows_none HR.out hkl.out).elim
      obtain ⟨bo, cc, c1, hr1, hby, _, _⟩ := (yrb HR.out hB.out).2 ad rfl k hkl.out
      have hsh := HLs.out _ (yr_mem hkl.out)
      have hsn := hid (show uv (mu (k + 1) (lf L)) = uv (mu k (lf L)) ++ [.int .u32 ((lf L k : Nat) : Int)] by rw [mu_succ, uv_snoc])
      rw [show lf L k = sum (lft (yr L k)) from rfl] at hsn
      generalize yr L k = q at *
      have cL := hid (leafText_any bo cc q hsh wr hr1)
      have hql := lft_length q
      have hqb := lft_byt hby
      clear hby hr1
      generalize lft q = t at *
      have cN := hid (fun bo c w' (h : YRow w' bo t) => node_any bo c t (by omega) hqb w' h)
      generalize sum t = s at *
      clear hql hqb hsh
      go_wp2_with (first
        | (go_at_call 43; refine cL.out.mono ?_; rintro e w3 ⟨⟨b3, c3, rfl, hcb, hr⟩, hB3⟩; have HR3 := hid hr; have HB3 := hid (below_trans hB.out hB3); have HO3 := hid (v_below hO.out hB3); clear hr hB3 hcb)
        | (go_at_call 36; refine (cN.out b3 c3 _ HR3.out).mono ?_; rintro e w4 ⟨rfl, hB4⟩; have HB4 := hid (below_trans HB3.out hB4); have HO4 := hid (v_below HO3.out hB4); have hsz4 := HB4.out.size; clear hB4)
        | (at_builtin; refine wpList_append_own _ rfl _ _ 31 rfl w.heap.size 23 i0 (.int .u32 0) 1 4 Try.underlying31 hi hz0 hz1 hz2 rfl (by decide) vn k _ rfl (HO4.out.alloc _) ⟨w4.heap.size, 0, none⟩ 1 1 [.int .u32 (s : Int)] rfl rfl v_one (by simp [Value.oneCell']) (by unfold maxLen; omega) (by omega) (by simp; omega) ?_; intro v' w5 hown5 hgrow5 _; have HO5 := hid hown5; have HB5 := hid (v_snoc HB4.out (Nat.le_refl _) HO4.out hgrow5); clear hown5 hgrow5))
      go_roundw
      case rel => exact ⟨k + 1, _, rfl, by simp, by omega, by show World.ownsRow _ _ _ _ _ _ _; rw [hsn.out]; exact HO5.out, HB5⟩
      case measure => exact measK hgo
    · have hgo' : ¬ (k : Int) < (N : Int) := by omega
      obtain rfl : k = N := by omega
      obtain ⟨G, cp, rfl, _⟩ := World.ownsRow.form hO.out (by omega)
      have hO2 : Hid (OwnU wr w.heap.size G cp (rws L 0)) := by
        have := hO.out
        show OwnU _ _ _ _ _
        unfold OwnU
        rw [rws_length, rws_zero]
        show World.ownsRow _ _ _ _ (.slice _ (mn L.length 0) _) (mn L.length 0) _
        rw [show mn L.length 0 = L.length from rfl, ← HN.out]
        exact this
      have hl0 := hid (show k = (rws L 0).length by rw [rws_length]; exact HN.out)
      have cT0 := CT.out 0 w.heap.size wr G cp (Nat.zero_le _) (HS.out _ _ _ _ HJ0.out (Nat.le_refl _) hB.out) hB.out.size hO2.out
      rw [← hl0.out] at cT0
      have HBB := hid (hB.out.mono HB0.out)
      clear hO hO2 HJ0
      go_wp2_with (go_at_fn g; refine cT0.mono ?_; rintro e w1 ⟨rfl, hJ1, hO1, hB1⟩)
      have HRel : Rel L h B0 J w (.slice (some ⟨G, 0, none⟩) k cp) w1 := ⟨0, G, cp, k, w.heap.size, rfl, h64, h1, Nat.zero_le _, hl0, hO1, hJ1, HBB.out.trans hB1, Nat.le_trans hO1.lt.1 (Nat.le_of_lt hO1.lt.2)⟩
      clear cT0 hJ1 hO1 hB1 hl0 hB HBB
      obtain ⟨W1, hW1⟩ : ∃ W1, W1 = w1 := ⟨_, rfl⟩
      rw [← hW1] at HRel ⊢
      clear hW1
      go_loopw [4] (fun v wr => Rel L h B0 J w v wr) (fun v wr => slenV v)
      case atStart => exact HRel
      case round =>
        obtain ⟨q, G2, c2, m, b, rfl, hm64, hm1, hq, hm, hO, hJ, hB, hb⟩ := hrel
        by_cases hgo2 : 1 < m
        · have hgo2' : (1 : Int) < (m : Int) := by omega
          have hqh : q + 1 ≤ h := by
            rcases Nat.lt_or_ge q h with e | e
            · exact e
            · obtain rfl : q = h := by omega
              have := HT.out.1
              have h2 := hm.out
              rw [rws_length] at h2
              omega
          have hr := hO.out.row
          have cA := above_any (some ⟨G2, 0, none⟩) c2 (rws L q) (by rw [← hm.out]; exact hgo2) (by rw [← hm.out]; exact hm64) hr.2 (rws_lt L q) _ hr.1
          rw [rws_up, ← hm.out] at cA
          have hm2 : (rws L (q + 1)).length = (m + 1) / 2 := by
            rw [hm.out, rws_length, rws_length]; rfl
          have cU := hid (fun w3 G3 c3 (hB3 : Below wr.heap.size wr w3) (hO3 : OwnU w3 wr.heap.size G3 c3 (rws L (q + 1))) => CT.out (q + 1) wr.heap.size w3 G3 c3 hqh (HS.out _ _ _ _ hJ.out (Nat.le_refl _) hB3) hB3.size hO3)
          have hB0 := HB0.out
          have hm3 : (m + 1) / 2 < m := by omega
          have hBw := hid (show B0 ≤ wr.heap.size from Nat.le_trans HB0.out hB.out.size)
          clear hr hm hO
          have HM2 := hid hm2
          clear hm2
          go_wp2_with (first
            | (go_at_call 44; refine cA.mono ?_; rintro e w3 ⟨⟨G3, c3, rfl, hO3⟩, hB3⟩; have cU3 := cU.out w3 G3 c3 hB3 hO3; have HB3 := hid hB3; clear hB3 hO3)
            | (go_at_fn g; refine cU3.mono ?_; rintro e w4 ⟨rfl, hJ4, hO4, hB4⟩; have HJ4 := hid hJ4; have HO4 := hid hO4; have HB4 := hid hB4; clear hJ4 hO4 hB4))
          go_roundw
          case rel => exact ⟨q + 1, G3, c3, (rws L (q + 1)).length, wr.heap.size, rfl, by rw [HM2.out]; omega, by rw [HM2.out]; omega, hqh, rfl, HO4, HJ4, hid ((hB.out.trans (HB3.out.mono hBw.out)).trans HB4.out), Nat.le_trans HB3.out.size HB4.out.size⟩
          case measure => show (rws L (q + 1)).length < m; rw [HM2.out]; exact hm3
        · have hgo2' : ¬ (1 : Int) < (m : Int) := by omega
          have hqh : q = h := by
            rcases Nat.lt_or_ge q h with e | e
            · have := HT.out.2 q e
              have h2 := hm.out
              rw [rws_length] at h2
              omega
            · omega
          subst hqh
          go_wp2
          first | go_end0 | refine bodyPost_ret (results_none rfl _ _ _) rfl ?_
          exact ⟨rfl, hJ.out, hB.out⟩

end Go.Proofs.Ythjmmibfgphlhaa.Calls136
