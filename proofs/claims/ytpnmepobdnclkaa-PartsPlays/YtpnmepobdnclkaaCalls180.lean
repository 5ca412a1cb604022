/-
  The table of all shares, as it grows: rows of the call's own.
-/
import Derived.Test.YtpnmepobdnclkaaCalls178
import Derived.Test.YtpnmepobdnclkaaCalls179
import Derived.Test.YtpnmepobdnclkaaCalls59
import Derived.Test.YtpnmepobdnclkaaBase7
namespace Go.Proofs.Ytpnmepobdnclkaa.Calls180
set_option linter.unusedVariables false
open Go.ChangeShapes Go.WideShapes Go.ChangeAt Go.RowKit Go.Deep Go.Proofs.Ytpnmepobdnclkaa.Base Go.Proofs.Ytpnmepobdnclkaa.Base2 Go.Proofs.Ytpnmepobdnclkaa.Base7 Go.Proofs.Ytpnmepobdnclkaa.Num Go.Proofs.Ytpnmepobdnclkaa.Num13 Go.Proofs.Ytpnmepobdnclkaa.Num16 Go.Proofs.Ytpnmepobdnclkaa.Num17 Go.Proofs.Ytpnmepobdnclkaa.Num34 Go.Proofs.Ytpnmepobdnclkaa.Num35 Go.Proofs.Ytpnmepobdnclkaa.Num39 Go.Proofs.Ytpnmepobdnclkaa.Num61 Go.Proofs.Ytpnmepobdnclkaa.Num69 Go.Proofs.Ytpnmepobdnclkaa.Base4 Go.Proofs.Ytpnmepobdnclkaa.Base5 Go.Proofs.Ytpnmepobdnclkaa.Base10 Go.Proofs.Ytpnmepobdnclkaa.Calls56 Go.Proofs.Ytpnmepobdnclkaa.Calls57 Go.Proofs.Ytpnmepobdnclkaa.Calls61 Go.Proofs.Ytpnmepobdnclkaa.Calls176 Go.Proofs.Ytpnmepobdnclkaa.Calls177
open Go.Proofs.Ytpnmepobdnclkaa.Calls71 (al)
open Go.Proofs.Ytpnmepobdnclkaa.Calls87 (ib)
open Go.Proofs.Ytpnmepobdnclkaa.Calls90 (InM)

theorem infoLS : (Try.prog.info? 22).map (fun i => (i.zero, i.size, i.bytes)) = some (some (.slice none 0 0), 1, 24) := by kernel_rfl

theorem infoLS_ex : ∃ i, Try.prog.info? 22 = some i ∧ i.zero = some (.slice none 0 0) ∧ i.size = 1 ∧ i.bytes = 24 := by
  have h := infoLS
  cases e : Try.prog.info? 22 with
  | none => rw [e] at h; simp at h
  | some i => rw [e] at h; simp at h; exact ⟨i, rfl, h.1, h.2.1, h.2.2⟩

/-- The first k rows of a table, of the call's own. -/
def LTb (W : World) (base : Nat) (v : Value) (k : Nat) (L : List (List Int)) : Prop := VTab 22 W base v k (fun j => ivals (rwl L j))

theorem LTb.below {W W' : World} {base : Nat} {v : Value} {k : Nat} {L : List (List Int)} (h : LTb W base v k L) (hB : Below W.heap.size W W') : LTb W' base v k L := VTab.below h hB

theorem LTb.nil (W : World) (base : Nat) (L : List (List Int)) : LTb W base (.slice none 0 0) 0 L := VTab.nil _ _ _ _

/-- A number of a row, as the walk meets it. -/
theorem LTb.at {W : World} {base : Nat} {ao : Option Addr} {C k n : Nat} {L : List (List Int)} (h : LTb W base (.slice ao k C) k L) {j : Nat} (hj : j < k) (hl : (rwl L j).length = n) :
    ∃ G g c, ao = some ⟨G, 0, none⟩ ∧ W.cell? ⟨G, j, none⟩ = some (.slice (some ⟨g, 0, none⟩) n c) ∧ n ≤ c ∧ ∀ i, i < n → W.cell? ⟨g, i, none⟩ = some (.int .i64 (co (rwl L j) i)) := by
  obtain ⟨G, C', e, _, g, c, h1, h2, h3⟩ := VTab.at h hj
  have e1 := (Value.slice.inj e).1
  have hl2 : (ivals (rwl L j)).length = n := by rw [ivals_length, hl]
  simp only [hl2] at h1 h2
  refine ⟨G, g, c, e1, h1, h2, fun i hi => h3 i _ ?_⟩
  show (ivals (rwl L j))[i]? = _
  unfold ivals co
  rw [List.getElem?_map, List.getElem?_eq_getElem (by omega)]
  simp [List.getD, show i < (rwl L j).length by omega]

/-- What such a table reads as. -/
theorem LTb.row {W : World} {base : Nat} {v : Value} {L : List (List Int)} (h : LTb W base v L.length L) (hm : ∀ j, j < L.length → (rwl L j).length ≤ 9223372036854775807) : ∃ ao cap, v = .slice ao L.length cap ∧ L.length ≤ cap ∧ RRow W ao L := by
  obtain ⟨ao, C, rfl, hC⟩ := VTab.len h
  refine ⟨ao, C, rfl, hC, fun e => ?_, fun ad e j hj => ?_⟩
  · by_cases h0 : L.length = 0
    · exact List.length_eq_zero_iff.1 h0
    · obtain ⟨G, g, c, e1, _⟩ := LTb.at h (j := 0) (by omega) rfl
      rw [e] at e1; cases e1
  · obtain ⟨G, g, c, e1, h1, h2, h3⟩ := LTb.at h hj rfl
    obtain rfl : (⟨G, 0, none⟩ : Addr) = ad := by rw [e] at e1; exact (Option.some.inj e1).symm
    refine ⟨some ⟨g, 0, none⟩, c, by rw [v_zero]; exact h1, ⟨fun e => (by cases e), fun ad' e' i hi => ?_⟩, h2, hm j hj⟩
    obtain rfl : (⟨g, 0, none⟩ : Addr) = ad' := by simpa using e'
    rw [v_zero]
    exact h3 i hi

theorem LTb.form {W : World} {base : Nat} {v : Value} {k : Nat} {L : List (List Int)} (h : LTb W base v k L) : ∃ ao C, v = .slice ao k C ∧ k ≤ C := VTab.len h

/-- The table's own block lies behind the base, and is there. -/
theorem LTb.lt {W : World} {base : Nat} {v : Value} {k : Nat} {L : List (List Int)} (h : LTb W base v k L) : ∀ g, v.ownBlock = some g → base ≤ g ∧ g < W.heap.size := by
  obtain ⟨us, h1, _⟩ := h
  exact h1.lt

/-- A row of the call's own is put behind the others. -/
theorem LTb.snoc {W W' : World} {base b1 n : Nat} {v : Value} {k : Nat} {L : List (List Int)} {us : List Value} {tmp : Obj} {g cap gr cr : Nat} {f : Nat → Int} (hown : W.ownsRow base 22 1 v k us) (hrows : ∀ j, j < k → VAt W v.ownBlock us[j]? (ivals (rwl L j)))
    (hlow : ∀ g, v.ownBlock = some g → g < b1) (hO : Own1 W b1 gr n cr f) (hf : mk n f = rwl L k)
    (h1 : W'.ownsRow base 22 1 (.slice (some ⟨g, 0, none⟩) (k + 1) cap) (k + 1) (us ++ [.slice (some ⟨gr, 0, none⟩) n cr])) (hg : (W.alloc tmp).grownBy W' v.ownBlock) (hor : v.ownBlock = some g ∨ g = (W.alloc tmp).heap.size) : LTb W' base (.slice (some ⟨g, 0, none⟩) (k + 1) cap) (k + 1) L := by
  have hlen : (ivals (rwl L k)).length = n := by rw [ivals_length, ← hf, mk_length]
  refine VTab.snoc (f := fun j => ivals (rwl L j)) hown hrows ⟨gr, cr, by rw [hlen], by rw [hlen]; exact hO.cap_le, fun e => ?_, hO.lt.2, fun i x hx => ?_⟩ h1 hg hor
  · have := hlow gr e
    have := hO.lt.1
    omega
  · have hi : i < n := by have := (List.getElem?_eq_some_iff.1 hx).1; omega
    rw [hO.cell hi]
    rw [← hf] at hx
    unfold ivals mk at hx
    rw [List.getElem?_map, List.getElem?_map, List.getElem?_range hi] at hx
    simpa using hx

/-- A gate's box. -/
theorem box4 {wr W : World} {a b c d : Value} {t : TypeId} (h : Below (wr.heap.size + 1) (wr.alloc (.cells #[a, b, c, d] t)) W) :
    W.cell? ⟨wr.heap.size, 0, none⟩ = some a ∧ W.cell? ⟨wr.heap.size, 1, none⟩ = some b ∧ W.cell? ⟨wr.heap.size, 2, none⟩ = some c ∧ W.cell? ⟨wr.heap.size, 3, none⟩ = some d := by
  have key : ∀ j u, (#[a, b, c, d] : Array Value)[j]? = some u → W.cell? ⟨wr.heap.size, j, none⟩ = some u := fun j u hj => by
    refine (h.cell (p := ⟨wr.heap.size, j, none⟩) (by show wr.heap.size < wr.heap.size + 1; omega)).trans ?_
    match j, hj with
    | 0, hj => simpa using hj
    | 1, hj => simpa using hj
    | 2, hj => simpa using hj
    | 3, hj => simpa using hj
    | j + 4, hj => simp at hj
  exact ⟨key 0 a rfl, key 1 b rfl, key 2 c rfl, key 3 d rfl⟩

end Go.Proofs.Ytpnmepobdnclkaa.Calls180
