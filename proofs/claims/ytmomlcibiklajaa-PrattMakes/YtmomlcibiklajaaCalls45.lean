/-
  The keys of the map, rising; what Make of package pratt answers.
-/
import Derived.Test.YtmomlcibiklajaaCalls43
import Derived.Test.YtmomlcibiklajaaCalls44
import Derived.Test.YtmomlcibiklajaaLay
import Derived.Lib.SlKeysI
namespace Go.Proofs.Ytmomlcibiklajaa.Calls45
set_option linter.unusedVariables false
open Go.RowKit Go.Deep Go.Maps Go.Shelf Go.Proofs.Ytmomlcibiklajaa.Base Go.Proofs.Ytmomlcibiklajaa.Base3 Go.Proofs.Ytmomlcibiklajaa.Num Go.Proofs.Ytmomlcibiklajaa.Num19 Go.Proofs.Ytmomlcibiklajaa.Num31 Go.Proofs.Ytmomlcibiklajaa.Calls35 Go.Proofs.Ytmomlcibiklajaa.Calls36 Go.Proofs.Ytmomlcibiklajaa.Calls41 Go.Proofs.Ytmomlcibiklajaa.Calls42 Go.Proofs.Ytmomlcibiklajaa.Calls43 Go.Proofs.Ytmomlcibiklajaa.Calls44 Go.Proofs.Ytmomlcibiklajaa.Lay

theorem keys_any (mb : Option Nat) (w : World) :
    Calls Try.prog 20 #[.map mb] w fun e w' => e = .returned (.func (.func 33) #[] #[.pointer (some ⟨w.heap.size, 0, none⟩)]) ∧ w' = w.alloc (.cells #[.map mb] 40) :=
  (callsIn_wide (n := 5)).1 (AnyZI.keys_in keysA Fence.wide 5 trivial rfl mb w)

/-- slices.Sort's two contracts, at the fence that asks nothing. -/
theorem sorts (m : Nat) : AnyZI.SortsIn Try.prog sortedA_ren Fence.wide m :=
  ⟨fun blk off cap ss W hH hblk hsz => callsIn_wide.2 (AnyM.slices_Sort_int sortA blk off cap ss W hH hblk hsz),
   fun p cap W => callsIn_wide.2 (AnyM.slices_Sort_int_none sortA p cap W)⟩

/-- The keys, sorted, are all that is needed, rising. -/
theorem rise_of {n : Nat} {S : List Nat} (hnd : S.Nodup) (hS : ∀ q, q ∈ S ↔ Need n q) {ss : List Int} (hp : ss.Perm (zs S)) : ∃ R, Rise n R ∧ ss.mergeSort leI = zs R ∧ R.length = ss.length := by
  have tr : ∀ a b c : Int, leI a b = true → leI b c = true → leI a c = true := fun a b c h1 h2 => by simp only [leI, decide_eq_true_eq] at *; exact Int.le_trans h1 h2
  have to : ∀ a b : Int, (leI a b || leI b a) = true := fun a b => by simp only [leI, Bool.or_eq_true, decide_eq_true_eq]; exact Int.le_total a b
  have hperm : (ss.mergeSort leI).Perm (zs S) := (List.mergeSort_perm ss leI).trans hp
  have hpw := List.pairwise_mergeSort tr to ss
  obtain ⟨T, hT⟩ : ∃ T, ss.mergeSort leI = T := ⟨_, rfl⟩
  rw [hT] at hperm hpw ⊢
  have hz : (zs S).Nodup := by
    unfold zs
    exact List.pairwise_map.2 (hnd.imp (fun h e => h (by omega)))
  have hTn : T.Nodup := hperm.nodup_iff.2 hz
  have hmem : ∀ x, x ∈ T ↔ ∃ p ∈ S, x = ((p : Nat) : Int) := fun x => by
    rw [hperm.mem_iff]
    unfold zs
    rw [List.mem_map]
    exact ⟨fun ⟨p, h1, h2⟩ => ⟨p, h1, h2.symm⟩, fun ⟨p, h1, h2⟩ => ⟨p, h1, h2.symm⟩⟩
  have hback : zs (T.map Int.toNat) = T := by
    unfold zs
    rw [List.map_map]
    conv => rhs; rw [← List.map_id T]
    refine List.map_congr_left fun x hx => ?_
    obtain ⟨p, _, rfl⟩ := (hmem x).1 hx
    simp
  refine ⟨T.map Int.toNat, ⟨?_, fun q => ?_⟩, hback.symm, ?_⟩
  · unfold Asc
    refine List.pairwise_map.2 ((hpw.and hTn).imp_of_mem (fun {a b} ha hb h => ?_))
    obtain ⟨p, _, rfl⟩ := (hmem a).1 ha
    obtain ⟨q, _, rfl⟩ := (hmem b).1 hb
    obtain ⟨h1, h2⟩ := h
    simp only [leI, decide_eq_true_eq] at h1
    simp
    omega
  · rw [← hS q, List.mem_map]
    constructor
    · rintro ⟨x, hx, rfl⟩
      obtain ⟨p, h1, rfl⟩ := (hmem x).1 hx
      simpa using h1
    · intro h
      exact ⟨(q : Int), (hmem _).2 ⟨q, h, rfl⟩, by simp⟩
  · rw [List.length_map, ← hT, List.length_mergeSort]

/-- What Sorted answers. -/
def Rising (n base : Nat) (e : Ending) (w' : World) : Prop := ∃ v R, e = .returned v ∧ Rise n R ∧ w'.ownsRow base 2 1 v R.length (ivals (zs R))

theorem sorted_any {n : Nat} (hn : Pr n) (hn2 : n ≤ 1048576) (b : Nat) (S : List Nat) (D : DataW Value) (w : World) (hI : Inv n S [] D) (hM : w.ownsMap Try.prog 2 RV b S.length D) :
    Calls Try.prog 19 #[.func (.func 33) #[] #[.pointer (some ⟨w.heap.size, 0, none⟩)]] (w.alloc (.cells #[.map (some b)] 40)) fun e w' => Rising n (w.alloc (.cells #[.map (some b)] 40)).heap.size e w' ∧ Below (w.alloc (.cells #[.map (some b)] 40)).heap.size (w.alloc (.cells #[.map (some b)] 40)) w' := by
  refine (callsIn_wide (n := 6)).1 ?_
  have hbl := hM.lt
  have hsz := hM.size_le
  have hSb := hI.bound hn hn2
  have hseq : SeqGives Fence.wide (6 - 1 - 1 - 1) Try.prog 33 #[.pointer (some ⟨w.heap.size, 0, none⟩)] encZ (fun ss => ss.Perm (intKeys D)) (Maps.size D) (w.alloc (.cells #[.map (some b)] 40)) :=
    AnyZI.keys_gives (ρ := keysA_ren) { keysA with } Fence.wide _ trivial rfl (by omega) w.heap.size b S.length D _ (by simp) (by simp) (hM.alloc _)
  have cS := AnyZI.sorted_in sortedA Fence.wide 6 trivial trivial trivial trivial rfl (by omega) (sorts _) (enters_of Try.func32 (by kernel_rfl) rfl) 33 #[.pointer (some ⟨w.heap.size, 0, none⟩)] trivial (enters_of Try.func33 (by kernel_rfl) rfl) _ _ (by unfold maxLen; omega) (by omega) _ hseq
  change CallsIn _ _ Try.prog 19 _ _ _ at cS
  refine cS.mono ?_
  rintro e w' ⟨v, ss, rfl, hS, hrow, hnil, hb⟩
  have hk : (zs S).Perm (intKeys D) := CollectedI.perm (left := fun _ => false) ⟨by
      unfold zs
      exact List.pairwise_map.2 (hI.nodup.imp (fun h e => h (by omega))), fun x => ⟨fun hx => by
        obtain ⟨p, hp, rfl⟩ := List.mem_map.1 hx
        exact ⟨(hI.has p).2 hp, rfl⟩, fun hx => by
        obtain ⟨p, rfl⟩ := hI.only x hx.1
        exact List.mem_map.2 ⟨p, (hI.has p).1 hx.1, rfl⟩⟩⟩ hM (int_keyed Try.underlying2) Try.underlying2 (fun _ => rfl)
  obtain ⟨R, h1, h2, h3⟩ := rise_of hI.nodup hI.done (hS.trans hk.symm)
  rw [show ss.mergeSort (fun x y => decide (x ≤ y)) = zs R from h2, ← h3] at hrow
  exact ⟨⟨v, R, rfl, h1, hrow⟩, hb⟩

end Go.Proofs.Ytmomlcibiklajaa.Calls45
