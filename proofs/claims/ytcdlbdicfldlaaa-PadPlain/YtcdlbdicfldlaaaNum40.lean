/-
  Plain arithmetic: ciphers as tables: what tells nothing, what can be read; Shannon and Vernam.
-/
import Derived.Test.YtcdlbdicfldlaaaFoldA
namespace Go.Proofs.Ytcdlbdicfldlaaa.Num40
set_option linter.unusedVariables false
open Go.Proofs.Ytcdlbdicfldlaaa.Num12 (len_le)

/-- By how many of the first K keys it becomes c. -/
def kc (f : Nat → Int) (c : Int) : Nat → Nat
  | 0 => 0
  | k + 1 => kc f c k + (if f k = c then 1 else 0)

theorem kc_le (f : Nat → Int) (c : Int) : ∀ K, kc f c K ≤ K
  | 0 => Nat.le_refl _
  | k + 1 => by
    have := kc_le f c k
    show kc f c k + (if f k = c then 1 else 0) ≤ k + 1
    split <;> omega

theorem kc_pos {f : Nat → Int} {c : Int} : ∀ {K : Nat}, 1 ≤ kc f c K ↔ ∃ k, k < K ∧ f k = c
  | 0 => ⟨fun h => absurd h (by show ¬ 1 ≤ 0; omega), fun ⟨k, h, _⟩ => absurd h (by omega)⟩
  | K + 1 => by
    show 1 ≤ kc f c K + (if f K = c then 1 else 0) ↔ _
    by_cases h : f K = c
    · rw [if_pos h]
      exact ⟨fun _ => ⟨K, by omega, h⟩, fun _ => by omega⟩
    · rw [if_neg h, Nat.add_zero, kc_pos (K := K)]
      constructor
      · rintro ⟨k, h1, h2⟩; exact ⟨k, by omega, h2⟩
      · rintro ⟨k, h1, h2⟩
        refine ⟨k, ?_, h2⟩
        by_cases e : k = K
        · subst e; exact absurd h2 h
        · omega

theorem kc_congr {f g : Nat → Int} {c : Int} : ∀ {K : Nat}, (∀ k, k < K → (f k = c ↔ g k = c)) → kc f c K = kc g c K
  | 0, _ => rfl
  | K + 1, h => by
    show kc f c K + (if f K = c then 1 else 0) = kc g c K + (if g K = c then 1 else 0)
    rw [kc_congr (K := K) (fun k hk => h k (by omega))]
    by_cases e : f K = c
    · rw [if_pos e, if_pos ((h K (by omega)).1 e)]
    · rw [if_neg e, if_neg (fun e2 => e ((h K (by omega)).2 e2))]

theorem kc_once {f : Nat → Int} {c : Int} {k0 : Nat} : ∀ {K : Nat}, k0 < K → f k0 = c → (∀ k, k < K → f k = c → k = k0) → kc f c K = 1
  | 0, h, _, _ => absurd h (by omega)
  | K + 1, h, h1, h2 => by
    show kc f c K + (if f K = c then 1 else 0) = 1
    by_cases e : k0 = K
    · subst e
      rw [if_pos h1]
      have : ¬ 1 ≤ kc f c k0 := fun h3 => by
        obtain ⟨k, h4, h5⟩ := kc_pos.1 h3
        have := h2 k (by omega) h5
        omega
      omega
    · rw [if_neg (fun h3 => e (h2 K (by omega) h3).symm), kc_once (K := K) (by omega) h1 (fun k hk => h2 k (by omega))]

/-- It tells nothing: T k m is what the message m becomes by the key k. -/
def PerfIs (T : Nat → Nat → Int) (K M : Nat) : Prop := ∀ m, m < M → ∀ c, kc (fun k => T k m) c K = kc (fun k => T k 0) c K

/-- It can be read. -/
def PlainIs (T : Nat → Nat → Int) (K M : Nat) : Prop := ∀ k, k < K → ∀ i j, i < M → j < M → T k i = T k j → i = j

/-- Numbers that stand in the table are enough. -/
theorem perf_iff {T : Nat → Nat → Int} {K M : Nat} (hM : 1 ≤ M) : (∀ r, r < K → ∀ i, i < M → ∀ m, m < M → kc (fun k => T k m) (T r i) K = kc (fun k => T k 0) (T r i) K) ↔ PerfIs T K M := by
  constructor
  · intro h m hm c
    have no : ∀ n, (¬ ∃ k, k < K ∧ T k n = c) → kc (fun k => T k n) c K = 0 := fun n hn => by
      have : ¬ 1 ≤ kc (fun k => T k n) c K := fun h1 => hn (kc_pos.1 h1)
      omega
    rcases Classical.em (∃ k, k < K ∧ T k m = c) with ⟨k, hk, e⟩ | h1
    · rw [← e]; exact h k hk m hm m hm
    · rcases Classical.em (∃ k, k < K ∧ T k 0 = c) with ⟨k, hk, e⟩ | h2
      · rw [← e]; exact h k hk 0 (by omega) m hm
      · rw [no m h1, no 0 h2]
  · intro h r _ i _ m hm
    exact h m hm _

/-- Any two messages. -/
theorem PerfIs.two {T : Nat → Nat → Int} {K M : Nat} (h : PerfIs T K M) {m m' : Nat} (hm : m < M) (hm' : m' < M) (c : Int) : kc (fun k => T k m) c K = kc (fun k => T k m') c K := by rw [h m hm c, h m' hm' c]

/-- SHANNON. -/
theorem shannon {T : Nat → Nat → Int} {K M : Nat} (hK : 1 ≤ K) (hP : PerfIs T K M) (hR : PlainIs T K M) : M ≤ K := by
  rcases Nat.eq_zero_or_pos M with e | hM
  · omega
  have ex : ∀ m, m < M → ∃ k, k < K ∧ T k m = T 0 0 := fun m hm => by
    have h1 : 1 ≤ kc (fun k => T k 0) (T 0 0) K := kc_pos.2 ⟨0, by omega, rfl⟩
    rw [← hP m hm] at h1
    exact kc_pos.1 h1
  have hf : ∃ g : Nat → Nat, ∀ m, m < M → g m < K ∧ T (g m) m = T 0 0 := by
    refine ⟨fun m => if h : ∃ k, k < K ∧ T k m = T 0 0 then Classical.choose h else 0, fun m hm => ?_⟩
    have h := ex m hm
    simp only [dif_pos h]
    exact Classical.choose_spec h
  obtain ⟨g, hg⟩ := hf
  have hn : ((List.range M).map g).Nodup := by
    refine List.pairwise_map.2 ((List.nodup_range (n := M)).imp_of_mem ?_)
    intro a b ha hb hne he
    have h1 := hg a (List.mem_range.1 ha)
    have h2 := hg b (List.mem_range.1 hb)
    rw [← he] at h2
    exact hne (hR (g a) h1.1 a b (List.mem_range.1 ha) (List.mem_range.1 hb) (by rw [h1.2, h2.2]))
  have h3 := len_le (m := List.range K) hn (fun x hx => by
    obtain ⟨m, hm, rfl⟩ := List.mem_map.1 hx
    exact List.mem_range.2 (hg m (List.mem_range.1 hm)).1)
  simpa using h3

/-! ### Vernam -/

theorem vern_same {n a b k : Nat} (ha : a < n) (hb : b < n) (h : (a + k) % n = (b + k) % n) : a = b := by
  have h1 := Nat.div_add_mod (a + k) n
  have h2 := Nat.div_add_mod (b + k) n
  rw [h] at h1
  rcases Nat.lt_trichotomy ((a + k) / n) ((b + k) / n) with e | e | e
  · have : n * ((a + k) / n) + n ≤ n * ((b + k) / n) := by rw [← Nat.mul_succ]; exact Nat.mul_le_mul_left _ e
    omega
  · rw [e] at h1; omega
  · have : n * ((b + k) / n) + n ≤ n * ((a + k) / n) := by rw [← Nat.mul_succ]; exact Nat.mul_le_mul_left _ e
    omega

def vern (n : Nat) (k m : Nat) : Int := (((m + k) % n : Nat) : Int)

theorem vern_plain (n : Nat) : PlainIs (vern n) n n := fun k _ i j hi hj h => vern_same hi hj (Int.ofNat_inj.1 h)

theorem vern_one {n : Nat} (hn : 1 ≤ n) {m c : Nat} (hm : m < n) (hc : c < n) : kc (fun k => vern n k m) (c : Int) n = 1 := by
  have hk : (c + (n - m)) % n < n := Nat.mod_lt _ (by omega)
  refine kc_once (k0 := (c + (n - m)) % n) hk ?_ ?_
  · show (((m + (c + (n - m)) % n) % n : Nat) : Int) = (c : Int)
    have : (m + (c + (n - m)) % n) % n = c := by
      rw [Nat.add_mod_mod, show m + (c + (n - m)) = c + n by omega, Nat.add_mod_right, Nat.mod_eq_of_lt hc]
    omega
  · intro k hk2 e
    have e2 : (m + k) % n = c := by
      have : (((m + k) % n : Nat) : Int) = (c : Int) := e
      omega
    have e3 : (m + (c + (n - m)) % n) % n = c := by
      rw [Nat.add_mod_mod, show m + (c + (n - m)) = c + n by omega, Nat.add_mod_right, Nat.mod_eq_of_lt hc]
    refine vern_same hk2 hk (k := m) ?_
    rw [Nat.add_comm k m, Nat.add_comm _ m, e2, e3]

theorem vern_perf {n : Nat} (hn : 1 ≤ n) : PerfIs (vern n) n n := by
  refine (perf_iff hn).1 (fun r _ i _ m hm => ?_)
  have hc : (i + r) % n < n := Nat.mod_lt _ (by omega)
  show kc _ (((i + r) % n : Nat) : Int) n = kc _ (((i + r) % n : Nat) : Int) n
  rw [vern_one hn hm hc, vern_one hn (by omega) hc]

end Go.Proofs.Ytcdlbdicfldlaaa.Num40
