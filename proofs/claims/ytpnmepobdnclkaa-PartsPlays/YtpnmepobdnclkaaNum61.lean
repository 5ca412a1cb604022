/-
  Plain arithmetic of shares that are added and multiplied: Ben-Or, Goldwasser, Wigderson.
-/
import Derived.Test.YtpnmepobdnclkaaNum39
import Derived.Test.YtpnmepobdnclkaaNum45
namespace Go.Proofs.Ytpnmepobdnclkaa.Num61
set_option linter.unusedVariables false
open Go.Proofs.Ytpnmepobdnclkaa.Num Go.Proofs.Ytpnmepobdnclkaa.Num13 Go.Proofs.Ytpnmepobdnclkaa.Num16 Go.Proofs.Ytpnmepobdnclkaa.Num17 Go.Proofs.Ytpnmepobdnclkaa.Num34 Go.Proofs.Ytpnmepobdnclkaa.Num35 Go.Proofs.Ytpnmepobdnclkaa.Num39
open Go.Proofs.Ytpnmepobdnclkaa.Num7 (ev)

/-- The parties' places. -/
def XP (j : Nat) : Int := (j : Int) + 1

theorem xp_dist {p n : Nat} (h : n < p) : Dist p XP n := fun i j hi hj hd => by
  unfold XP at hd
  have h1 : ((i : Int) + 1 - ((j : Int) + 1)) = ((i - j : Nat) : Int) := by omega
  rw [h1] at hd
  have h2 := Int.natCast_dvd_natCast.1 hd
  have := Nat.le_of_dvd (by omega) h2
  omega

/-- Shares of v, of a degree of t at most: of n parties. -/
def Sh (p t n : Nat) (v : Int) (Y : Nat → Int) : Prop := ∃ f : List Int, f.length ≤ t + 1 ∧ (p : Int) ∣ ev f 0 - v ∧ ∀ j, j < n → (p : Int) ∣ ev f (XP j) - Y j

theorem Sh.cong {p t n : Nat} {v v' : Int} {Y Y' : Nat → Int} (h : Sh p t n v Y) (hv : (p : Int) ∣ v - v') (hY : ∀ j, j < n → (p : Int) ∣ Y j - Y' j) : Sh p t n v' Y' := by
  obtain ⟨f, h1, h2, h3⟩ := h
  exact ⟨f, h1, cong_tr h2 hv, fun j hj => cong_tr (h3 j hj) (hY j hj)⟩

theorem sh_const (p t n : Nat) (c : Int) : Sh p t n c (fun _ => c) :=
  ⟨[c], by show 1 ≤ t + 1; omega, by rw [show ev [c] 0 = c by simp [ev]]; simp, fun j _ => by rw [show ev [c] (XP j) = c by simp [ev]]; simp⟩

theorem sh_split {p t n : Nat} {s : Int} {m : List Int} (hm : m.length ≤ t) {Y : Nat → Int} (hY : ∀ j, j < n → Y j = ev (s :: m) (XP j) % (p : Int)) : Sh p t n s Y := by
  refine ⟨s :: m, by simpa using hm, by rw [ev_cons_zero]; simp, fun j hj => ?_⟩
  rw [hY j hj]
  exact cong_sy (Int.dvd_of_emod_eq_zero (by rw [Int.sub_emod, Int.emod_emod_of_dvd _ (Int.dvd_refl _)]; simp))

theorem Sh.add {p t n : Nat} {v w : Int} {Y Z : Nat → Int} (h : Sh p t n v Y) (k : Sh p t n w Z) : Sh p t n (v + w) (fun j => Y j + Z j) := by
  obtain ⟨f, h1, h2, h3⟩ := h
  obtain ⟨g, k1, k2, k3⟩ := k
  refine ⟨padd f g, by rw [padd_length]; omega, by rw [ev_padd]; exact cong_add h2 k2, fun j hj => ?_⟩
  rw [ev_padd]
  exact cong_add (h3 j hj) (k3 j hj)

theorem psc_length (k : Int) (a : List Int) : (psc k a).length = a.length := by simp [psc]

theorem Sh.scale {p t n : Nat} {v : Int} {Y : Nat → Int} (h : Sh p t n v Y) (c : Int) : Sh p t n (c * v) (fun j => c * Y j) := by
  obtain ⟨f, h1, h2, h3⟩ := h
  refine ⟨psc c f, by rw [psc_length]; exact h1, by rw [ev_psc]; exact cong_mul (by simp) h2, fun j hj => ?_⟩
  rw [ev_psc]
  exact cong_mul (by simp) (h3 j hj)

theorem sh_zero (p t n : Nat) : Sh p t n 0 (fun _ => 0) := sh_const p t n 0

/-- So many shares of parts are shares of the parts together. -/
theorem sh_su {p t n : Nat} {v : Nat → Int} {T : Nat → Nat → Int} : ∀ m : Nat, (∀ i, i < m → Sh p t n (v i) (T i)) → Sh p t n (su v m) (fun j => su (fun i => T i j) m)
  | 0, _ => sh_zero p t n
  | m + 1, h => (sh_su m (fun i hi => h i (by omega))).add (h m (by omega))

theorem su_cong {p : Int} {f g : Nat → Int} : ∀ {n : Nat}, (∀ i, i < n → p ∣ f i - g i) → p ∣ su f n - su g n
  | 0, _ => by show p ∣ 0 - 0; simp
  | n + 1, h => cong_add (su_cong (fun i hi => h i (by omega))) (h n (by omega))

/-! ### the numbers by which a value at 0 is reckoned -/

/-- 1 at one place, 0 at all others. -/
def dl (i j : Nat) : Int := if j = i then 1 else 0

theorem su_dl {n i : Nat} (c : Nat → Int) (hi : i < n) : su (fun k => c k * dl k i) n = c i := by
  have key : ∀ m, su (fun k => c k * dl k i) m = if i < m then c i else 0 := fun m => by
    induction m with
    | zero => rfl
    | succ m ih =>
      show su (fun k => c k * dl k i) m + c m * dl m i = _
      rw [ih]
      unfold dl
      by_cases e : i = m
      · subst e
        rw [if_neg (by omega), if_pos rfl, if_pos (by omega)]
        omega
      · rw [if_neg e]
        by_cases e2 : i < m
        · rw [if_pos e2, if_pos (by omega)]; omega
        · rw [if_neg e2, if_neg (by omega)]; omega
  rw [key, if_pos hi]

/-- Polynomials, each times a number, together. -/
def lin (c : Nat → Int) (E : Nat → List Int) : Nat → List Int
  | 0 => []
  | m + 1 => padd (lin c E m) (psc (c m) (E m))

theorem lin_len {c : Nat → Int} {E : Nat → List Int} {n : Nat} : ∀ {m : Nat}, (∀ i, i < m → (E i).length ≤ n) → (lin c E m).length ≤ n
  | 0, _ => Nat.zero_le _
  | m + 1, h => by
    show (padd _ _).length ≤ n
    rw [padd_length, psc_length]
    have := lin_len (c := c) (m := m) (fun i hi => h i (by omega))
    have := h m (by omega)
    omega

theorem lin_ev (c : Nat → Int) (E : Nat → List Int) (x : Int) : ∀ m, ev (lin c E m) x = su (fun i => c i * ev (E i) x) m
  | 0 => rfl
  | m + 1 => by
    show ev (padd _ _) x = _
    rw [ev_padd, ev_psc, lin_ev c E x m]
    rfl

theorem thr_nm {p : Nat} (hp : 1 ≤ p) {X Y : Nat → Int} {n : Nat} {a : List Int} (hl : a.length ≤ n) (h : ∀ j, j < n → (p : Int) ∣ ev a (X j) - Y j) : ThrIs p X Y n (nm p a) :=
  ⟨nm_cn hp a, Nat.le_trans (nm_length p a) hl, fun j hj => cong_tr ((nm_q hp a).ev (X j)) (h j hj)⟩

theorem mod_same {p : Nat} (x : Int) : (p : Int) ∣ x % (p : Int) - x := by
  refine cong_sy (Int.dvd_of_emod_eq_zero ?_)
  rw [Int.sub_emod, Int.emod_emod_of_dvd _ (Int.dvd_refl _)]
  simp

/-- A polynomial's value at 0, of its values at all parties' places. -/
theorem at_zero {p n : Nat} (hp : Pr p) (hn : n < p) {r : Nat → Int} (hr : ∀ i, i < n → JoinIs p XP (dl i) n (r i)) {a : List Int} (ha : a.length ≤ n) : (p : Int) ∣ su (fun i => ev a (XP i) * r i) n - ev a 0 := by
  have hp1 := hp.1
  have hex : ∀ i, ∃ e : List Int, i < n → ThrIs p XP (dl i) n e ∧ r i = ev e 0 % (p : Int) := fun i => by
    by_cases hi : i < n
    · obtain ⟨e, h1, h2⟩ := hr i hi
      exact ⟨e, fun _ => ⟨h1, h2⟩⟩
    · exact ⟨[], fun h => absurd h hi⟩
  obtain ⟨E, hE⟩ := Classical.axiomOfChoice hex
  have hlen : (lin (fun i => ev a (XP i)) E n).length ≤ n := lin_len (fun i hi => (hE i hi).1.2.1)
  have h1 : ThrIs p XP (fun j => ev a (XP j)) n (nm p (lin (fun i => ev a (XP i)) E n)) := thr_nm (by omega) hlen (fun j hj => by
    rw [lin_ev]
    have : (p : Int) ∣ su (fun i => ev a (XP i) * ev (E i) (XP j)) n - su (fun i => ev a (XP i) * dl i j) n := su_cong (fun i hi => cong_mul (by simp) ((hE i hi).1.2.2 j hj))
    have e : su (fun i => ev a (XP i) * dl i j) n = ev a (XP j) := by
      have := su_dl (n := n) (i := j) (fun i => ev a (XP i)) hj
      rw [← this]
    rwa [e] at this)
  have h2 : ThrIs p XP (fun j => ev a (XP j)) n (nm p a) := thr_nm (by omega) ha (fun j _ => by simp)
  have e := h1.uniq hp (xp_dist hn) h2
  have q1 := (nm_q (p := p) (by omega) (lin (fun i => ev a (XP i)) E n)).ev 0
  have q2 := (nm_q (p := p) (by omega) a).ev 0
  rw [e] at q1
  have h3 : (p : Int) ∣ ev (lin (fun i => ev a (XP i)) E n) 0 - ev a 0 := cong_tr (cong_sy q1) q2
  rw [lin_ev] at h3
  refine cong_tr (su_cong (fun i hi => cong_mul (by simp) ?_)) h3
  rw [(hE i hi).2]
  exact mod_same _

theorem mul_len_le {f g : List Int} {t : Nat} (hf : f.length ≤ t + 1) (hg : g.length ≤ t + 1) : (pmul f g).length ≤ 2 * t + 1 := by
  by_cases h1 : f = []
  · subst h1; show ([] : List Int).length ≤ _; simp
  · by_cases h2 : g = []
    · subst h2
      have : ∀ a : List Int, (pmul a []).length ≤ a.length := fun a => by
        induction a with
        | nil => exact Nat.le_refl _
        | cons x xs ih =>
          show (padd (psc x []) (0 :: pmul xs [])).length ≤ _
          rw [padd_length, psc_length]
          simp
          exact ih
      have := this f
      omega
    · rw [pmul_length f g h2 h1]
      omega

/-- BEN-OR, GOLDWASSER, WIGDERSON: products of shares, shared anew, and reckoned together, are shares of the product. -/
theorem Sh.mul {p t n : Nat} (hp : Pr p) (hn : n = 2 * t + 1) (hnp : n < p) {v w : Int} {Y Z : Nat → Int} (h : Sh p t n v Y) (k : Sh p t n w Z) {r : Nat → Int} (hr : ∀ i, i < n → JoinIs p XP (dl i) n (r i))
    {T : Nat → Nat → Int} {c : Nat → Int} (hc : ∀ i, i < n → (p : Int) ∣ c i - Y i * Z i) (hT : ∀ i, i < n → Sh p t n (c i) (T i)) : Sh p t n (v * w) (fun j => su (fun i => r i * T i j) n) := by
  obtain ⟨f, h1, h2, h3⟩ := h
  obtain ⟨g, k1, k2, k3⟩ := k
  have hz := at_zero hp hnp hr (a := pmul f g) (by rw [hn]; exact mul_len_le h1 k1)
  have hs := sh_su (p := p) (t := t) (n := n) (v := fun i => r i * c i) (T := fun i j => r i * T i j) n (fun i hi => (hT i hi).scale (r i))
  refine hs.cong ?_ (fun j _ => by simp)
  have e1 : (p : Int) ∣ su (fun i => r i * c i) n - su (fun i => ev (pmul f g) (XP i) * r i) n := su_cong (fun i hi => by
    rw [Int.mul_comm (ev (pmul f g) (XP i)) (r i)]
    refine cong_mul (by simp) (cong_tr (hc i hi) (cong_sy ?_))
    rw [ev_pmul]
    exact cong_mul (h3 i hi) (k3 i hi))
  refine cong_tr e1 (cong_tr hz ?_)
  rw [ev_pmul]
  exact cong_mul h2 k2

/-- What shares have in common at 0 is what they are shares of: of any places that are not alike, and more than t. -/
theorem Sh.join {p t n : Nat} (hp : Pr p) {v : Int} {Y : Nat → Int} (h : Sh p t n v Y) (hv : 0 ≤ v ∧ v < (p : Int)) {X Y' : Nat → Int} {m : Nat} (hm : t < m) (hX : ∀ j, j < m → ∃ i, i < n ∧ X j = XP i ∧ Y' j = Y i) (hd : Dist p X m) {u : Int} (hu : JoinIs p X Y' m u) : u = v := by
  have hp1 := hp.1
  obtain ⟨f, h1, h2, h3⟩ := h
  have ht : ThrIs p X Y' m (nm p f) := thr_nm (by omega) (by omega) (fun j hj => by
    obtain ⟨i, hi, e1, e2⟩ := hX j hj
    rw [e1, e2]
    exact h3 i hi)
  refine hu.uniq hp hd ⟨_, ht, ?_⟩
  have q := (nm_q (p := p) (by omega) f).ev 0
  have := md (cong_tr q h2)
  rw [this, Int.emod_eq_of_lt hv.1 hv.2]

theorem Sh.all {p t n : Nat} (hp : Pr p) (hn : t < n) (hnp : n < p) {v : Int} {Y : Nat → Int} (h : Sh p t n v Y) (hv : 0 ≤ v ∧ v < (p : Int)) {u : Int} (hu : JoinIs p XP Y n u) : u = v :=
  h.join hp hv hn (fun j hj => ⟨j, hj, rfl, rfl⟩) (xp_dist hnp) hu

end Go.Proofs.Ytpnmepobdnclkaa.Num61
