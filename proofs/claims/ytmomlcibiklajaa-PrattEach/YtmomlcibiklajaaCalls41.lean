/-
  Plain arithmetic on the lines of a proof: rising lists, which primes are needed, the least number that comes round last, and that such lines hold.
-/
import Derived.Test.YtmomlcibiklajaaCalls35
namespace Go.Proofs.Ytmomlcibiklajaa.Calls41
set_option linter.unusedVariables false
open Go.Proofs.Ytmomlcibiklajaa.Num Go.Proofs.Ytmomlcibiklajaa.Num6 Go.Proofs.Ytmomlcibiklajaa.Num7 Go.Proofs.Ytmomlcibiklajaa.Num13 Go.Proofs.Ytmomlcibiklajaa.Num19 Go.Proofs.Ytmomlcibiklajaa.Num31 Go.Proofs.Ytmomlcibiklajaa.Calls35

/-- Rising, each once. -/
def Asc (l : List Nat) : Prop := l.Pairwise (fun x y => x < y)

theorem asc_ext {l m : List Nat} (hl : Asc l) (hm : Asc m) (h : ∀ x, x ∈ l ↔ x ∈ m) : l = m := by
  induction l generalizing m with
  | nil =>
    cases m with
    | nil => rfl
    | cons y ys => exact absurd ((h y).2 (by simp)) (by simp)
  | cons x xs ih =>
    cases m with
    | nil => exact absurd ((h x).1 (by simp)) (by simp)
    | cons y ys =>
      obtain ⟨hx, hxs⟩ := List.pairwise_cons.1 hl
      obtain ⟨hy, hys⟩ := List.pairwise_cons.1 hm
      have e : x = y := by
        rcases List.mem_cons.1 ((h x).1 (by simp)) with e | e
        · exact e
        · rcases List.mem_cons.1 ((h y).2 (by simp)) with e2 | e2
          · exact e2.symm
          · have := hy x e
            have := hx y e2
            omega
      subst e
      rw [ih hxs hys (fun z => ?_)]
      constructor
      · intro hz
        rcases List.mem_cons.1 ((h z).1 (by simp [hz])) with e | e
        · subst e; have := hx z hz; omega
        · exact e
      · intro hz
        rcases List.mem_cons.1 ((h z).2 (by simp [hz])) with e | e
        · subst e; have := hy z hz; omega
        · exact e

theorem asc_nodup {l : List Nat} (h : Asc l) : l.Nodup := h.imp (fun h e => by omega)

theorem asc_lt {l : List Nat} (h : Asc l) {i j : Nat} (hij : i < j) (hj : j < l.length) : l.getD i 0 < l.getD j 0 := by
  have := List.pairwise_iff_getElem.1 h i j (by omega) hj hij
  simpa [List.getD, hj, show i < l.length by omega] using this

theorem asc_lt_iff {l : List Nat} (h : Asc l) {i j : Nat} (hi : i < l.length) (hj : j < l.length) : l.getD i 0 < l.getD j 0 ↔ i < j := by
  constructor
  · intro hlt
    rcases Nat.lt_trichotomy i j with h1 | h1 | h1
    · exact h1
    · subst h1; omega
    · have := asc_lt h h1 hi; omega
  · exact fun hij => asc_lt h hij hj

theorem asc_inj {l : List Nat} (h : Asc l) {i j : Nat} (hi : i < l.length) (hj : j < l.length) (e : l.getD i 0 = l.getD j 0) : i = j := by
  have h1 := asc_lt_iff h hi hj
  have h2 := asc_lt_iff h hj hi
  omega

theorem mem_place {l : List Nat} {x : Nat} (h : x ∈ l) : ∃ k, k < l.length ∧ l.getD k 0 = x := by
  obtain ⟨k, hk, e⟩ := List.getElem_of_mem h
  exact ⟨k, hk, by simp [List.getD, hk, e]⟩

theorem place_mem {l : List Nat} {k : Nat} (h : k < l.length) : l.getD k 0 ∈ l := by simp [List.getD, h]

/-- The primes that divide m, rising. -/
def Pf (m : Nat) (qs : List Nat) : Prop := Asc qs ∧ ∀ q, q ∈ qs ↔ Pr q ∧ q ∣ m

theorem Pf.uniq {m : Nat} {a b : List Nat} (ha : Pf m a) (hb : Pf m b) : a = b := asc_ext ha.1 hb.1 (fun x => (ha.2 x).trans (hb.2 x).symm)

def firsts (l : List (Nat × Nat)) : List Nat := l.map (fun x => x.1)

theorem fac_pf {m : Nat} {l : List (Nat × Nat)} (h : Fac m l) : Pf m (firsts l) := by
  refine ⟨List.pairwise_map.2 h.2.1, fun q => ?_⟩
  constructor
  · intro hq
    obtain ⟨x, hx, rfl⟩ := List.mem_map.1 hq
    refine ⟨(h.1 x hx).1, ?_⟩
    have := mem_dvd_pd h.1 hx
    rw [h.2.2] at this
    exact this
  · rintro ⟨hp, hd⟩
    obtain ⟨x, hx, e⟩ := pr_dvd_pd hp h.1 (by rw [h.2.2]; exact hd)
    exact List.mem_map.2 ⟨x, hx, e⟩

/-- All that is needed, rising. -/
def Rise (n : Nat) (R : List Nat) : Prop := Asc R ∧ ∀ q, q ∈ R ↔ Need n q

theorem Rise.uniq {n : Nat} {a b : List Nat} (ha : Rise n a) (hb : Rise n b) : a = b := asc_ext ha.1 hb.1 (fun x => (ha.2 x).trans (hb.2 x).symm)

theorem need_closed {n : Nat} {S : List Nat} (h1 : n ∈ S) (h2 : ∀ p ∈ S, Need n p) (h3 : ∀ p ∈ S, ∀ q, Pr q → q ∣ p - 1 → q ∈ S) : ∀ q, q ∈ S ↔ Need n q := fun q => ⟨h2 q, fun h => h.steps (P := fun x => x ∈ S) h1 (fun p r _ ih hr hd => h3 p ih r hr hd)⟩

theorem need_len {n : Nat} (hn : Pr n) (h : n ≤ 1048576) {L : List Nat} (hL : L.Nodup) (hN : ∀ q ∈ L, Need n q) : L.length ≤ 21 :=
  few_need hn (b := 21) (by have : (2 : Nat) ^ 21 = 2097152 := by decide
                            omega) hL hN

/-- The least number that comes round last. -/
def LeastG (p : Nat) (qs : List Nat) (g : Nat) : Prop := (1 ≤ g ∧ g < p ∧ Last (g : Int) p qs) ∧ ∀ g' : Nat, 1 ≤ g' → g' < g → ¬ Last (g' : Int) p qs

theorem LeastG.uniq {p : Nat} {qs : List Nat} {a b : Nat} (ha : LeastG p qs a) (hb : LeastG p qs b) : a = b := by
  rcases Nat.lt_trichotomy a b with h | h | h
  · exact absurd ha.1.2.2 (hb.2 a ha.1.1 h)
  · exact h
  · exact absurd hb.1.2.2 (ha.2 b hb.1.1 h)

theorem rs_nat {g n : Nat} (h : g < n) : rs (g : Int) n = g := by
  unfold rs
  rw [Int.emod_eq_of_lt (by omega) (by omega)]; omega

theorem leastG_ex {p : Nat} (hp : Pr p) (h3 : 3 ≤ p) {qs : List Nat} (hq : Pf (p - 1) qs) : ∃ g, LeastG p qs g := by
  obtain ⟨g0, ho⟩ := prim_ex hp
  have hl : Last ((g0 % p : Nat) : Int) p qs := by
    have e : rs ((g0 % p : Nat) : Int) p = g0 % p := rs_nat (Nat.mod_lt _ (by omega))
    have ep : ∀ k, pw ((g0 % p : Nat) : Int) k p = g0 ^ k % p := fun k => by unfold pw; rw [e, ← Nat.pow_mod]
    refine ⟨by rw [ep]; have := ho.2.1; rwa [Nat.mod_eq_of_lt (show 1 < p by omega)] at this, fun q hqm => ?_⟩
    obtain ⟨hqp, hqd⟩ := (hq.2 q).1 hqm
    have := ord_not ho hqp hqd
    rw [Nat.mod_eq_of_lt (show 1 < p by omega)] at this
    rw [ep]; exact this
  have h0 : 1 ≤ g0 % p := by
    rcases Nat.eq_zero_or_pos (g0 % p) with e | e
    · exfalso
      have h1 := hl.1
      rw [e] at h1
      unfold pw at h1
      rw [rs_nat (by omega), Nat.zero_pow (by omega)] at h1
      simp at h1
    · exact e
  have key : ∀ m, ∀ g, g ≤ m → 1 ≤ g → g < p → Last (g : Int) p qs → ∃ g, LeastG p qs g := by
    intro m
    induction m with
    | zero => intro g h1 h2; omega
    | succ m ih =>
      intro g h1 h2 h3 h4
      rcases Classical.em (∃ g' : Nat, 1 ≤ g' ∧ g' < g ∧ Last (g' : Int) p qs) with ⟨g', a, b, c⟩ | h
      · exact ih g' (by omega) a (by omega) c
      · exact ⟨g, ⟨h2, h3, h4⟩, fun g' a b c => h ⟨g', a, b, c⟩⟩
  exact key _ (g0 % p) (Nat.le_refl _) h0 (Nat.mod_lt _ (by omega)) hl

/-- Where these stand. -/
def Places (R ks qs : List Nat) : Prop := ks.length = qs.length ∧ ∀ j, j < qs.length → ks.getD j 0 < R.length ∧ R.getD (ks.getD j 0) 0 = qs.getD j 0

theorem ext_getD {a b : List Nat} (h : a.length = b.length) (h2 : ∀ j, j < a.length → a.getD j 0 = b.getD j 0) : a = b := by
  refine List.ext_getElem h fun j h1 h3 => ?_
  have := h2 j h1
  simpa [List.getD, h1, h3] using this

theorem Places.uniq {R a b qs : List Nat} (hR : Asc R) (ha : Places R a qs) (hb : Places R b qs) : a = b := by
  refine ext_getD (ha.1.trans hb.1.symm) fun j hj => ?_
  obtain ⟨a1, a2⟩ := ha.2 j (by rw [← ha.1]; exact hj)
  obtain ⟨b1, b2⟩ := hb.2 j (by rw [← ha.1]; exact hj)
  exact asc_inj hR a1 b1 (a2.trans b2.symm)

/-- The line of a prime. -/
def LineIs (R : List Nat) (p : Nat) (x : Ln) : Prop :=
  (p = 2 ∧ x = ⟨2, 0, []⟩) ∨ (p ≠ 2 ∧ ∃ (g : Nat) (ks qs : List Nat), x = ⟨(p : Int), (g : Int), zs ks⟩ ∧ Pf (p - 1) qs ∧ Places R ks qs ∧ LeastG p qs g)

theorem LineIs.uniq {R : List Nat} (hR : Asc R) {p : Nat} {x y : Ln} (hx : LineIs R p x) (hy : LineIs R p y) : x = y := by
  rcases hx with ⟨h1, rfl⟩ | ⟨h1, g, ks, qs, rfl, a1, a2, a3⟩
  · rcases hy with ⟨_, rfl⟩ | ⟨h2, _⟩
    · rfl
    · exact absurd h1 h2
  · rcases hy with ⟨h2, _⟩ | ⟨_, g', ks', qs', rfl, b1, b2, b3⟩
    · exact absurd h2 h1
    · obtain rfl := a1.uniq b1
      obtain rfl := a2.uniq hR b2
      obtain rfl := a3.uniq b3
      rfl

theorem LineIs.num {R : List Nat} {p : Nat} {x : Ln} (hx : LineIs R p x) : x.N = (p : Int) := by
  rcases hx with ⟨rfl, rfl⟩ | ⟨h1, g, ks, qs, rfl, _⟩
  · rfl
  · rfl

/-- All lines. -/
def Proof (R : List Nat) (ls : List Ln) : Prop := ls.length = R.length ∧ ∀ j, j < R.length → LineIs R (R.getD j 0) (ls.getD j Ln0)

theorem Proof.uniq {R : List Nat} (hR : Asc R) {a b : List Ln} (ha : Proof R a) (hb : Proof R b) : a = b := by
  refine List.ext_getElem (ha.1.trans hb.1.symm) fun j h1 h2 => ?_
  have := (ha.2 j (by rw [← ha.1]; exact h1)).uniq hR (hb.2 j (by rw [← ha.1]; exact h1))
  simpa [List.getD, h1, h2] using this

/-- All primes of m, divided out, leave 1. -/
theorem douts_pf {m : Nat} (hm : 1 ≤ m) {qs : List Nat} (h : Pf m qs) : douts qs m = 1 := by
  obtain ⟨h1, h2, h3⟩ := douts_all qs (fun q hq => ((h.2 q).1 hq).1.1) m hm
  rcases Nat.lt_or_ge (douts qs m) 2 with h4 | h4
  · omega
  · obtain ⟨p, hp, hd, _⟩ := least_prime h4
    exact absurd hd (h3 p ((h.2 p).2 ⟨hp, Nat.dvd_trans hd h2⟩))

theorem hold3_last {ls : List Ln} {g : Int} {p : Nat} (h3 : 3 ≤ p) {ks qs : List Nat} (hq : Pf (p - 1) qs) (hk : ks.length = qs.length)
    (hv : ∀ j, j < qs.length → ks.getD j 0 < ls.length ∧ (ls.getD (ks.getD j 0) Ln0).N = ((qs.getD j 0 : Nat) : Int)) : Hold3 ls g p (zs ks) ↔ Last g p qs := by
  have hval : ∀ j, j < qs.length → val ls ((ks.getD j 0 : Nat) : Int) = qs.getD j 0 := fun j hj => by
    unfold val
    rw [show (((ks.getD j 0 : Nat) : Int)).toNat = ks.getD j 0 by omega, (hv j hj).2]; omega
  have hmap : (zs ks).map (val ls) = qs := by
    refine ext_getD (by simp [zs, hk]) fun j hj => ?_
    have hj' : j < qs.length := by simpa [zs, hk] using hj
    have hj2 : j < ks.length := by omega
    have := hval j hj'
    simp only [zs, List.map_map, List.getD, List.getElem?_map, List.getElem?_eq_getElem hj2, Option.map_some, Option.getD_some, Function.comp] at this ⊢
    exact this
  have hmem : ∀ k ∈ zs ks, ∃ j, j < qs.length ∧ k = ((ks.getD j 0 : Nat) : Int) := fun k hk' => by
    obtain ⟨a, ha, rfl⟩ := List.mem_map.1 hk'
    obtain ⟨j, hj, e⟩ := mem_place ha
    exact ⟨j, by omega, by rw [e]⟩
  have hpr : ∀ j, j < qs.length → Pr (qs.getD j 0) ∧ qs.getD j 0 ∣ p - 1 := fun j hj => (hq.2 _).1 (place_mem hj)
  constructor
  · intro h
    refine ⟨h.one, fun q hqm => ?_⟩
    obtain ⟨j, hj, rfl⟩ := mem_place hqm
    have := (h.each ((ks.getD j 0 : Nat) : Int) (List.mem_map.2 ⟨_, place_mem (by omega), rfl⟩)).2.2.2
    rwa [hval j hj] at this
  · intro h
    refine ⟨h.1, fun k hk' => ?_, by rw [hmap]; exact douts_pf (by omega) hq⟩
    obtain ⟨j, hj, rfl⟩ := hmem k hk'
    obtain ⟨v1, v2⟩ := hv j hj
    obtain ⟨p1, p2⟩ := hpr j hj
    refine ⟨⟨by omega, by omega⟩, ?_, by rw [hval j hj]; exact p2, by rw [hval j hj]; exact h.2 _ (place_mem hj)⟩
    rw [show (((ks.getD j 0 : Nat) : Int)).toNat = ks.getD j 0 by omega, v2]
    have := p1.1
    omega

/-- Such lines hold. -/
theorem Proof.hold {n : Nat} (hn : Pr n) (hn2 : n ≤ 1048576) {R : List Nat} (hR : Rise n R) {ls : List Ln} (h : Proof R ls) : AllHold ls := by
  intro i hi
  rw [h.1] at hi
  have hN := (hR.2 _).1 (place_mem hi)
  have hpr := hN.pr hn
  have hle := hN.le hn
  rcases h.2 i hi with ⟨_, e⟩ | ⟨h2, g, ks, qs, e, hq, hpl, hg⟩
  · exact .inl (by rw [e])
  · have hp3 : 3 ≤ R.getD i 0 := by have := hpr.1; omega
    have hval : ∀ j, j < qs.length → ks.getD j 0 < (ls.take i).length ∧ ((ls.take i).getD (ks.getD j 0) Ln0).N = ((qs.getD j 0 : Nat) : Int) := fun j hj => by
      obtain ⟨k1, k2⟩ := hpl.2 j hj
      have hqd := (hq.2 _).1 (place_mem hj)
      have hlt : qs.getD j 0 < R.getD i 0 := by
        have := Nat.le_of_dvd (by omega) hqd.2
        omega
      rw [← k2] at hlt
      have hki := (asc_lt_iff hR.1 k1 hi).1 hlt
      have e1 : (ls.take i).getD (ks.getD j 0) Ln0 = ls.getD (ks.getD j 0) Ln0 := by
        obtain ⟨kk, hkk⟩ : ∃ kk, ks.getD j 0 = kk := ⟨_, rfl⟩
        rw [hkk] at hki ⊢
        simp [List.getD, hki]
      refine ⟨by rw [List.length_take, h.1]; omega, ?_⟩
      rw [e1, (h.2 _ k1).num, k2]
    refine .inr ?_
    rw [e]
    refine ⟨⟨by show (3 : Int) ≤ ((R.getD i 0 : Nat) : Int); omega, by show ((R.getD i 0 : Nat) : Int) ≤ 1048576; omega⟩, ⟨by show (1 : Int) ≤ (g : Int); have := hg.1.1; omega, by show (g : Int) < ((R.getD i 0 : Nat) : Int); have := hg.1.2.1; omega⟩, ?_⟩
    exact (hold3_last hp3 hq hpl.1 hval).2 hg.1.2.2

/-- The last one is the prime itself. -/
theorem Rise.last {n : Nat} (hn : Pr n) {R : List Nat} (hR : Rise n R) : 1 ≤ R.length ∧ R.getD (R.length - 1) 0 = n := by
  have hm : n ∈ R := (hR.2 n).2 .self
  obtain ⟨k, hk, e⟩ := mem_place hm
  refine ⟨by omega, ?_⟩
  rcases Nat.lt_or_ge k (R.length - 1) with h | h
  · exfalso
    have h1 := asc_lt hR.1 h (by omega)
    have h2 := ((hR.2 _).1 (place_mem (show R.length - 1 < R.length by omega))).le hn
    omega
  · rw [show R.length - 1 = k by omega]; exact e

end Go.Proofs.Ytmomlcibiklajaa.Calls41
