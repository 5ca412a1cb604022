/-
  Plain arithmetic, without the model: fields with finitely many elements: each element but 0 is a power of one.
-/
import Derived.Test.YtjpmkcijkcnfiaaNum12
namespace Go.Proofs.Ytjpmkcijkcnfiaa.Num20
set_option linter.unusedVariables false
open Go.Proofs.Ytjpmkcijkcnfiaa.Num Go.Proofs.Ytjpmkcijkcnfiaa.Num3 Go.Proofs.Ytjpmkcijkcnfiaa.Num6

/-- A field: what sums and products keep. -/
structure Fd (A : Type) where
  zero : A
  one : A
  add : A → A → A
  mul : A → A → A
  neg : A → A
  add_comm : ∀ a b, add a b = add b a
  add_assoc : ∀ a b c, add (add a b) c = add a (add b c)
  zero_add : ∀ a, add zero a = a
  neg_add : ∀ a, add (neg a) a = zero
  mul_comm : ∀ a b, mul a b = mul b a
  mul_assoc : ∀ a b c, mul (mul a b) c = mul a (mul b c)
  one_mul : ∀ a, mul one a = a
  mul_add : ∀ a b c, mul a (add b c) = add (mul a b) (mul a c)
  one_ne : one ≠ zero
  inv_ex : ∀ a, a ≠ zero → ∃ b, mul a b = one

theorem add_zero {A : Type} (F : Fd A) (a : A) : F.add a F.zero = a := by rw [F.add_comm, F.zero_add]

theorem add_left_comm {A : Type} (F : Fd A) (a b c : A) : F.add a (F.add b c) = F.add b (F.add a c) := by
  rw [← F.add_assoc, F.add_comm a b, F.add_assoc]

theorem add_cancel {A : Type} (F : Fd A) {a b c : A} (h : F.add a b = F.add a c) : b = c := by
  have := congrArg (F.add (F.neg a)) h
  rwa [← F.add_assoc, ← F.add_assoc, F.neg_add, F.zero_add, F.zero_add] at this

theorem mul_zero {A : Type} (F : Fd A) (a : A) : F.mul a F.zero = F.zero := by
  have h : F.add (F.mul a F.zero) (F.mul a F.zero) = F.add (F.mul a F.zero) F.zero := by
    rw [← F.mul_add, F.zero_add, add_zero]
  exact add_cancel F h

theorem mul_left_comm {A : Type} (F : Fd A) (a b c : A) : F.mul a (F.mul b c) = F.mul b (F.mul a c) := by
  rw [← F.mul_assoc, F.mul_comm a b, F.mul_assoc]

theorem mul_one {A : Type} (F : Fd A) (a : A) : F.mul a F.one = a := by rw [F.mul_comm, F.one_mul]

theorem add_mul {A : Type} (F : Fd A) (a b c : A) : F.mul (F.add a b) c = F.add (F.mul a c) (F.mul b c) := by
  rw [F.mul_comm, F.mul_add, F.mul_comm c a, F.mul_comm c b]

theorem neg_mul {A : Type} (F : Fd A) (a b : A) : F.mul (F.neg a) b = F.neg (F.mul a b) := by
  apply add_cancel F (a := F.mul a b)
  rw [← add_mul, F.add_comm a, F.neg_add, F.mul_comm, mul_zero, F.add_comm, F.neg_add]

theorem neg_neg {A : Type} (F : Fd A) (a : A) : F.neg (F.neg a) = a := by
  apply add_cancel F (a := F.neg a)
  rw [F.neg_add, F.add_comm, F.neg_add]

theorem no_zero {A : Type} (F : Fd A) {a b : A} (h : F.mul a b = F.zero) : a = F.zero ∨ b = F.zero := by
  rcases Classical.em (a = F.zero) with e | e
  · exact .inl e
  · right
    obtain ⟨c, hc⟩ := F.inv_ex a e
    have := congrArg (F.mul c) h
    rwa [← F.mul_assoc, F.mul_comm c a, hc, F.one_mul, mul_zero] at this

theorem mul_cancel {A : Type} (F : Fd A) {a b c : A} (ha : a ≠ F.zero) (h : F.mul a b = F.mul a c) : b = c := by
  obtain ⟨d, hd⟩ := F.inv_ex a ha
  have := congrArg (F.mul d) h
  rwa [← F.mul_assoc, ← F.mul_assoc, F.mul_comm d a, hd, F.one_mul, F.one_mul] at this

theorem sub_zero {A : Type} (F : Fd A) {a b : A} (h : F.add a (F.neg b) = F.zero) : a = b := by
  apply add_cancel F (a := F.neg b)
  rw [F.add_comm, h, F.neg_add]

/-! ### powers -/

def pw {A : Type} (F : Fd A) (a : A) : Nat → A
  | 0 => F.one
  | k + 1 => F.mul (pw F a k) a

theorem pw_add {A : Type} (F : Fd A) (a : A) (j : Nat) : ∀ k, pw F a (j + k) = F.mul (pw F a j) (pw F a k)
  | 0 => (mul_one F _).symm
  | k + 1 => by show F.mul (pw F a (j + k)) a = _; rw [pw_add F a j k, F.mul_assoc]; rfl

theorem pw_one {A : Type} (F : Fd A) (k : Nat) : pw F F.one k = F.one := by
  induction k with
  | zero => rfl
  | succ k ih => show F.mul (pw F F.one k) F.one = _; rw [ih, F.one_mul]

theorem pw_mul {A : Type} (F : Fd A) (a : A) (j : Nat) : ∀ k, pw F a (j * k) = pw F (pw F a j) k
  | 0 => rfl
  | k + 1 => by rw [Nat.mul_succ, pw_add, pw_mul F a j k]; rfl

theorem mul_pw {A : Type} (F : Fd A) (a b : A) : ∀ k, pw F (F.mul a b) k = F.mul (pw F a k) (pw F b k)
  | 0 => (F.one_mul _).symm
  | k + 1 => by
    show F.mul (pw F (F.mul a b) k) (F.mul a b) = F.mul (F.mul (pw F a k) a) (F.mul (pw F b k) b)
    rw [mul_pw F a b k, F.mul_assoc, F.mul_assoc, mul_left_comm F (pw F b k)]

theorem pw_ne {A : Type} (F : Fd A) {a : A} (h : a ≠ F.zero) : ∀ k, pw F a k ≠ F.zero
  | 0 => F.one_ne
  | k + 1 => fun e => by
    rcases no_zero F (show F.mul (pw F a k) a = F.zero from e) with e | e
    · exact pw_ne F h k e
    · exact h e

/-- When a power is 1 again. -/
def Ord {A : Type} (F : Fd A) (a : A) (o : Nat) : Prop := 1 ≤ o ∧ ∀ k, pw F a k = F.one ↔ o ∣ k

theorem Ord.uniq {A : Type} {F : Fd A} {a : A} {o o' : Nat} (h : Ord F a o) (h' : Ord F a o') : o = o' :=
  Nat.dvd_antisymm ((h.2 o').1 ((h'.2 o').2 (Nat.dvd_refl _))) ((h'.2 o).1 ((h.2 o).2 (Nat.dvd_refl _)))

theorem ord_ex {A : Type} (F : Fd A) {a : A} {n : Nat} (hn : 1 ≤ n) (h : pw F a n = F.one) : ∃ o, Ord F a o := by
  obtain ⟨o, ⟨h1, h2⟩, _, hm⟩ := least_ex (P := fun k => 1 ≤ k ∧ pw F a k = F.one) n ⟨hn, h⟩
  refine ⟨o, h1, fun k => ⟨fun hk => ?_, ?_⟩⟩
  · have e : k = o * (k / o) + k % o := (Nat.div_add_mod k o).symm
    rw [e, pw_add, pw_mul, h2, pw_one, F.one_mul] at hk
    rcases Nat.eq_zero_or_pos (k % o) with h0 | h0
    · exact Nat.dvd_of_mod_eq_zero h0
    · exact absurd ⟨h0, hk⟩ (hm _ (Nat.mod_lt _ h1))
  · rintro ⟨c, rfl⟩
    rw [pw_mul, h2, pw_one]

theorem Ord.pow {A : Type} {F : Fd A} {a : A} {s t : Nat} (h : Ord F a (s * t)) : Ord F (pw F a s) t := by
  have hs : 1 ≤ s ∧ 1 ≤ t := by
    have := h.1
    constructor
    · rcases Nat.eq_zero_or_pos s with e | e
      · subst e; simp at this
      · exact e
    · rcases Nat.eq_zero_or_pos t with e | e
      · subst e; simp at this
      · exact e
  refine ⟨hs.2, fun k => ?_⟩
  rw [← pw_mul, h.2]
  constructor
  · exact Nat.dvd_of_mul_dvd_mul_left hs.1
  · exact Nat.mul_dvd_mul_left s

theorem Ord.mul {A : Type} {F : Fd A} {a b : A} {s t : Nat} (ha : Ord F a s) (hb : Ord F b t) (hst : Nat.gcd s t = 1) : Ord F (F.mul a b) (s * t) := by
  refine ⟨Nat.mul_pos ha.1 hb.1, fun k => ⟨fun h => ?_, ?_⟩⟩
  · rw [mul_pw] at h
    -- by t, a's power alone is left
    have h1 : s ∣ t * k := (ha.2 _).1 (by
      have := congrArg (fun x => pw F x t) h
      simp only [mul_pw, pw_one, ← pw_mul] at this
      rw [(hb.2 (k * t)).2 (Nat.dvd_mul_left _ _), mul_one] at this
      rw [Nat.mul_comm]; exact this)
    have h2 : t ∣ s * k := (hb.2 _).1 (by
      have := congrArg (fun x => pw F x s) h
      simp only [mul_pw, pw_one, ← pw_mul] at this
      rw [(ha.2 (k * s)).2 (Nat.dvd_mul_left _ _), F.one_mul] at this
      rw [Nat.mul_comm]; exact this)
    exact Nat.Coprime.mul_dvd_of_dvd_of_dvd hst (Nat.Coprime.dvd_of_dvd_mul_left hst h1) (Nat.Coprime.dvd_of_dvd_mul_left (Nat.Coprime.symm hst) h2)
  · intro h
    rw [mul_pw, (ha.2 k).2 (Nat.dvd_trans (Nat.dvd_mul_right _ _) h), (hb.2 k).2 (Nat.dvd_trans (Nat.dvd_mul_left _ _) h), F.one_mul]

theorem ord_lcm {A : Type} (F : Fd A) {a b : A} {s t : Nat} (ha : Ord F a s) (hb : Ord F b t) : ∃ c, Ord F c (Nat.lcm s t) := by
  obtain ⟨s', t', ⟨u, hu⟩, ⟨v, hv⟩, hg, e⟩ := lcm_split s t ha.1 hb.1
  rw [hu, Nat.mul_comm] at ha
  rw [hv, Nat.mul_comm] at hb
  rw [← e]
  exact ⟨_, ha.pow.mul hb.pow hg⟩

/-! ### roots -/

def ev {A : Type} (F : Fd A) : List A → A → A
  | [], _ => F.zero
  | c :: cs, x => F.add c (F.mul x (ev F cs x))

def qt {A : Type} (F : Fd A) (r : A) : List A → List A
  | [] => []
  | [_] => []
  | _ :: c :: cs => ev F (c :: cs) r :: qt F r (c :: cs)

theorem qt_length {A : Type} (F : Fd A) (r : A) : ∀ f : List A, (qt F r f).length = f.length - 1
  | [] => rfl
  | [_] => rfl
  | _ :: c :: cs => by simp only [qt, List.length_cons, qt_length F r (c :: cs)]; omega

theorem ev_qt {A : Type} (F : Fd A) (r x : A) : ∀ f : List A, ev F f x = F.add (ev F f r) (F.mul (F.add x (F.neg r)) (ev F (qt F r f) x))
  | [] => by simp only [ev, qt]; rw [mul_zero, F.zero_add]
  | [c] => by simp only [ev, qt]; rw [mul_zero, mul_zero, mul_zero, add_zero, add_zero]
  | c :: d :: cs => by
    have ih := ev_qt F r x (d :: cs)
    show F.add c (F.mul x (ev F (d :: cs) x)) = F.add (F.add c (F.mul r (ev F (d :: cs) r))) (F.mul (F.add x (F.neg r)) (F.add (ev F (d :: cs) r) (F.mul x (ev F (qt F r (d :: cs)) x))))
    rw [ih]
    generalize ev F (d :: cs) r = E
    generalize ev F (qt F r (d :: cs)) x = K
    rw [F.add_assoc]
    congr 1
    rw [F.mul_add, F.mul_add, mul_left_comm F x, ← F.add_assoc, add_mul F x (F.neg r) E, neg_mul]
    congr 1
    rw [add_left_comm, F.add_comm (F.mul r E), F.neg_add, add_zero]

theorem qt_zero {A : Type} (F : Fd A) (r : A) : ∀ f : List A, ev F f r = F.zero → (∀ c ∈ qt F r f, c = F.zero) → ∀ c ∈ f, c = F.zero
  | [], _, _ => by simp
  | [c], h, _ => by
    intro x hx
    simp at hx; subst hx
    simp only [ev] at h
    rwa [mul_zero, add_zero] at h
  | c :: d :: cs, h, hq => by
    have h1 : ev F (d :: cs) r = F.zero := hq _ (by simp [qt])
    have h2 := qt_zero F r (d :: cs) h1 (fun x hx => hq x (by simp only [qt]; exact List.mem_cons_of_mem _ hx))
    intro x hx
    rcases List.mem_cons.1 hx with e | hx
    · subst e
      have h3 : F.add x (F.mul r (ev F (d :: cs) r)) = F.zero := h
      rwa [h1, mul_zero, add_zero] at h3
    · exact h2 x hx

/-- As many roots as there are numbers: then all numbers are 0. -/
theorem roots {A : Type} (F : Fd A) : ∀ (S : List A) (f : List A), f.length ≤ S.length → S.Nodup → (∀ x ∈ S, ev F f x = F.zero) → ∀ c ∈ f, c = F.zero := by
  intro S
  induction S with
  | nil =>
    intro f hl _ _
    have : f = [] := List.length_eq_zero_iff.1 (by simpa using hl)
    subst this; simp
  | cons r S ih =>
    intro f hl hS h
    obtain ⟨hr, hS'⟩ := List.nodup_cons.1 hS
    have h0 := h r (by simp)
    refine qt_zero F r f h0 (ih (qt F r f) (by rw [qt_length]; simp at hl; omega) hS' (fun x hx => ?_))
    have h1 := h x (by simp [hx])
    rw [ev_qt F r x f, h0, F.zero_add] at h1
    rcases no_zero F h1 with e | e
    · exact absurd (by rw [← sub_zero F e]; exact hx) hr
    · exact e

def mono {A : Type} (F : Fd A) : Nat → List A
  | 0 => [F.one]
  | n + 1 => F.zero :: mono F n

theorem ev_mono {A : Type} (F : Fd A) (x : A) : ∀ n, ev F (mono F n) x = pw F x n
  | 0 => by simp only [mono, ev, pw]; rw [mul_zero, add_zero]
  | n + 1 => by
    show F.add F.zero (F.mul x (ev F (mono F n) x)) = F.mul (pw F x n) x
    rw [F.zero_add, ev_mono F x n, F.mul_comm]

theorem mono_length {A : Type} (F : Fd A) : ∀ n, (mono F n).length = n + 1
  | 0 => rfl
  | n + 1 => by simp [mono, mono_length F n]

theorem one_mem {A : Type} (F : Fd A) : ∀ n, F.one ∈ mono F n
  | 0 => by simp [mono]
  | n + 1 => by simp [mono, one_mem F n]

/-- No more than n have the power n 1. -/
theorem root_bound {A : Type} (F : Fd A) {n : Nat} (hn : 1 ≤ n) (S : List A) (hS : S.Nodup) (h : ∀ x ∈ S, pw F x n = F.one) : S.length ≤ n := by
  obtain ⟨k, rfl⟩ : ∃ k, n = k + 1 := ⟨n - 1, by omega⟩
  rcases Nat.lt_or_ge (k + 1) S.length with hl | hl
  · exfalso
    have := roots F S (F.neg F.one :: mono F k) (by simp [mono_length]; omega) hS (fun x hx => by
      show F.add (F.neg F.one) (F.mul x (ev F (mono F k) x)) = F.zero
      rw [ev_mono, F.mul_comm, show F.mul (pw F x k) x = pw F x (k + 1) from rfl, h x hx, F.neg_add])
    exact F.one_ne (this F.one (by simp [one_mem]))
  · exact hl

/-! ### finitely many -/

theorem len_leA {A : Type} {l m : List A} : l.Nodup → (∀ x ∈ l, x ∈ m) → l.length ≤ m.length := by
  have hdec : DecidableEq A := fun a b => Classical.propDecidable (a = b)
  induction l generalizing m with
  | nil => intro _ _; exact Nat.zero_le _
  | cons x t ih =>
    intro hn hs
    obtain ⟨hx, hn'⟩ := List.nodup_cons.1 hn
    have hxm := hs x (by simp)
    have h1 := ih (m := m.erase x) hn' (fun y hy => by
      have hne : y ≠ x := by intro e; subst e; exact hx hy
      exact (List.mem_erase_of_ne hne).2 (hs y (by simp [hy])))
    rw [List.length_erase_of_mem hxm] at h1
    have : 1 ≤ m.length := List.length_pos_of_mem hxm
    rw [List.length_cons]; omega

/-- Each element but 0 comes round. -/
theorem ord_all {A : Type} (F : Fd A) {U : List A} (hU : ∀ a, a ≠ F.zero → a ∈ U) {a : A} (ha : a ≠ F.zero) : ∃ o, Ord F a o := by
  have h1 : ∃ i j, i < j ∧ pw F a i = pw F a j := by
    rcases Classical.em (∃ i j, i < j ∧ pw F a i = pw F a j) with h | h
    · exact h
    · exfalso
      have hn : ((List.range (U.length + 1)).map (pw F a)).Nodup := by
        refine List.pairwise_map.2 ?_
        refine (List.nodup_range (n := U.length + 1)).imp_of_mem (fun {i j} hi hj hne e => ?_)
        rcases Nat.lt_trichotomy i j with h2 | h2 | h2
        · exact h ⟨i, j, h2, e⟩
        · exact hne h2
        · exact h ⟨j, i, h2, e.symm⟩
      have := len_leA (m := U) hn (fun x hx => by
        obtain ⟨i, _, rfl⟩ := List.mem_map.1 hx
        exact hU _ (pw_ne F ha i))
      simp at this; omega
  obtain ⟨i, j, hij, e⟩ := h1
  refine ord_ex F (n := j - i) (by omega) (mul_cancel F (pw_ne F ha i) ?_)
  rw [← pw_add, mul_one, show i + (j - i) = j by omega]; exact e.symm

/-- One whose order all orders divide. -/
theorem lambda_ex {A : Type} (F : Fd A) {U : List A} (hU : ∀ a, a ≠ F.zero → a ∈ U) : ∃ c L, Ord F c L ∧ ∀ a, a ≠ F.zero → pw F a L = F.one := by
  have key : ∀ l : List A, ∃ c L, Ord F c L ∧ ∀ a ∈ l, a ≠ F.zero → pw F a L = F.one := by
    intro l
    induction l with
    | nil =>
      exact ⟨F.one, 1, ⟨Nat.le_refl _, fun k => ⟨fun _ => Nat.one_dvd k, fun _ => pw_one F k⟩⟩, by simp⟩
    | cons x l ih =>
      obtain ⟨c, L, hc, hl⟩ := ih
      rcases Classical.em (x = F.zero) with e | e
      · refine ⟨c, L, hc, fun a ha hne => ?_⟩
        rcases List.mem_cons.1 ha with e2 | e2
        · subst e2; exact absurd e hne
        · exact hl a e2 hne
      · obtain ⟨o, ho⟩ := ord_all F hU e
        obtain ⟨d, hd⟩ := ord_lcm F hc ho
        refine ⟨d, _, hd, fun a ha hne => ?_⟩
        rcases List.mem_cons.1 ha with e2 | e2
        · subst e2; exact (ho.2 _).2 (Nat.dvd_lcm_right _ _)
        · obtain ⟨k, hk⟩ := Nat.dvd_lcm_left L o
          rw [hk, pw_mul, hl a e2 hne, pw_one]
  obtain ⟨c, L, hc, hl⟩ := key U
  exact ⟨c, L, hc, fun a ha => hl a (hU a ha) ha⟩

/-- Gauss: one whose powers are all but 0; and Fermat. -/
theorem cyclic {A : Type} (F : Fd A) {U : List A} (hn : U.Nodup) (hU : ∀ a, a ∈ U ↔ a ≠ F.zero) : (∃ g, Ord F g U.length) ∧ ∀ a, a ≠ F.zero → pw F a U.length = F.one := by
  obtain ⟨c, L, hc, hl⟩ := lambda_ex F (fun a h => (hU a).2 h)
  have h1 := root_bound F hc.1 U hn (fun x hx => hl x ((hU x).1 hx))
  have hc0 : c ≠ F.zero := fun e => by
    have h2 := (hc.2 L).2 (Nat.dvd_refl _)
    have h3 := hc.1
    obtain ⟨k, rfl⟩ : ∃ k, L = k + 1 := ⟨L - 1, by omega⟩
    rw [e] at h2
    have : F.mul (pw F F.zero k) F.zero = F.one := h2
    rw [mul_zero] at this
    exact F.one_ne this.symm
  have h2 : L ≤ U.length := by
    have hnd : ((List.range L).map (pw F c)).Nodup := by
      refine List.pairwise_map.2 ?_
      refine (List.nodup_range (n := L)).imp_of_mem (fun {i j} hi hj hne e => ?_)
      have hi' := List.mem_range.1 hi
      have hj' := List.mem_range.1 hj
      have key : ∀ i j, i < j → j < L → pw F c i = pw F c j → False := fun i j h1 h2 e => by
        have e2 : pw F c (j - i) = F.one := mul_cancel F (pw_ne F hc0 i) (by
          rw [← pw_add, mul_one, show i + (j - i) = j by omega]; exact e.symm)
        have := Nat.le_of_dvd (by omega) ((hc.2 _).1 e2)
        omega
      rcases Nat.lt_trichotomy i j with h | h | h
      · exact key i j h hj' e
      · exact hne h
      · exact key j i h hi' e.symm
    have := len_leA (m := U) hnd (fun x hx => by
      obtain ⟨i, _, rfl⟩ := List.mem_map.1 hx
      exact (hU _).2 (pw_ne F hc0 i))
    simpa using this
  have e : L = U.length := by omega
  subst e
  exact ⟨⟨c, hc⟩, hl⟩

end Go.Proofs.Ytjpmkcijkcnfiaa.Num20
