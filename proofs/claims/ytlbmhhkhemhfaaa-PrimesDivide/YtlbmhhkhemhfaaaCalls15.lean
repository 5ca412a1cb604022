/-
  What spread answers: a list of numbers times each power of a prime.
-/
import Derived.Test.YtlbmhhkhemhfaaaCalls9
import Derived.Test.YtlbmhhkhemhfaaaNum5
import Derived.Deep.RegionLaw
import Derived.Deep.AppendLies
namespace Go.Proofs.Ytlbmhhkhemhfaaa.Calls15
set_option linter.unusedVariables false
open Go.ChangeShapes Go.WideShapes Go.ChangeAt Go.RowKit Go.Proofs.Ytlbmhhkhemhfaaa.Num Go.Proofs.Ytlbmhhkhemhfaaa.Num5 Go.Proofs.Ytlbmhhkhemhfaaa.Calls7 Go.Proofs.Ytlbmhhkhemhfaaa.Calls8 Go.Proofs.Ytlbmhhkhemhfaaa.Calls9

theorem infoI : (Try.prog.info? 2).map (fun i => (i.zero, i.size, i.bytes)) = some (some (.int .i64 0), 1, 8) := by kernel_rfl

def zs (l : List Nat) : List Int := l.map (fun x : Nat => (x : Int))

theorem zs_length (l : List Nat) : (zs l).length = l.length := by simp [zs]

/-- One by one, as Go reckons. -/
def spI (xs : List Int) (p : Int) : Nat → List Int
  | 0 => xs
  | j + 1 => spI xs p j ++ [IntKind.i64.wrap ((spI xs p j).getD j 0 * p)]

theorem spI_length (xs : List Int) (p : Int) : ∀ j, (spI xs p j).length = xs.length + j
  | 0 => rfl
  | j + 1 => by simp [spI, spI_length xs p j]; omega

def ivals (l : List Int) : List Value := l.map (Value.int .i64)

theorem ivals_length (l : List Int) : (ivals l).length = l.length := by simp [ivals]

theorem ivals_snoc (l : List Int) (x : Int) : ivals (l ++ [x]) = ivals l ++ [.int .i64 x] := by simp [ivals]

theorem ivals_get {l : List Int} {j : Nat} (h : j < l.length) : (ivals l)[j]? = some (.int .i64 (l.getD j 0)) := by
  simp [ivals, List.getD, h]

theorem grown_more {A B C : World} {g g1 : Nat} (h : A.grownBy B (some g)) (o : Obj) (hs : ((B.alloc o).drew).grownBy C (some g1)) (hg : g1 = g ∨ A.heap.size ≤ g1) : A.grownBy C (some g) := by
  have hb : Below A.heap.size B ((B.alloc o).drew) := ((Below.refl _ B).alloc h.size o).drew
  refine ⟨hs.os.trans (hb.os.trans h.os), hs.tape.trans (hb.tape.trans h.tape), hs.output.trans (hb.output.trans h.output), Nat.le_trans h.size (Nat.le_trans hb.size hs.size), fun k hk hne => ?_⟩
  have h1 := hs.block k (Nat.lt_of_lt_of_le hk (Nat.le_trans h.size hb.size)) (fun e => by
    cases e
    rcases hg with e | e
    · exact hne (by rw [e])
    · omega)
  exact h1.trans ((hb.block k hk).trans (h.block k hk hne))

theorem wrap_small {x : Int} (h1 : 0 ≤ x) (h2 : x ≤ 1048576) : IntKind.i64.wrap x = x := by
  rw [IntKind.wrap_i64]; omega

theorem grown_at {A B : World} {g g1 g2 a b : Nat} (h : (Value.slice (some ⟨g1, 0, none⟩) a b).ownBlock = some g2 ∨ g2 = B.heap.size + 1) (hs : A.heap.size ≤ B.heap.size) (hg : g1 = g ∨ A.heap.size ≤ g1) : g2 = g ∨ A.heap.size ≤ g2 := by
  rcases h with h | h
  · have e : g1 = g2 := by simpa [Value.ownBlock] using h
    subst e; exact hg
  · right; omega

theorem measS {j M : Nat} (h : j < M) : ((M : Int) - ((j : Int) + 1)).toNat < ((M : Int) - (j : Int)).toNat := by omega

theorem one_news {W : World} {t : TypeId} {a : Value} : ∀ j u, ([a] : List Value)[j]? = some u → ((W.alloc (.cells #[a] t)).drew).cell? ((⟨W.heap.size, 0, none⟩ : Addr).add j) = some u := by
  intro j u hj
  match j, hj with
  | 0, hj => simp at hj; subst hj; simp [Addr.add]

set_option maxRecDepth 100000 in
set_option maxHeartbeats 1000000 in
theorem spread_any (base g cap p k : Nat) (xs : List Int) (w : World) (h1 : 1 ≤ xs.length) (hbd : xs.length * (k + 1) ≤ 1099511627776) (hk : k ≤ 20) (hbase : base ≤ w.heap.size)
    (hown : w.ownsRow base 2 1 (.slice (some ⟨g, 0, none⟩) xs.length cap) xs.length (ivals xs)) :
    Calls Try.prog 27 #[.slice (some ⟨g, 0, none⟩) xs.length cap, .agg #[.int .i64 (p : Int), .int .i64 (k : Int)]] w fun e w' =>
      ∃ g' cap', e = .returned (.slice (some ⟨g', 0, none⟩) (spI xs p (xs.length * k)).length cap') ∧ w'.ownsRow base 2 1 (.slice (some ⟨g', 0, none⟩) (spI xs p (xs.length * k)).length cap') (spI xs p (xs.length * k)).length (ivals (spI xs p (xs.length * k))) ∧ w.grownBy w' (some g) := by
  obtain ⟨i0, hi, hz0, hz1, hz2⟩ := info_parts infoI
  obtain ⟨n, hn⟩ : ∃ n, n = xs.length := ⟨_, rfl⟩
  have HN : Hid (n = xs.length) := hn
  rw [← hn] at h1 hbd hown ⊢
  have hglt : g < w.heap.size := (hown.lt g rfl).2
  have hnk : n * k ≤ 1099511627776 := by
    have : n * k ≤ n * (k + 1) := Nat.mul_le_mul_left n (by omega)
    omega
  have hnk' : (n : Int) * (k : Int) ≤ 1099511627776 := by have h := Int.ofNat_le.2 hnk; rw [Int.natCast_mul] at h; omega
  have hnk0 : 0 ≤ (n : Int) * (k : Int) := by exact_mod_cast Nat.zero_le (n * k)
  have hbox := BoxC.new w 44 #[.int .i64 (p : Int), .int .i64 (k : Int)]
  have hG0 : (w.alloc (.cells #[.int .i64 (p : Int), .int .i64 (k : Int)] 44)).grownBy (w.alloc (.cells #[.int .i64 (p : Int), .int .i64 (k : Int)] 44)) (some g) := ⟨rfl, rfl, rfl, Nat.le_refl _, fun _ _ _ => rfl⟩
  have hown0 := hown.alloc (.cells #[.int .i64 (p : Int), .int .i64 (k : Int)] 44)
  obtain ⟨M, hMe⟩ : ∃ M, n * k = M := ⟨_, rfl⟩
  have hMc : (n : Int) * (k : Int) = (M : Int) := by rw [← hMe, Int.natCast_mul]
  have hMb : M ≤ 1099511627776 := by omega
  have hnb : n ≤ 1099511627776 := by
    have : n * 1 ≤ n * (k + 1) := Nat.mul_le_mul_left n (by omega)
    omega
  rw [hMe]
  clear hn
  go_enter Try.func27, Try.ntmps27
  go_wp2
  clear hMc hnk' hnk0
  obtain ⟨W0, hW0⟩ : ∃ W0, w.alloc (.cells #[.int .i64 (p : Int), .int .i64 (k : Int)] 44) = W0 := ⟨_, rfl⟩
  have hsz0 : W0.heap.size = w.heap.size + 1 := by rw [← hW0]; simp
  have HW0 : Hid (w.grownBy W0 none) := by show w.grownBy W0 none; rw [← hW0]; exact World.grownBy_alloc _ _ _
  rw [hW0] at hG0 hown0 hbox ⊢
  clear hW0
  go_loopw [0, 11] (fun v i wr => ∃ (j g1 c1 : Nat), v = .slice (some ⟨g1, 0, none⟩) (n + j) c1 ∧ i = .int .i64 (j : Int) ∧ j ≤ M ∧ wr.ownsRow base 2 1 (.slice (some ⟨g1, 0, none⟩) (n + j) c1) (n + j) (ivals (spI xs p j)) ∧ W0.grownBy wr (some g) ∧ (g1 = g ∨ W0.heap.size ≤ g1)) (fun v i wr => ((M : Int) - intOf i).toNat)
  case atStart => exact ⟨0, g, cap, rfl, rfl, by omega, hown0, hG0, .inl rfl⟩
  case round =>
    obtain ⟨j, g1, c1, rfl, rfl, hj, hownR, hG, hg1⟩ := hrel
    by_cases hgo : j < M
    · have hgo' : (j : Int) < (M : Int) := by omega
      have hjn : (j : Int) < (n : Int) + (j : Int) := by omega
      have hj0 : (0 : Int) ≤ (j : Int) := by omega
      have hlen : (spI xs p j).length = n + j := by rw [spI_length, ← HN.out]
      have hc1 : wr.cell? ⟨g1, j, none⟩ = some (.int .i64 ((spI xs p j).getD j 0)) := by
        rw [hownR.cellAt j (by omega)]
        exact ivals_get (by omega)
      have hne : (some w.heap.size : Option Nat) ≠ some g := fun e => by
        have e' : w.heap.size = g := by simpa using e
        omega
      have hc2 : wr.cell? ⟨w.heap.size, 0, none⟩ = some (.int .i64 (p : Int)) := hG.cell (hbox.cell 0) hne
      have hsnoc : Hid (ivals (spI xs p (j + 1)) = ivals (spI xs p j) ++ [.int .i64 (IntKind.i64.wrap ((spI xs p j).getD j 0 * (p : Int)))]) := ivals_snoc _ _
      obtain ⟨a, ha⟩ : ∃ a, (spI xs p j).getD j 0 = a := ⟨_, rfl⟩
      rw [ha] at hc1 hsnoc
      have hbs : base ≤ wr.heap.size := by have := hG.size; omega
      clear hlen ha
      go_wp2
      go_region_law ((refine step_append_lies _ (by rfl) _ _ _ (by rfl) base 2 i0 (.int .i64 0) 1 8 Try.underlying38 hi hz0 hz1 hz2 rfl (by decide) (.slice (some ⟨g1, 0, none⟩) (n + j) c1) (n + j) (ivals (spI xs p j)) (by rfl) ((hownR.alloc _).drew) ⟨wr.heap.size, 0, none⟩ 1 1 [.int .i64 (IntKind.i64.wrap (a * (p : Int)))] (by rfl) (by rfl) one_news (by simp [Value.oneCell']) (by omega) (by unfold maxLen; omega) (by omega) (by simp; omega) (wr.heap.size + 1) (by simp) ?_; intro g2 c2 w2 hown2 hgrow2 hat2 hlt2))
      all_goals go_wp2
      all_goals (rw [← hsnoc.out] at hown2)
      all_goals go_roundw
      case rel => exact ⟨j + 1, g2, c2, rfl, by simp, by omega, hown2, grown_more hG _ hgrow2 hg1, (grown_at hat2 hG.size hg1)⟩
      case measure => exact measS hgo
      case rel => exact ⟨j + 1, g2, c2, rfl, by simp, by omega, hown2, grown_more hG _ hgrow2 hg1, (grown_at hat2 hG.size hg1)⟩
      case measure => exact measS hgo
    · have hgo' : ¬ (j : Int) < (M : Int) := by omega
      obtain rfl : j = M := by omega
      have hlen : Hid ((spI xs p j).length = n + j) := by show _ = _; rw [spI_length, ← HN.out]
      go_wp2
      go_ret
      refine ⟨g1, c1, by rw [hlen.out]; rfl, by rw [hlen.out]; exact hownR, ?_⟩
      exact ⟨hG.os.trans HW0.out.os, hG.tape.trans HW0.out.tape, hG.output.trans HW0.out.output, Nat.le_trans HW0.out.size hG.size, fun k' hk' hne => (hG.block k' (Nat.lt_of_lt_of_le hk' HW0.out.size) hne).trans (HW0.out.block k' hk' (by simp))⟩

/-- Where nothing wraps it is what arithmetic says. -/
theorem spI_eq (xs : List Nat) (p k : Nat) (hM : ∀ d ∈ big xs p k, d ≤ 1048576) : ∀ i j, j + i = xs.length * k → spI (zs xs) p j = zs (sp xs p j) := by
  have hm : ∀ i j, j + i = xs.length * k → ∀ d ∈ sp xs p j, d ∈ big xs p k := by
    intro i
    induction i with
    | zero =>
      intro j hj d hd
      rw [← sp_all, ← hj]; exact hd
    | succ i ih =>
      intro j hj d hd
      exact ih (j + 1) (by omega) d (List.mem_append_left _ hd)
  intro i j
  induction j generalizing i with
  | zero => intro _; rfl
  | succ j ih =>
    intro hj
    have h1 := ih (i + 1) (by omega)
    have h2 : (zs (sp xs p j)).getD j 0 = (((sp xs p j).getD j 0 : Nat) : Int) := by
      simp only [zs, List.getD, List.getElem?_map]
      cases (sp xs p j)[j]? <;> simp
    have h3 := hM _ (hm i (j + 1) hj _ (show (sp xs p j).getD j 0 * p ∈ sp xs p (j + 1) from List.mem_append_right _ (by simp)))
    show spI (zs xs) p j ++ [IntKind.i64.wrap ((spI (zs xs) p j).getD j 0 * (p : Int))] = zs (sp xs p j ++ [(sp xs p j).getD j 0 * p])
    rw [h1, h2, ← Int.natCast_mul, wrap_small (by omega) (by omega)]
    simp [zs]

def dvI (l : List (Nat × Nat)) : List Int := l.foldl (fun xs q => spI xs q.1 (xs.length * q.2)) [1]

theorem dvI_snoc (l : List (Nat × Nat)) (q : Nat × Nat) : dvI (l ++ [q]) = spI (dvI l) q.1 ((dvI l).length * q.2) := by simp [dvI]

theorem dvI_len (l : List (Nat × Nat)) (h : ∀ x ∈ l, x.2 ≤ 20) : 1 ≤ (dvI l).length ∧ (dvI l).length ≤ 21 ^ l.length := by
  have key : ∀ (l : List (Nat × Nat)) (xs : List Int), (∀ x ∈ l, x.2 ≤ 20) → 1 ≤ xs.length → 1 ≤ (l.foldl (fun xs q => spI xs q.1 (xs.length * q.2)) xs).length ∧ (l.foldl (fun xs q => spI xs q.1 (xs.length * q.2)) xs).length ≤ xs.length * 21 ^ l.length := by
    intro l
    induction l with
    | nil => intro xs _ h1; simpa using h1
    | cons q l ih =>
      intro xs hx h1
      have hq := hx q (by simp)
      have hl : (spI xs q.1 (xs.length * q.2)).length = xs.length * (q.2 + 1) := by rw [spI_length, Nat.mul_succ]; omega
      have h2 := ih (spI xs q.1 (xs.length * q.2)) (fun x hx' => hx x (by simp [hx'])) (by rw [hl]; exact Nat.mul_le_mul h1 (show 1 ≤ q.2 + 1 by omega))
      rw [List.foldl_cons]
      refine ⟨h2.1, Nat.le_trans h2.2 ?_⟩
      rw [hl, List.length_cons, Nat.pow_succ, Nat.mul_comm (21 ^ l.length) 21, ← Nat.mul_assoc]
      exact Nat.mul_le_mul_right _ (Nat.mul_le_mul_left _ (by omega))
  have := key l [1] h (by simp)
  simpa [dvI] using this

theorem dvI_eq {m : Nat} {l : List (Nat × Nat)} (hF : Fac m l) (hm : m ≤ 1048576) : dvI l = zs (dv l) := by
  have key : ∀ (l : List (Nat × Nat)) (xs : List Nat) (m' : Nat), All xs m' → 1 ≤ m' → (∀ x ∈ l, Pr x.1 ∧ 1 ≤ x.2) → l.Pairwise (fun x y => x.1 < y.1) → (∀ x ∈ l, ¬ x.1 ∣ m') → m' * pd l ≤ 1048576 →
      l.foldl (fun xs q => spI xs q.1 (xs.length * q.2)) (zs xs) = zs (l.foldl (fun xs q => big xs q.1 q.2) xs) := by
    intro l
    induction l with
    | nil => intro xs m' _ _ _ _ _ _; rfl
    | cons q l ih =>
      intro xs m' hA hm' hp hw hn hb
      obtain ⟨hp1, hk1⟩ := hp q (by simp)
      have hA2 := hA.step (k := q.2) hp1 hm' (hn q (by simp))
      have hpos : 1 ≤ m' * q.1 ^ q.2 := Nat.mul_le_mul hm' (Nat.pow_pos (by have := hp1.1; omega))
      have hpl : 1 ≤ pd l := pd_pos (fun x hx => hp x (by simp [hx]))
      have hb2 : m' * q.1 ^ q.2 * pd l ≤ 1048576 := by rw [Nat.mul_assoc]; exact hb
      have hb3 : m' * q.1 ^ q.2 * 1 ≤ m' * q.1 ^ q.2 * pd l := Nat.mul_le_mul_left _ hpl
      have e := spI_eq xs q.1 q.2 (fun d hd => by
        have := Nat.le_of_dvd (by omega) ((hA2.2 d).1 hd)
        omega) 0 (xs.length * q.2) (by omega)
      rw [List.foldl_cons, List.foldl_cons, zs_length, e, sp_all]
      refine ih (big xs q.1 q.2) (m' * q.1 ^ q.2) hA2 hpos (fun y hy => hp y (by simp [hy])) (List.pairwise_cons.1 hw).2 (fun y hy hd => ?_) hb2
      rcases (hp y (by simp [hy])).1.dvd_mul hd with h | h
      · exact hn y (by simp [hy]) h
      · have e := (hp y (by simp [hy])).1.eq_of_dvd hp1 ((hp y (by simp [hy])).1.dvd_pow h)
        have := (List.pairwise_cons.1 hw).1 y hy
        omega
  have := key l [1] 1 all_one (Nat.le_refl _) hF.1 hF.2.1 (fun x hx hd => by
    have := Nat.le_of_dvd (by omega) hd
    have := (hF.1 x hx).1.1
    omega) (by rw [Nat.one_mul, hF.2.2]; exact hm)
  exact this

end Go.Proofs.Ytlbmhhkhemhfaaa.Calls15
