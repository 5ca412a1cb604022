/-
  Where two leafs clash: package tree's Clash, where there is no such place.
-/
import Derived.Test.YthjmmibfgphlhaaCalls144
namespace Go.Proofs.Ythjmmibfgphlhaa.Calls146
set_option linter.unusedVariables false
open Go.ChangeShapes Go.WideShapes Go.ChangeAt Go.RowKit Go.Deep Go.Proofs.Ythjmmibfgphlhaa.Base Go.Proofs.Ythjmmibfgphlhaa.Base2 Go.Proofs.Ythjmmibfgphlhaa.Base7 Go.Proofs.Ythjmmibfgphlhaa.Base8 Go.Proofs.Ythjmmibfgphlhaa.Base9 Go.Proofs.Ythjmmibfgphlhaa.Num55 Go.Proofs.Ythjmmibfgphlhaa.Num60 Go.Proofs.Ythjmmibfgphlhaa.Calls126 Go.Proofs.Ythjmmibfgphlhaa.Calls127 Go.Proofs.Ythjmmibfgphlhaa.Calls128 Go.Proofs.Ythjmmibfgphlhaa.Calls133 Go.Proofs.Ythjmmibfgphlhaa.Calls134 Go.Proofs.Ythjmmibfgphlhaa.Calls135 Go.Proofs.Ythjmmibfgphlhaa.Calls141 Go.Proofs.Ythjmmibfgphlhaa.Calls142 Go.Proofs.Ythjmmibfgphlhaa.Calls143 Go.Proofs.Ythjmmibfgphlhaa.Calls144

theorem two_e (c d : Int) : ∀ w, (Instr.index 61 (.agg #[.int .i64 c, .int .i64 d]) (.int .i64 0)).run Try.prog w = .ok (.int .i64 c) w := fun _ => by kernel_rfl

theorem two_f (c d : Int) : ∀ w, (Instr.index 61 (.agg #[.int .i64 c, .int .i64 d]) (.int .i64 1)).run Try.prog w = .ok (.int .i64 d) w := fun _ => by kernel_rfl

set_option maxRecDepth 100000 in
set_option maxHeartbeats 1000000 in
theorem Clash_first (n i : Int) (ao po bo qo : Option Addr) (ma ca kp cp mb cb kq cq : Nat) (c d : Int) (hc : PlC n i ma kp c) (hd : PlC n i mb kq d) (h0 : c ≠ 0) (hma : ma ≤ 9223372036854775807) (hmb : mb ≤ 9223372036854775807) (w : World) :
    Calls Try.prog 19 #[.int .i64 n, .int .i64 i, .slice ao ma ca, .slice po kp cp, .slice bo mb cb, .slice qo kq cq] w fun e w' => e = .returned (.tuple #[.slice none 0 0, .slice none 0 0, .int .i64 c]) ∧ w' = w := by
  have cA := checkProof_any n i ao po ma kp ca cp c hc hma w
  have cB := checkProof_any n i bo qo mb kq cb cq d hd hmb w
  have i0 := two_e c d
  clear hc hd
  go_enter Try.func19, Try.ntmps19
  go_wp2_with (first
    | (go_at_call 32; refine cA.mono ?_; clear cA; rintro e w1 ⟨rfl, hw⟩; subst w1)
    | (go_at_call 32; refine cB.mono ?_; clear cB; rintro e w1 ⟨rfl, hw⟩; subst w1))
  go_loop [33] (fun i => i = .int .i64 0) (fun i => 2 - (intOf i).toNat)
  case atStart => rfl
  case round =>
    obtain rfl := hrel
    go_wp2
    go_ret3
    exact ⟨rfl, rfl⟩

set_option maxRecDepth 100000 in
set_option maxHeartbeats 1000000 in
theorem Clash_second (n i : Int) (ao po bo qo : Option Addr) (ma ca kp cp mb cb kq cq : Nat) (d : Int) (hc : PlC n i ma kp 0) (hd : PlC n i mb kq d) (h0 : d ≠ 0) (hma : ma ≤ 9223372036854775807) (hmb : mb ≤ 9223372036854775807) (w : World) :
    Calls Try.prog 19 #[.int .i64 n, .int .i64 i, .slice ao ma ca, .slice po kp cp, .slice bo mb cb, .slice qo kq cq] w fun e w' => e = .returned (.tuple #[.slice none 0 0, .slice none 0 0, .int .i64 d]) ∧ w' = w := by
  have cA := checkProof_any n i ao po ma kp ca cp 0 hc hma w
  have cB := checkProof_any n i bo qo mb kq cb cq d hd hmb w
  have i0 := two_e 0 d
  have i1 := two_f 0 d
  clear hc hd
  go_enter Try.func19, Try.ntmps19
  go_wp2_with (first
    | (go_at_call 32; refine cA.mono ?_; clear cA; rintro e w1 ⟨rfl, hw⟩; subst w1)
    | (go_at_call 32; refine cB.mono ?_; clear cB; rintro e w1 ⟨rfl, hw⟩; subst w1))
  go_loop [33] (fun i => i = .int .i64 0 ∨ i = .int .i64 1) (fun i => 2 - (intOf i).toNat)
  case atStart => exact .inl rfl
  case round =>
    rcases hrel with rfl | rfl
    · go_wp2
      go_round
      case rel => exact .inr rfl
      case measure => simp [intOf]
    · go_wp2
      go_ret3
      exact ⟨rfl, rfl⟩

end Go.Proofs.Ythjmmibfgphlhaa.Calls146
