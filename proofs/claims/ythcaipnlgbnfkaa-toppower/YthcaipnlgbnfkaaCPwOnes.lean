/-
  math/bits.OnesCount at sets of up to six players: how many there are; nothing is written.
-/
import Derived.Test.YthcaipnlgbnfkaaCPwFact
import Derived.Test.YthcaipnlgbnfkaaArrCount
namespace Go.Proofs.Ythcaipnlgbnfkaa
open Go.RowKit Fm
set_option linter.unusedVariables false


set_option maxHeartbeats 4000000 in
set_option maxRecDepth 100000 in
theorem ones64_any (S : Nat) (hS : S < 64) (w : World) : Calls Try.prog 125 #[.int .u64 S] w fun e w' => e = .returned (.int .i64 (onesN S : Nat)) ∧ w = w' := by
  go_enter Try.func125, Try.ntmps125
  go_wp2
  go_ret
  refine ⟨?_, rfl⟩
  show Ending.returned (.int .i64 (bits BinOp.and .i64 _ 127)) = _
  refine congrArg (fun z => Ending.returned (.int .i64 z)) ?_
  revert hS
  revert S
  decide +kernel

set_option maxHeartbeats 1000000 in
set_option maxRecDepth 100000 in
theorem ones_any (S : Nat) (hS : S < 64) (w : World) : Calls Try.prog 108 #[.int .u64 S] w fun e w' => e = .returned (.int .i64 (onesN S : Nat)) ∧ w = w' := by
  have Q : Hid (∀ w : World, Calls Try.prog 125 #[.int .u64 S] w fun e w' => e = .returned (.int .i64 (onesN S : Nat)) ∧ w = w') := fun w => ones64_any S hS w
  go_enter Try.func108, Try.ntmps108
  go_wp2_with fail
  refine (Q.out w).mono ?_
  rintro e w' ⟨rfl, rfl⟩
  go_wp2
  go_ret
  exact ⟨rfl, rfl⟩
end Go.Proofs.Ythcaipnlgbnfkaa
