/-
  plumeref.Low: what it returns; nothing that was there is written.
-/
import Derived.Test.YtimjepakdldacaaLowMath
import Derived.Test.YtimjepakdldacaaMixP
import Derived.BigRegion
import Derived.RegionTactic
import Derived.BigQuiet
import Derived.Deep.QuietTactic
namespace Go.Proofs.Ytimjepakdldacaa
open Go.RowKit Fm
set_option linter.unusedVariables false

/-- What Low leaves. -/
def LowOut (p q : Int) (w : World) (e : Ending) (w' : World) : Prop := ∃ P Q g : Int, 1 ≤ g ∧ p = P * g ∧ q = Q * g ∧ Int.gcd P Q = 1 ∧ e = .returned (.agg #[.int .i64 P, .int .i64 Q]) ∧ Below w.heap.size w w'

