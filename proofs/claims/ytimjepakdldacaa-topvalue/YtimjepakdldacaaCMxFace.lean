/-
  mixed.Solve: what it answers.
-/
import Derived.Test.YtimjepakdldacaaCMxSolve
import Derived.Test.YtimjepakdldacaaCMxStep
namespace Go.Proofs.Ytimjepakdldacaa
theorem mSolve : MSolve := mSolve_of mStepP
end Go.Proofs.Ytimjepakdldacaa
