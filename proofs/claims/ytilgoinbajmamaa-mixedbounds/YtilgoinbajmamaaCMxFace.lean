/-
  mixed.Solve: what it answers.
-/
import Derived.Test.YtilgoinbajmamaaCMxSolve
import Derived.Test.YtilgoinbajmamaaCMxStep
namespace Go.Proofs.Ytilgoinbajmamaa
theorem mSolve : MSolve := mSolve_of mStepP
end Go.Proofs.Ytilgoinbajmamaa
