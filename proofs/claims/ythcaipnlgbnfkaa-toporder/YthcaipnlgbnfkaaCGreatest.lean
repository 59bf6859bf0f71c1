/-
  plumeref.Greatest returns the places of the greatest, in a row of its own; nothing that was there is written.
-/
import Derived.Test.YthcaipnlgbnfkaaM15
import Derived.Test.YthcaipnlgbnfkaaM4
import Derived.Test.YthcaipnlgbnfkaaPureB
namespace Go.Proofs.Ythcaipnlgbnfkaa
open Go.RowKit Fm
set_option linter.unusedVariables false


end Go.Proofs.Ythcaipnlgbnfkaa
