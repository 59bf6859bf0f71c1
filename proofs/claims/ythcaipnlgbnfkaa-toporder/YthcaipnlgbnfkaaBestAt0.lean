/-
  What is best so far, in a walk over orders; comparisons with nil.
-/
import Derived.Test.YthcaipnlgbnfkaaM3
namespace Go.Proofs.Ythcaipnlgbnfkaa
open Go.RowKit Fm
set_option linter.unusedVariables false

set_option maxRecDepth 100000 in
theorem nil_nilB (w : World) : Sem.run Try.prog (binOp BinOp.eql 22 (.slice none 0 0) (.slice none 0 0)) w = .ok (.bool true) w := rfl
set_option maxRecDepth 100000 in
theorem some_nilB (x : Addr) (n c : Nat) (w : World) : Sem.run Try.prog (binOp BinOp.eql 22 (.slice (some x) n c) (.slice none 0 0)) w = .ok (.bool false) w := rfl

/-- What is best so far. -/
def BestAt (B n : Nat) (V L : List (List Int)) (w : World) (k : Nat) (bv lv : Value) : Prop :=
  (k = 0 → bv = .slice none 0 0 ∧ lv = .int .i64 0) ∧ (0 < k → ∃ g c, bv = .slice (some ⟨g, 0, none⟩) n c ∧ lv = .int .i64 (nearTo V L k).2 ∧ w.ownsRow B 3 1 (.slice (some ⟨g, 0, none⟩) n c) n (I (nearTo V L k).1))
end Go.Proofs.Ythcaipnlgbnfkaa
