/-
  What the contracts of package duel say, each as a statement of its own: the laws above are proved from them; they are proved of the package's own text apart.
-/
import Derived.Test.YtimjepakdldacaaOuts
import Derived.Test.YtimjepakdldacaaPureA
namespace Go.Proofs.Ytimjepakdldacaa
open Go.RowKit Fm
set_option linter.unusedVariables false

/-- A table, right or wrong, that a machine can hold. -/
def TabIn (w : World) (a : Option Addr) (m : Nat) (M : List (List Int)) : Prop := ∃ B, B ≤ w.heap.size ∧ RdR w B a m M ∧ m ≤ 17592186044416 ∧ ∀ l ∈ M, l.length ≤ 17592186044416
theorem TabIn.below {w w' : World} {a : Option Addr} {m : Nat} {M : List (List Int)} (h : TabIn w a m M) (hb : Below w.heap.size w w') : TabIn w' a m M := by
  obtain ⟨B, h1, h2, h3⟩ := h
  exact ⟨B, Nat.le_trans h1 hb.size, h2.below hb h1, h3⟩
theorem TabIn.drewN {w : World} {a : Option Addr} {m : Nat} {M : List (List Int)} (h : TabIn w a m M) (k : Nat) : TabIn (w.drewN k) a m M := h










end Go.Proofs.Ytimjepakdldacaa
