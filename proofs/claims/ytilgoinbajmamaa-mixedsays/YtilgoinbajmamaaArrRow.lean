/-
  A row as a function from places: an array of n numbers.
-/
import Derived.Test.YtilgoinbajmamaaProg
import Derived.Lib.Hide
namespace Go.Proofs.Ytilgoinbajmamaa
set_option linter.unusedVariables false

def arr (n : Nat) (d : Nat → Nat) : Array Nat := (Array.range n).map d
theorem arr_size (n : Nat) (d : Nat → Nat) : (arr n d).size = n := by simp [arr]
theorem arr_at (n : Nat) (d : Nat → Nat) {i : Nat} (h : i < n) : (arr n d)[i]! = d i := by simp [arr, h]
end Go.Proofs.Ytilgoinbajmamaa
