/-
  What a call of the program answers, in three shapes: an error, a list, a matrix.
-/
import Derived.Test.YtbmefccljbndeaaProg
import Derived.Test.YtbmefccljbndeaaOpen
import Derived.WalkKit
namespace Go.Proofs.Ytbmefccljbndeaa
open Go.RowKit Fm
set_option linter.unusedVariables false

/-- An error: an empty slice and the error's number. -/
def ErrOut (r : Int) (w : World) (e : Ending) (w' : World) : Prop := ∃ a c, e = .returned (.tuple #[.slice a 0 c, .int .i64 r]) ∧ Below w.heap.size w w'
/-- A list, and no error. -/
def IntsOut (l : List Int) (w : World) (e : Ending) (w' : World) : Prop := ∃ a c, e = .returned (.tuple #[.slice a l.length c, .int .i64 0]) ∧ l.length ≤ c ∧ c ≤ maxLen ∧ Rd w' w'.heap.size a l.length l ∧ Below w.heap.size w w'
/-- A matrix, and no error. -/
def MatOut (M : List (List Int)) (w : World) (e : Ending) (w' : World) : Prop := ∃ a c, e = .returned (.tuple #[.slice a M.length c, .int .i64 0]) ∧ M.length ≤ c ∧ c ≤ maxLen ∧ RdR w' w'.heap.size a M.length M ∧ Below w.heap.size w w'

theorem ext_trans {w w1 w2 : World} (h : Below w.heap.size w w1) (h2 : Below w1.heap.size w1 w2) : Below w.heap.size w w2 := h.trans (h2.mono h.size)
theorem ext_drewN {w w1 : World} (h : Below w.heap.size w w1) (k : Nat) : Below w.heap.size w (w1.drewN k) := below_drewN h k
theorem rd_ext {w w1 : World} {a : Option Addr} {n : Nat} {l : List Int} (h : Rd w w.heap.size a n l) (hb : Below w.heap.size w w1) : Rd w1 w1.heap.size a n l := (h.below hb (Nat.le_refl _)).more hb.size
theorem rdr_ext {w w1 : World} {a : Option Addr} {n : Nat} {L : List (List Int)} (h : RdR w w.heap.size a n L) (hb : Below w.heap.size w w1) : RdR w1 w1.heap.size a n L := (h.below hb (Nat.le_refl _)).more hb.size
end Go.Proofs.Ytbmefccljbndeaa
