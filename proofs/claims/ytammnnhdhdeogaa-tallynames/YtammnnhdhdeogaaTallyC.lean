/-
  What the contracts of package tally say, as one statement: the laws above are proved from it; it is proved of the package's own text apart.
-/
import Derived.Test.YtammnnhdhdeogaaProg
import Derived.Test.YtammnnhdhdeogaaOpen
import Derived.Test.YtammnnhdhdeogaaBeatMath
import Derived.WalkKit
namespace Go.Proofs.Ytammnnhdhdeogaa
open Go.RowKit Fm
set_option linter.unusedVariables false

/-- An error: an empty slice and the error's number. -/
def ErrOut (r : Int) (w : World) (e : Ending) (w' : World) : Prop := ∃ a c, e = .returned (.tuple #[.slice a 0 c, .int .i64 r]) ∧ Below w.heap.size w w'
/-- A list, and no error. -/
def IntsOut (l : List Int) (w : World) (e : Ending) (w' : World) : Prop := ∃ a c, e = .returned (.tuple #[.slice a l.length c, .int .i64 0]) ∧ l.length ≤ c ∧ c ≤ maxLen ∧ Rd w' w'.heap.size a l.length l ∧ Below w.heap.size w w'
/-- A matrix, and no error. -/
def MatOut (M : List (List Int)) (w : World) (e : Ending) (w' : World) : Prop := ∃ a c, e = .returned (.tuple #[.slice a M.length c, .int .i64 0]) ∧ M.length ≤ c ∧ c ≤ maxLen ∧ RdR w' w'.heap.size a M.length M ∧ Below w.heap.size w w'

structure TallyC : Prop where
  check : ∀ (n : Int) (a : Option Addr) (m c : Nat) (V : List (List Int)) (w : World) (B : Nat), B ≤ w.heap.size → RdR w B a m V → m ≤ 17592186044416 →
    Calls Try.prog 13 #[.int .i64 n, .slice a m c] w fun e w' => e = .returned (.int .i64 (vchk n V)) ∧ Below w.heap.size w w'
  duelsE : ∀ (n : Int) (a : Option Addr) (m c : Nat) (V : List (List Int)) (w : World) (B : Nat), B ≤ w.heap.size → RdR w B a m V → m ≤ 17592186044416 → vchk n V ≠ 0 →
    Calls Try.prog 8 #[.int .i64 n, .slice a m c] w (ErrOut (vchk n V) w)
  duels : ∀ (n : Nat) (a : Option Addr) (m c : Nat) (V : List (List Int)) (w : World) (B : Nat), B ≤ w.heap.size → RdR w B a m V → m ≤ 17592186044416 → vchk n V = 0 →
    Calls Try.prog 8 #[.int .i64 n, .slice a m c] w (MatOut (duelsM n V) w)
  firstsE : ∀ (n : Int) (a : Option Addr) (m c : Nat) (V : List (List Int)) (w : World) (B : Nat), B ≤ w.heap.size → RdR w B a m V → m ≤ 17592186044416 → vchk n V ≠ 0 →
    Calls Try.prog 9 #[.int .i64 n, .slice a m c] w (ErrOut (vchk n V) w)
  firsts : ∀ (n : Nat) (a : Option Addr) (m c : Nat) (V : List (List Int)) (w : World) (B : Nat), B ≤ w.heap.size → RdR w B a m V → m ≤ 17592186044416 → vchk n V = 0 →
    Calls Try.prog 9 #[.int .i64 n, .slice a m c] w (IntsOut (firstsL n V) w)
  pointsE : ∀ (n : Int) (a : Option Addr) (m c : Nat) (V : List (List Int)) (w : World) (B : Nat), B ≤ w.heap.size → RdR w B a m V → m ≤ 17592186044416 → vchk n V ≠ 0 →
    Calls Try.prog 10 #[.int .i64 n, .slice a m c] w (ErrOut (vchk n V) w)
  points : ∀ (n : Nat) (a : Option Addr) (m c : Nat) (V : List (List Int)) (w : World) (B : Nat), B ≤ w.heap.size → RdR w B a m V → m ≤ 17592186044416 → vchk n V = 0 →
    Calls Try.prog 10 #[.int .i64 n, .slice a m c] w (IntsOut (pointsL n V) w)
  beaterE : ∀ (n : Int) (a : Option Addr) (m c : Nat) (V : List (List Int)) (w : World) (B : Nat), B ≤ w.heap.size → RdR w B a m V → m ≤ 17592186044416 → vchk n V ≠ 0 →
    Calls Try.prog 11 #[.int .i64 n, .slice a m c] w fun e w' => e = .returned (.tuple #[.int .i64 0, .int .i64 (vchk n V)]) ∧ Below w.heap.size w w'
  beaterY : ∀ (n : Nat) (a : Option Addr) (m c : Nat) (V : List (List Int)) (w : World) (B : Nat) (x : Nat), B ≤ w.heap.size → RdR w B a m V → m ≤ 17592186044416 → vchk n V = 0 → Beats n V x →
    Calls Try.prog 11 #[.int .i64 n, .slice a m c] w fun e w' => e = .returned (.tuple #[.int .i64 x, .int .i64 0]) ∧ Below w.heap.size w w'
  beaterN : ∀ (n : Nat) (a : Option Addr) (m c : Nat) (V : List (List Int)) (w : World) (B : Nat), B ≤ w.heap.size → RdR w B a m V → m ≤ 17592186044416 → vchk n V = 0 → (∀ x, ¬ Beats n V x) →
    Calls Try.prog 11 #[.int .i64 n, .slice a m c] w fun e w' => e = .returned (.tuple #[.int .i64 0, .int .i64 4]) ∧ Below w.heap.size w w'
end Go.Proofs.Ytammnnhdhdeogaa
