/-
  What the contracts of package rules say, each as a statement of its own: the laws above are proved from them; they are proved of the package's own text apart.
-/
import Derived.Test.YtbpenheomiejfaaDuelP
import Derived.Test.YtbpenheomiejfaaPureB
namespace Go.Proofs.Ytbpenheomiejfaa
open Go.RowKit Fm
set_option linter.unusedVariables false

def RWinE : Prop := ∀ (rule n : Int) (a : Option Addr) (m c : Nat) (V : List (List Int)) (w : World), TabIn w a m V → rchk rule n V ≠ 0 →
    Calls Try.prog 11 #[.int .i64 rule, .int .i64 n, .slice a m c] w (ErrOut (rchk rule n V) w)

def RWin : Prop := ∀ (rule : Int) (n : Nat) (a : Option Addr) (m c : Nat) (V : List (List Int)) (w : World), TabIn w a m V → rchk rule n V = 0 →
    Calls Try.prog 11 #[.int .i64 rule, .int .i64 n, .slice a m c] w (IntsOut (winL rule n V) w)

def RWinO : Prop := ∀ (rule : Int) (n : Nat) (a : Option Addr) (m c : Nat) (V : List (List Int)) (w : World), TabIn w a m V → rchk rule n V = 0 →
    Calls Try.prog 11 #[.int .i64 rule, .int .i64 n, .slice a m c] w (OwnOut (winL rule n V) w)

def RSoleE : Prop := ∀ (rule n : Int) (a : Option Addr) (m c : Nat) (V : List (List Int)) (w : World), TabIn w a m V → rchk rule n V ≠ 0 →
    Calls Try.prog 12 #[.int .i64 rule, .int .i64 n, .slice a m c] w fun e w' => e = .returned (.tuple #[.int .i64 0, .int .i64 (rchk rule n V)]) ∧ Below w.heap.size w w'

def RSole : Prop := ∀ (rule : Int) (n : Nat) (a : Option Addr) (m c : Nat) (V : List (List Int)) (w : World), TabIn w a m V → rchk rule n V = 0 →
    Calls Try.prog 12 #[.int .i64 rule, .int .i64 n, .slice a m c] w fun e w' => e = .returned (.tuple #[.int .i64 (soleX rule n V), .int .i64 (soleE rule n V)]) ∧ Below w.heap.size w w'

end Go.Proofs.Ytbpenheomiejfaa
