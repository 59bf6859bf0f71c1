/-
  What the contracts of package tally say, as one statement: the laws above are proved from it; it is proved of the package's own text apart.
-/
import Derived.Test.YtcjhgkmodfkmoaaProg
import Derived.Test.YtcjhgkmodfkmoaaOuts
import Derived.Test.YtcjhgkmodfkmoaaPureA
import Derived.WalkKit
namespace Go.Proofs.Ytcjhgkmodfkmoaa
open Go.RowKit Fm
set_option linter.unusedVariables false

structure TallyC : Prop where
  check : ∀ (n : Int) (a : Option Addr) (m c : Nat) (V : List (List Int)) (w : World) (B : Nat), B ≤ w.heap.size → RdR w B a m V → m ≤ 17592186044416 →
    Calls Try.prog 28 #[.int .i64 n, .slice a m c] w fun e w' => e = .returned (.int .i64 (vchk n V)) ∧ Below w.heap.size w w'

  duelsE : ∀ (n : Int) (a : Option Addr) (m c : Nat) (V : List (List Int)) (w : World) (B : Nat), B ≤ w.heap.size → RdR w B a m V → m ≤ 17592186044416 → vchk n V ≠ 0 →
    Calls Try.prog 19 #[.int .i64 n, .slice a m c] w (ErrOut (vchk n V) w)

  duels : ∀ (n : Nat) (a : Option Addr) (m c : Nat) (V : List (List Int)) (w : World) (B : Nat), B ≤ w.heap.size → RdR w B a m V → m ≤ 17592186044416 → vchk n V = 0 →
    Calls Try.prog 19 #[.int .i64 n, .slice a m c] w (MatOut (duelsM n V) w)

  firstsE : ∀ (n : Int) (a : Option Addr) (m c : Nat) (V : List (List Int)) (w : World) (B : Nat), B ≤ w.heap.size → RdR w B a m V → m ≤ 17592186044416 → vchk n V ≠ 0 →
    Calls Try.prog 29 #[.int .i64 n, .slice a m c] w (ErrOut (vchk n V) w)

  firsts : ∀ (n : Nat) (a : Option Addr) (m c : Nat) (V : List (List Int)) (w : World) (B : Nat), B ≤ w.heap.size → RdR w B a m V → m ≤ 17592186044416 → vchk n V = 0 →
    Calls Try.prog 29 #[.int .i64 n, .slice a m c] w (IntsOut (firstsL n V) w)

  pointsE : ∀ (n : Int) (a : Option Addr) (m c : Nat) (V : List (List Int)) (w : World) (B : Nat), B ≤ w.heap.size → RdR w B a m V → m ≤ 17592186044416 → vchk n V ≠ 0 →
    Calls Try.prog 35 #[.int .i64 n, .slice a m c] w (ErrOut (vchk n V) w)

  points : ∀ (n : Nat) (a : Option Addr) (m c : Nat) (V : List (List Int)) (w : World) (B : Nat), B ≤ w.heap.size → RdR w B a m V → m ≤ 17592186044416 → vchk n V = 0 →
    Calls Try.prog 35 #[.int .i64 n, .slice a m c] w (IntsOut (pointsL n V) w)

  beaterE : ∀ (n : Int) (a : Option Addr) (m c : Nat) (V : List (List Int)) (w : World) (B : Nat), B ≤ w.heap.size → RdR w B a m V → m ≤ 17592186044416 → vchk n V ≠ 0 →
    Calls Try.prog 20 #[.int .i64 n, .slice a m c] w fun e w' => e = .returned (.tuple #[.int .i64 0, .int .i64 (vchk n V)]) ∧ Below w.heap.size w w'

  beaterY : ∀ (n : Nat) (a : Option Addr) (m c : Nat) (V : List (List Int)) (w : World) (B : Nat) (x : Nat), B ≤ w.heap.size → RdR w B a m V → m ≤ 17592186044416 → vchk n V = 0 → Beats n V x →
    Calls Try.prog 20 #[.int .i64 n, .slice a m c] w fun e w' => e = .returned (.tuple #[.int .i64 x, .int .i64 0]) ∧ Below w.heap.size w w'

  beaterN : ∀ (n : Nat) (a : Option Addr) (m c : Nat) (V : List (List Int)) (w : World) (B : Nat), B ≤ w.heap.size → RdR w B a m V → m ≤ 17592186044416 → vchk n V = 0 → (∀ x, ¬ Beats n V x) →
    Calls Try.prog 20 #[.int .i64 n, .slice a m c] w fun e w' => e = .returned (.tuple #[.int .i64 0, .int .i64 4]) ∧ Below w.heap.size w w'

end Go.Proofs.Ytcjhgkmodfkmoaa
