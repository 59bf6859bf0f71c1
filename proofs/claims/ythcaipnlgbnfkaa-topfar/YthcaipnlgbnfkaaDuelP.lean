/-
  What the contracts of package duel say, each as a statement of its own: the laws above are proved from them; they are proved of the package's own text apart.
-/
import Derived.Test.YthcaipnlgbnfkaaOuts
import Derived.Test.YthcaipnlgbnfkaaPureA
namespace Go.Proofs.Ythcaipnlgbnfkaa
open Go.RowKit Fm
set_option linter.unusedVariables false

/-- A table, right or wrong, that a machine can hold. -/
def TabIn (w : World) (a : Option Addr) (m : Nat) (M : List (List Int)) : Prop := ∃ B, B ≤ w.heap.size ∧ RdR w B a m M ∧ m ≤ 17592186044416 ∧ ∀ l ∈ M, l.length ≤ 17592186044416
theorem TabIn.below {w w' : World} {a : Option Addr} {m : Nat} {M : List (List Int)} (h : TabIn w a m M) (hb : Below w.heap.size w w') : TabIn w' a m M := by
  obtain ⟨B, h1, h2, h3⟩ := h
  exact ⟨B, Nat.le_trans h1 hb.size, h2.below hb h1, h3⟩
theorem TabIn.drewN {w : World} {a : Option Addr} {m : Nat} {M : List (List Int)} (h : TabIn w a m M) (k : Nat) : TabIn (w.drewN k) a m M := h

def DCheck : Prop := ∀ (a : Option Addr) (m c : Nat) (M : List (List Int)) (w : World), TabIn w a m M →
    Calls Try.prog 98 #[.slice a m c] w fun e w' => e = .returned (.int .i64 (tchk M)) ∧ Below w.heap.size w w'

def DWinsE : Prop := ∀ (a : Option Addr) (m c : Nat) (M : List (List Int)) (w : World), TabIn w a m M → tchk M ≠ 0 →
    Calls Try.prog 76 #[.slice a m c] w (ErrOut (tchk M) w)

def DWins : Prop := ∀ (a : Option Addr) (m c : Nat) (M : List (List Int)) (w : World), TabIn w a m M → tchk M = 0 →
    Calls Try.prog 76 #[.slice a m c] w (IntsOut (winsL m M) w)

def DWorstE : Prop := ∀ (a : Option Addr) (m c : Nat) (M : List (List Int)) (w : World), TabIn w a m M → tchk M ≠ 0 →
    Calls Try.prog 103 #[.slice a m c] w (ErrOut (tchk M) w)

def DWorst : Prop := ∀ (a : Option Addr) (m c : Nat) (M : List (List Int)) (w : World), TabIn w a m M → tchk M = 0 →
    Calls Try.prog 103 #[.slice a m c] w (IntsOut (worstL m M) w)

def DTopE : Prop := ∀ (a : Option Addr) (m c : Nat) (M : List (List Int)) (w : World), TabIn w a m M → tchk M ≠ 0 →
    Calls Try.prog 40 #[.slice a m c] w (ErrOut (tchk M) w)

def DTop : Prop := ∀ (a : Option Addr) (m c : Nat) (M : List (List Int)) (w : World), TabIn w a m M → tchk M = 0 →
    Calls Try.prog 40 #[.slice a m c] w (IntsOut (topL m M) w)

def DVotesE : Prop := ∀ (n : Int) (a : Option Addr) (m c : Nat) (L : List (List Int)) (w : World), TabIn w a m L → bchk n L ≠ 0 →
    Calls Try.prog 36 #[.int .i64 n, .slice a m c] w (ErrOut (bchk n L) w)

def DVotes : Prop := ∀ (n : Nat) (a : Option Addr) (m c : Nat) (L : List (List Int)) (w : World), TabIn w a m L → bchk n L = 0 →
    Calls Try.prog 36 #[.int .i64 n, .slice a m c] w (MatOut (mcg n L) w)

end Go.Proofs.Ythcaipnlgbnfkaa
