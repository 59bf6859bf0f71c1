/-
  What the contracts of package middle say, each as a statement of its own: the laws above are proved from them; they are proved of the package's own text apart.
-/
import Derived.Test.YthcaipnlgbnfkaaDuelP
import Derived.Test.YthcaipnlgbnfkaaBestMath
namespace Go.Proofs.Ythcaipnlgbnfkaa
open Go.RowKit Fm
set_option linter.unusedVariables false

/-- A list in a row of the call's own, a number, and no error. -/
def OwnOut3 (l : List Int) (k : Int) (w : World) (e : Ending) (w' : World) : Prop := ∃ v, e = .returned (.tuple #[v, .int .i64 k, .int .i64 0]) ∧ w'.ownsRow w.heap.size 3 1 v l.length (I l) ∧ Below w.heap.size w w'
/-- A list, a number, and no error. -/
def IntsOut3 (l : List Int) (k : Int) (w : World) (e : Ending) (w' : World) : Prop := ∃ a c, e = .returned (.tuple #[.slice a l.length c, .int .i64 k, .int .i64 0]) ∧ l.length ≤ c ∧ c ≤ maxLen ∧ Rd w' w'.heap.size a l.length l ∧ Below w.heap.size w w'
theorem OwnOut3.ints {l : List Int} {k : Int} {w w' : World} {e : Ending} (h : OwnOut3 l k w e w') : IntsOut3 l k w e w' := by
  obtain ⟨v, rfl, ho, hb⟩ := h
  obtain ⟨a, c, rfl, h1, h2⟩ := own_slice ho
  exact ⟨a, c, rfl, h1, h2, Rd.of_own ho, hb⟩
/-- An error: an empty slice, zero and the error's number. -/
def ErrOut3 (r : Int) (w : World) (e : Ending) (w' : World) : Prop := ∃ a c, e = .returned (.tuple #[.slice a 0 c, .int .i64 0, .int .i64 r]) ∧ Below w.heap.size w w'
/-- What middle.Far answers, whatever is handed in. -/
def fchk (n : Int) (V : List (List Int)) (p : List Int) : Int := if vchk n V ≠ 0 then vchk n V else if chk n p ≠ 0 then 3 else 0
def farA (n : Int) (V : List (List Int)) (p : List Int) : Int := if fchk n V p = 0 then (farT V p : Int) else 0

def TDuelsM : Prop := ∀ (n : Nat) (a : Option Addr) (m c : Nat) (V : List (List Int)) (w : World) (B : Nat), B ≤ w.heap.size → RdR w B a m V → m ≤ 17592186044416 → vchk n V = 0 →
    Calls Try.prog 37 #[.int .i64 n, .slice a m c] w (MatOut (duelsM n V) w)

def MFar : Prop := ∀ (n : Int) (a : Option Addr) (m c : Nat) (V : List (List Int)) (ap : Option Addr) (mp cp : Nat) (p : List Int) (w : World), TabIn w a m V → Rd w w.heap.size ap mp p → mp ≤ 17592186044416 → mp ≤ cp →
    Calls Try.prog 45 #[.int .i64 n, .slice a m c, .slice ap mp cp] w fun e w' => e = .returned (.tuple #[.int .i64 (farA n V p), .int .i64 (fchk n V p)]) ∧ Below w.heap.size w w'

def MBestE : Prop := ∀ (n : Int) (a : Option Addr) (m c : Nat) (V : List (List Int)) (w : World), TabIn w a m V → vchk n V ≠ 0 →
    Calls Try.prog 38 #[.int .i64 n, .slice a m c] w (ErrOut3 (vchk n V) w)

def MBest : Prop := ∀ (n : Nat) (a : Option Addr) (m c : Nat) (V : List (List Int)) (w : World), TabIn w a m V → vchk n V = 0 →
    Calls Try.prog 38 #[.int .i64 n, .slice a m c] w (IntsOut3 (bestL n V) (leastN n V) w)

end Go.Proofs.Ythcaipnlgbnfkaa
