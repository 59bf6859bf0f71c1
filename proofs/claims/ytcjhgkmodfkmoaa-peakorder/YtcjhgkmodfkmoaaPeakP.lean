/-
  What the contracts of package peak say, each as a statement of its own: the laws above are proved from them; they are proved of the package's own text apart.
-/
import Derived.Test.YtcjhgkmodfkmoaaDuelP
import Derived.Test.YtcjhgkmodfkmoaaAlongMath
import Derived.Test.YtcjhgkmodfkmoaaPureA
namespace Go.Proofs.Ytcjhgkmodfkmoaa
open Go.RowKit Fm
set_option linter.unusedVariables false

/-- What peak.Along answers, whatever is handed in. -/
def achk (line p : List Int) : Int := if chk line.length line ≠ 0 then chk line.length line else chk line.length p
def alongA (line p : List Int) : Bool := decide (achk line p = 0) && alongB line p
/-- What peak.All answers, whatever is handed in. -/
def lchk (line : List Int) (V : List (List Int)) : Int := if chk line.length line ≠ 0 then chk line.length line else vchk line.length V
def allA (line : List Int) (V : List (List Int)) : Bool := decide (lchk line V = 0) && V.all (alongB line)
/-- What peak.Middle answers, whatever is handed in. -/
def mchk (line : List Int) (V : List (List Int)) : Int := if lchk line V ≠ 0 then lchk line V else if V.all (alongB line) = false then 3 else if V.length = 0 then 4 else 0
def midA (line : List Int) (V : List (List Int)) : Int := if mchk line V = 0 then midL line V else 0

theorem achk_bad {line p : List Int} (h : chk line.length line ≠ 0) : achk line p = chk line.length line := by unfold achk; rw [if_pos h]
theorem achk_ok {line p : List Int} (h : chk line.length line = 0) : achk line p = chk line.length p := by unfold achk; rw [if_neg (by simpa using h)]
theorem alongA_bad {line p : List Int} (h : achk line p ≠ 0) : alongA line p = false := by unfold alongA; rw [decide_eq_false h]; rfl
theorem alongA_ok {line p : List Int} (h : achk line p = 0) : alongA line p = alongB line p := by unfold alongA; rw [decide_eq_true h]; rfl
theorem lchk_bad {line : List Int} {V : List (List Int)} (h : chk line.length line ≠ 0) : lchk line V = chk line.length line := by unfold lchk; rw [if_pos h]
theorem lchk_ok {line : List Int} {V : List (List Int)} (h : chk line.length line = 0) : lchk line V = vchk line.length V := by unfold lchk; rw [if_neg (by simpa using h)]
theorem allA_bad {line : List Int} {V : List (List Int)} (h : lchk line V ≠ 0) : allA line V = false := by unfold allA; rw [decide_eq_false h]; rfl
theorem allA_ok {line : List Int} {V : List (List Int)} (h : lchk line V = 0) : allA line V = V.all (alongB line) := by unfold allA; rw [decide_eq_true h]; rfl
theorem mchk_bad {line : List Int} {V : List (List Int)} (h : lchk line V ≠ 0) : mchk line V = lchk line V := by unfold mchk; rw [if_pos h]
theorem mchk_form {line : List Int} {V : List (List Int)} (h : lchk line V = 0) (h2 : V.all (alongB line) = false) : mchk line V = 3 := by unfold mchk; rw [if_neg (by simpa using h), if_pos h2]
theorem mchk_none {line : List Int} {V : List (List Int)} (h : lchk line V = 0) (h2 : V.all (alongB line) = true) (h3 : V.length = 0) : mchk line V = 4 := by unfold mchk; rw [if_neg (by simpa using h), if_neg (by rw [h2]; simp), if_pos h3]
theorem mchk_ok {line : List Int} {V : List (List Int)} (h : lchk line V = 0) (h2 : V.all (alongB line) = true) (h3 : V.length ≠ 0) : mchk line V = 0 := by unfold mchk; rw [if_neg (by simpa using h), if_neg (by rw [h2]; simp), if_neg h3]
theorem midA_bad {line : List Int} {V : List (List Int)} (h : mchk line V ≠ 0) : midA line V = 0 := by unfold midA; rw [if_neg h]
theorem midA_ok {line : List Int} {V : List (List Int)} (h : mchk line V = 0) : midA line V = midL line V := by unfold midA; rw [if_pos h]
theorem chk_perms {line : List Int} (h : chk line.length line = 0) : line.Perm (sides line.length) ∧ 1 ≤ line.length ∧ line.length ≤ 6 := by
  obtain ⟨h1, h2, h3⟩ := chk_zero h
  exact ⟨isOrd_perm rfl h3, by omega, by omega⟩

/-- A list of ints that a machine can hold. -/
def LstIn (w : World) (a : Option Addr) (m c : Nat) (l : List Int) : Prop := Rd w w.heap.size a m l ∧ m ≤ 17592186044416 ∧ m ≤ c
theorem LstIn.below {w w' : World} {a : Option Addr} {m c : Nat} {l : List Int} (h : LstIn w a m c l) (hb : Below w.heap.size w w') : LstIn w' a m c l := ⟨rd_ext h.1 hb, h.2⟩

def PAlong : Prop := ∀ (al : Option Addr) (ml cl : Nat) (line : List Int) (ap : Option Addr) (mp cp : Nat) (p : List Int) (w : World), LstIn w al ml cl line → LstIn w ap mp cp p →
    Calls Try.prog 7 #[.slice al ml cl, .slice ap mp cp] w fun e w' => e = .returned (.tuple #[.bool (alongA line p), .int .i64 (achk line p)]) ∧ Below w.heap.size w w'

def PAll : Prop := ∀ (al : Option Addr) (ml cl : Nat) (line : List Int) (a : Option Addr) (m c : Nat) (V : List (List Int)) (w : World), LstIn w al ml cl line → TabIn w a m V →
    Calls Try.prog 8 #[.slice al ml cl, .slice a m c] w fun e w' => e = .returned (.tuple #[.bool (allA line V), .int .i64 (lchk line V)]) ∧ Below w.heap.size w w'

def PMiddle : Prop := ∀ (al : Option Addr) (ml cl : Nat) (line : List Int) (a : Option Addr) (m c : Nat) (V : List (List Int)) (w : World), LstIn w al ml cl line → TabIn w a m V →
    Calls Try.prog 9 #[.slice al ml cl, .slice a m c] w fun e w' => e = .returned (.tuple #[.int .i64 (midA line V), .int .i64 (mchk line V)]) ∧ Below w.heap.size w w'

end Go.Proofs.Ytcjhgkmodfkmoaa
