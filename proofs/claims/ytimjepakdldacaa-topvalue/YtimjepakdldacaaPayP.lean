/-
  What the contracts of package saddle say, each as a statement of its own: the laws above are proved from them; they are proved of the package's own text apart.
-/
import Derived.Test.YtimjepakdldacaaM2
import Derived.Test.YtimjepakdldacaaPayMath
import Derived.Test.YtimjepakdldacaaPairs
namespace Go.Proofs.Ytimjepakdldacaa
open Go.RowKit Fm
set_option linter.unusedVariables false

def SCheck : Prop := ∀ (a : Option Addr) (m c : Nat) (M : List (List Int)) (w : World), TabIn w a m M →
    Calls Try.prog 33 #[.slice a m c] w fun e w' => e = .returned (.int .i64 (pchk M)) ∧ Below w.heap.size w w'

def SBoundsE : Prop := ∀ (a : Option Addr) (m c : Nat) (M : List (List Int)) (w : World), TabIn w a m M → pchk M ≠ 0 →
    Calls Try.prog 24 #[.slice a m c] w fun e w' => e = .returned (.tuple #[.int .i64 0, .int .i64 0, .int .i64 (pchk M)]) ∧ Below w.heap.size w w'

def SBounds : Prop := ∀ (r k : Nat) (a : Option Addr) (m c : Nat) (M : List (List Int)) (w : World), TabIn w a m M → Pay r k M →
    Calls Try.prog 24 #[.slice a m c] w fun e w' => e = .returned (.tuple #[.int .i64 (loB M), .int .i64 (hiB k M), .int .i64 0]) ∧ Below w.heap.size w w'

def SPointsE : Prop := ∀ (a : Option Addr) (m c : Nat) (M : List (List Int)) (w : World), TabIn w a m M → pchk M ≠ 0 →
    Calls Try.prog 20 #[.slice a m c] w (ErrOut (pchk M) w)

def SPoints : Prop := ∀ (r k : Nat) (a : Option Addr) (m c : Nat) (M : List (List Int)) (w : World), TabIn w a m M → Pay r k M →
    Calls Try.prog 20 #[.slice a m c] w (PairsOut (ptA M k r) w)



theorem pt36 {r k : Nat} {M : List (List Int)} (p : Pay r k M) : (ptA M k r).length ≤ 36 := by
  have h := ptA_len (M := M) (k := k) r
  have := p.r6
  have := p.k6
  have h2 : r * k ≤ 6 * 6 := Nat.mul_le_mul (by omega) (by omega)
  omega
theorem tabIn_pay {w : World} {a : Option Addr} {n r k : Nat} {M : List (List Int)} (h : RdR w w.heap.size a n M) (p : Pay r k M) : TabIn w a n M :=
  ⟨w.heap.size, Nat.le_refl _, h, by have := h.1; have := p.len; have := p.r6; omega, fun l hl => by have := p.rows l hl; have := p.k6; omega⟩
end Go.Proofs.Ytimjepakdldacaa
