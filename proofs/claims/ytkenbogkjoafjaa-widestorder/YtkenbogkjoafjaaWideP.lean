/-
  What the contracts of package widest say, each as a statement of its own: the laws above are proved from them; they are proved of the package's own text apart.
-/
import Derived.Test.YtkenbogkjoafjaaDuelP
import Derived.Test.YtkenbogkjoafjaaPathMath
namespace Go.Proofs.Ytkenbogkjoafjaa
open Go.RowKit Fm
set_option linter.unusedVariables false

def WPathsE : Prop := ∀ (a : Option Addr) (m c : Nat) (M : List (List Int)) (w : World), TabIn w a m M → tchk M ≠ 0 →
    Calls Try.prog 7 #[.slice a m c] w (ErrOut (tchk M) w)

def WPaths : Prop := ∀ (a : Option Addr) (m c : Nat) (M : List (List Int)) (w : World), TabIn w a m M → tchk M = 0 →
    Calls Try.prog 7 #[.slice a m c] w (MatOut (pathM m M) w)

def WWinE : Prop := ∀ (a : Option Addr) (m c : Nat) (M : List (List Int)) (w : World), TabIn w a m M → tchk M ≠ 0 →
    Calls Try.prog 8 #[.slice a m c] w (ErrOut (tchk M) w)

def WWin : Prop := ∀ (a : Option Addr) (m c : Nat) (M : List (List Int)) (w : World), TabIn w a m M → tchk M = 0 →
    Calls Try.prog 8 #[.slice a m c] w (IntsOut (winP m M) w)

end Go.Proofs.Ytkenbogkjoafjaa
