/-
  slices.Contains and slices.Max at ints.
-/
import Derived.Test.YtedllchlhdjanaaProg
import Derived.Test.YtedllchlhdjanaaShelf
import Derived.Test.YtedllchlhdjanaaPureA
import Derived.WalkKit
import Derived.KernelRfl
import Derived.Laws.NewBlocks
namespace Go.Proofs.Ytedllchlhdjanaa
open Go.RowKit Fm
set_option linter.unusedVariables false



theorem max_any (p : List Int) (a : Option Addr) (n c : Nat) (w : World) (B : Nat) (h0 : 0 < n) (hp : Rd w B a n p) (hn : n ≤ 9223372036854775807) :
    Calls Try.prog 23 #[.slice a n c] w fun e w' => e = .returned (.int .i64 (Lib.maxOf p)) ∧ w = w' := by
  have hl := hp.1
  obtain ⟨b, o, rfl, _, hc⟩ := hp.2 h0
  have h := Try.slices_Max_int b o n c p w h0 (by omega) hn (fun j hj => hc j (by omega))
  rw [List.take_of_length_le (by omega)] at h
  exact h.mono fun e w' ⟨h1, h2⟩ => ⟨h1, h2.symm⟩

end Go.Proofs.Ytedllchlhdjanaa
