/-
  slices.Min and slices.Max at []int, not empty: the least, the greatest; nothing is written.
-/
import Derived.Test.YtimjepakdldacaaShelf
import Derived.Test.YtimjepakdldacaaPureA
import Derived.Test.YtimjepakdldacaaPayMath
namespace Go.Proofs.Ytimjepakdldacaa
open Go.RowKit Fm
set_option linter.unusedVariables false

theorem minI_any (p : List Int) (a : Option Addr) (n c : Nat) (w : World) (B : Nat) (h0 : 0 < n) (hr : Rd w B a n p) (hn : n ≤ 9223372036854775807) :
    Calls Try.prog 47 #[.slice a n c] w fun e w' => e = .returned (.int .i64 (leastI p)) ∧ w = w' := by
  have hl := hr.1
  obtain ⟨b, o, rfl, _, hc⟩ := hr.2 h0
  have h := Try.slices_Min_int b o n c p w h0 (by omega) hn (fun j hj => hc j (by omega))
  rw [List.take_of_length_le (by omega)] at h
  exact h.mono fun e w' ⟨h1, h2⟩ => ⟨h1, h2.symm⟩
theorem maxI_any (p : List Int) (a : Option Addr) (n c : Nat) (w : World) (B : Nat) (h0 : 0 < n) (hr : Rd w B a n p) (hn : n ≤ 9223372036854775807) :
    Calls Try.prog 27 #[.slice a n c] w fun e w' => e = .returned (.int .i64 (most p)) ∧ w = w' := by
  have hl := hr.1
  obtain ⟨b, o, rfl, _, hc⟩ := hr.2 h0
  have h := Try.slices_Max_int b o n c p w h0 (by omega) hn (fun j hj => hc j (by omega))
  rw [List.take_of_length_le (by omega)] at h
  exact h.mono fun e w' ⟨h1, h2⟩ => ⟨h1, h2.symm⟩
end Go.Proofs.Ytimjepakdldacaa
