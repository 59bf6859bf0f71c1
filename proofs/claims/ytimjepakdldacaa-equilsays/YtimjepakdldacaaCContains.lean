/-
  slices.Contains and slices.Max at ints.
-/
import Derived.Test.YtimjepakdldacaaProg
import Derived.Test.YtimjepakdldacaaShelf
import Derived.Test.YtimjepakdldacaaPureA
import Derived.WalkKit
import Derived.KernelRfl
import Derived.Laws.NewBlocks
namespace Go.Proofs.Ytimjepakdldacaa
open Go.RowKit Fm
set_option linter.unusedVariables false

theorem contains_any (p : List Int) (x : Int) (a : Option Addr) (n c : Nat) (w : World) (B : Nat) (hp : Rd w B a n p) (hn : n ≤ 9223372036854775807) :
    Calls Try.prog 18 #[.slice a n c, .int .i64 x] w fun e w' => e = .returned (.bool (decide (x ∈ p))) ∧ w = w' := by
  have hl := hp.1
  by_cases h0 : n = 0
  · subst h0
    have e1 := List.eq_nil_of_length_eq_zero hl
    subst e1
    exact (Try.slices_Contains_int_empty a c x w).mono fun e w' ⟨h1, h2⟩ => ⟨by rw [h1]; simp, h2.symm⟩
  · obtain ⟨b, o, rfl, _, hc⟩ := hp.2 (by omega)
    have h := Try.slices_Contains_int b o n c p x w (by omega) hn (fun j hj => hc j (by omega))
    rw [List.take_of_length_le (by omega)] at h
    exact h.mono fun e w' ⟨h1, h2⟩ => ⟨by rw [h1, List.contains_eq_mem], h2.symm⟩

/-- The same, for a region that only reads. -/
theorem contains_q (p : List Int) (x : Int) (a : Option Addr) (n c : Nat) (w : World) (B : Nat) (hp : Rd w B a n p) (hn : n ≤ 9223372036854775807) (r : Bool) (hr : decide (x ∈ p) = r) :
    Calls Try.prog 18 #[.slice a n c, .int .i64 x] w fun e w' => e = .returned (.bool r) ∧ w' = w :=
  (contains_any p x a n c w B hp hn).mono fun e w' ⟨h1, h2⟩ => ⟨by rw [h1, hr], h2.symm⟩

theorem max_any (p : List Int) (a : Option Addr) (n c : Nat) (w : World) (B : Nat) (h0 : 0 < n) (hp : Rd w B a n p) (hn : n ≤ 9223372036854775807) :
    Calls Try.prog 27 #[.slice a n c] w fun e w' => e = .returned (.int .i64 (Lib.maxOf p)) ∧ w = w' := by
  have hl := hp.1
  obtain ⟨b, o, rfl, _, hc⟩ := hp.2 h0
  have h := Try.slices_Max_int b o n c p w h0 (by omega) hn (fun j hj => hc j (by omega))
  rw [List.take_of_length_le (by omega)] at h
  exact h.mono fun e w' ⟨h1, h2⟩ => ⟨h1, h2.symm⟩

end Go.Proofs.Ytimjepakdldacaa
