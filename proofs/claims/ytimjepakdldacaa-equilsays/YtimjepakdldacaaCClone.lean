/-
  slices.Clone at slices of ints, nil let in: what it returns.
-/
import Derived.Test.YtimjepakdldacaaShelf
import Derived.Test.YtimjepakdldacaaPureA
import Derived.WalkKit
import Derived.KernelRfl
import Derived.Laws.NewBlocks
namespace Go.Proofs.Ytimjepakdldacaa
open Go.RowKit Fm
set_option linter.unusedVariables false

theorem clone_any (p : List Int) (a : Option Addr) (n c : Nat) (w : World) (B : Nat) (hp : Rd w B a n p) (hn : n * 8 ≤ 140737488355328) :
    Calls Try.prog 50 #[.slice a n c] w fun e w' => ∃ v, e = .returned v ∧ w'.ownsRow w.heap.size 3 1 v n (I p) ∧ Below w.heap.size w w' := by
  have hl := hp.1
  by_cases h0 : n = 0
  · subst h0
    have e1 := List.eq_nil_of_length_eq_zero hl
    subst e1
    cases a with
    | none =>
      refine (Try.slices_Clone_int_nil 0 c w).mono ?_
      rintro e w' ⟨rfl, rfl⟩
      exact ⟨_, rfl, World.ownsRow_nil _ _ _ _, Below.refl _ _⟩
    | some a =>
      refine (Try.slices_Clone_int_zero a c w).mono ?_
      rintro e w' ⟨v, rfl, h, _, hb⟩
      exact ⟨v, rfl, h, hb⟩
  · obtain ⟨b, o, rfl, _, hc⟩ := hp.2 (by omega)
    refine (Try.slices_Clone_int b o n c p w (by omega) hn (fun j hj => hc j (by omega))).mono ?_
    rintro e w' ⟨v, rfl, h, _, hb⟩
    rw [List.take_of_length_le (by omega)] at h
    exact ⟨v, rfl, h, hb⟩
end Go.Proofs.Ytimjepakdldacaa
