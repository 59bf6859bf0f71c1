/-
  slices.Equal at slices of ints, nil let in: what it returns.
-/
import Derived.Test.YtimjepakdldacaaShelf
import Derived.Test.YtimjepakdldacaaPureA
import Derived.WalkKit
import Derived.KernelRfl
import Derived.Laws.NewBlocks
namespace Go.Proofs.Ytimjepakdldacaa
open Go.RowKit Fm
set_option linter.unusedVariables false

theorem equal_any (p q : List Int) (a a2 : Option Addr) (n c n2 c2 : Nat) (w : World) (B : Nat) (hp : Rd w B a n p) (hq : Rd w B a2 n2 q) (hn : n ≤ 9223372036854775807) (hn2 : n2 ≤ 9223372036854775807) :
    Calls Try.prog 16 #[.slice a n c, .slice a2 n2 c2] w fun e w' => e = .returned (.bool (decide (p = q))) ∧ ∃ k, w' = w.drewN k := by
  have hl := hp.1
  have hl2 := hq.1
  by_cases h : n = n2
  · subst h
    by_cases h0 : n = 0
    · subst h0
      have e1 := List.eq_nil_of_length_eq_zero hl
      have e2 := List.eq_nil_of_length_eq_zero hl2
      subst e1; subst e2
      refine (Try.slices_Equal_int_empty a a2 c 0 c2 w (by omega)).mono ?_
      rintro e w' ⟨rfl, rfl⟩
      exact ⟨by simp, 0, rfl⟩
    · obtain ⟨b, o, rfl, _, hc⟩ := hp.2 (by omega)
      obtain ⟨b2, o2, rfl, _, hc2⟩ := hq.2 (by omega)
      refine (Try.slices_Equal_int b o n c b2 o2 n c2 p q w (by omega) (by omega) hn hn (fun j hj => hc j (by omega)) (fun j hj => hc2 j (by omega))).mono ?_
      rintro e w' ⟨rfl, hw⟩
      refine ⟨?_, hw⟩
      rw [List.take_of_length_le (by omega), List.take_of_length_le (by omega)]
      by_cases he : p = q
      · subst he; simp
      · simp [he]
  · refine (Try.slices_Equal_int_lens a a2 n c n2 c2 w h).mono ?_
    rintro e w' ⟨rfl, rfl⟩
    refine ⟨?_, 0, rfl⟩
    have : p ≠ q := fun e => by subst e; omega
    simp [this]
/-- The same, as a call that writes nothing that was there. -/
theorem equal_ext (p q : List Int) (a a2 : Option Addr) (n c n2 c2 : Nat) (w : World) (hp : Rd w w.heap.size a n p) (hq : Rd w w.heap.size a2 n2 q) (hn : n ≤ 9223372036854775807) (hn2 : n2 ≤ 9223372036854775807) :
    Calls Try.prog 16 #[.slice a n c, .slice a2 n2 c2] w fun e w' => e = .returned (.bool (decide (p = q))) ∧ Below w.heap.size w w' :=
  (equal_any p q a a2 n c n2 c2 w w.heap.size hp hq hn hn2).mono fun e w' ⟨h1, k, h2⟩ => ⟨h1, h2 ▸ below_drewN (Below.refl _ w) k⟩
end Go.Proofs.Ytimjepakdldacaa
