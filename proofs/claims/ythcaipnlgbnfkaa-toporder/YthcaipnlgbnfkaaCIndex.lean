/-
  slices.Index at slices of ints, nil let in: what it returns.
-/
import Derived.Test.YthcaipnlgbnfkaaShelf
import Derived.Test.YthcaipnlgbnfkaaPureA
import Derived.WalkKit
import Derived.KernelRfl
import Derived.Laws.NewBlocks
namespace Go.Proofs.Ythcaipnlgbnfkaa
open Go.RowKit Fm
set_option linter.unusedVariables false

theorem index_any (p : List Int) (x : Int) (a : Option Addr) (n c : Nat) (w : World) (B : Nat) (hp : Rd w B a n p) (hn : n ≤ 9223372036854775807) :
    Calls Try.prog 77 #[.slice a n c, .int .i64 x] w fun e w' => e = .returned (.int .i64 (Lib.idxOf p x)) ∧ w = w' := by
  have hl := hp.1
  by_cases h0 : n = 0
  · subst h0
    have e1 := List.eq_nil_of_length_eq_zero hl
    subst e1
    exact (Try.slices_Index_int_empty a c x w).mono fun e w' ⟨h1, h2⟩ => ⟨h1, h2.symm⟩
  · obtain ⟨b, o, rfl, _, hc⟩ := hp.2 (by omega)
    have h := Try.slices_Index_int b o n c p x w (by omega) hn (fun j hj => hc j (by omega))
    rw [List.take_of_length_le (by omega)] at h
    exact h.mono fun e w' ⟨h1, h2⟩ => ⟨h1, h2.symm⟩

theorem idx_hit {p : List Int} (hp : p.Nodup) {k : Nat} (hk : k < p.length) {x : Int} (hx : p.getD k 0 = x) : Lib.idxOf p x = k := by
  have h := Lib.idxOf_hit p p.length k x hk (Nat.le_refl _) hx (fun j hj e => by
    rw [← hx, getD_get (by omega), getD_get hk] at e
    have := (List.getElem_inj hp).1 e
    omega)
  rw [List.take_of_length_le (Nat.le_refl _)] at h
  exact h
theorem idx_miss {p : List Int} {x : Int} (hx : x ∉ p) : Lib.idxOf p x = -1 := by
  have h := Lib.idxOf_miss p p.length x (fun j hj e => hx (by rw [← e]; exact getD_mem p j hj))
  rw [List.take_of_length_le (Nat.le_refl _)] at h
  exact h
end Go.Proofs.Ythcaipnlgbnfkaa
