/-
  A box of two cells: what it holds when it is laid, and when both cells are written.
-/
import Derived.Test.YtimjepakdldacaaProg
import Derived.WalkKit
import Derived.Laws.NewBlocks
namespace Go.Proofs.Ytimjepakdldacaa
open Go.RowKit
set_option linter.unusedVariables false

theorem boxQ (w : World) (t : TypeId) (x y : Int) :
    (w.alloc (.cells #[.int .i64 x, .int .i64 y] t)).cell? ⟨w.heap.size, 0, none⟩ = some (.int .i64 x) ∧ (w.alloc (.cells #[.int .i64 x, .int .i64 y] t)).cell? ⟨w.heap.size, 1, none⟩ = some (.int .i64 y) ∧ ∀ j, (w.alloc (.cells #[.int .i64 x, .int .i64 y] t)).frozen? ⟨w.heap.size, j, none⟩ = false :=
  ⟨by simp [World.cell?_alloc_new], by simp [World.cell?_alloc_new], fun j => World.frozen?_alloc_at _ _ _ _ rfl⟩
theorem stored2 {W : World} {g : Nat} {x y P Q : Value} (h1 : W.cell? ⟨g, 0, none⟩ = some x) (h2 : W.cell? ⟨g, 1, none⟩ = some y) (f1 : W.frozen? ⟨g, 0, none⟩ = false) (f2 : W.frozen? ⟨g, 1, none⟩ = false) :
    ((W.setCell ⟨g, 0, none⟩ P).setCell ⟨g, 1, none⟩ Q).cell? ⟨g, 0, none⟩ = some P ∧ ((W.setCell ⟨g, 0, none⟩ P).setCell ⟨g, 1, none⟩ Q).cell? ⟨g, 1, none⟩ = some Q ∧ ((W.setCell ⟨g, 0, none⟩ P).setCell ⟨g, 1, none⟩ Q).frozen? ⟨g, 0, none⟩ = false ∧ ((W.setCell ⟨g, 0, none⟩ P).setCell ⟨g, 1, none⟩ Q).frozen? ⟨g, 1, none⟩ = false ∧ ((W.setCell ⟨g, 0, none⟩ P).setCell ⟨g, 1, none⟩ Q).heap.size = W.heap.size := by
  have e1 : (W.setCell ⟨g, 0, none⟩ P).cell? ⟨g, 1, none⟩ = some y := by rw [World.cell?_setCell_other _ _ _ _ (by intro e; cases e)]; exact h2
  refine ⟨?_, World.cell?_setCell_same _ _ _ e1, by rw [World.frozen?_setCell, World.frozen?_setCell]; exact f1, by rw [World.frozen?_setCell, World.frozen?_setCell]; exact f2, by rw [World.size_setCell, World.size_setCell]⟩
  rw [World.cell?_setCell_other _ _ _ _ (by intro e; cases e)]
  exact World.cell?_setCell_same _ _ _ h1
end Go.Proofs.Ytimjepakdldacaa
