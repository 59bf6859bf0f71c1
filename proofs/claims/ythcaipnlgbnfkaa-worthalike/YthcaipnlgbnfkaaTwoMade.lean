/-
  Two rows of zeros that a call makes, one behind the other; nothing that was there is written.
-/
import Derived.Test.YthcaipnlgbnfkaaOuts
import Derived.Test.YthcaipnlgbnfkaaPush
namespace Go.Proofs.Ythcaipnlgbnfkaa
open Go.RowKit Fm
set_option linter.unusedVariables false

/-- Two rows of zeros, in two blocks of their own. -/
def TwoRows (w : World) (n : Nat) (la lb : List Int) (s6 s7 : Value) (wx : World) : Prop :=
  ∃ ga gb, s6 = .slice (some ⟨ga, 0, none⟩) n n ∧ s7 = .slice (some ⟨gb, 0, none⟩) n n ∧ ga ≠ gb ∧ wx.ownsRow w.heap.size 3 1 (.slice (some ⟨ga, 0, none⟩) n n) n (I la) ∧ wx.ownsRow w.heap.size 3 1 (.slice (some ⟨gb, 0, none⟩) n n) n (I lb) ∧ Below w.heap.size w wx
theorem rows_made (w : World) (n : Nat) (hn : n ≤ 1000) :
    ((w.alloc (.cells (zeros n) 3)).alloc (.cells (zeros n) 3)).ownsRow w.heap.size 3 1 (.slice (some ⟨w.heap.size, 0, none⟩) n n) n (I (List.replicate n 0)) ∧
    ((w.alloc (.cells (zeros n) 3)).alloc (.cells (zeros n) 3)).ownsRow w.heap.size 3 1 (.slice (some ⟨w.heap.size + 1, 0, none⟩) n n) n (I (List.replicate n 0)) ∧
    Below w.heap.size w ((w.alloc (.cells (zeros n) 3)).alloc (.cells (zeros n) 3)) := by
  have o1 := own_lit w 3 (List.replicate n 0) (zeros n) rfl (by unfold maxLen; simp; omega)
  have o2 := own_lit (w.alloc (.cells (zeros n) 3)) 3 (List.replicate n 0) (zeros n) rfl (by unfold maxLen; simp; omega)
  rw [List.length_replicate] at o1 o2
  rw [World.size_alloc] at o2
  have hb1 : Below w.heap.size w (w.alloc (.cells (zeros n) 3)) := (Below.refl _ w).alloc (Nat.le_refl _) _
  exact ⟨o1.alloc _, own_mono o2 (by omega), hb1.alloc hb1.size _⟩

end Go.Proofs.Ythcaipnlgbnfkaa
