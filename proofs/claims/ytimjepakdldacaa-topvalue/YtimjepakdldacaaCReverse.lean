/-
  slices.Reverse of a row of the caller's own, or of its tail: what it writes.
-/
import Derived.Test.YtimjepakdldacaaShelf
import Derived.Test.YtimjepakdldacaaPureA
import Derived.WalkKit
import Derived.KernelRfl
import Derived.Laws.NewBlocks
namespace Go.Proofs.Ytimjepakdldacaa
open Go.RowKit Fm
set_option linter.unusedVariables false

/-- slices.Reverse of a row of the caller's own. -/
theorem reverse_own (base g n cap : Nat) (l : List Int) (w : World) (hown : w.ownsRow base 3 1 (.slice (some ⟨g, 0, none⟩) n cap) n (I l)) (hn : n ≤ 9223372036854775807) :
    Calls Try.prog 71 #[.slice (some ⟨g, 0, none⟩) n cap] w fun e w' =>
      e = .returned (.tuple #[]) ∧ w'.ownsRow base 3 1 (.slice (some ⟨g, 0, none⟩) n cap) n (I l.reverse) ∧ w.grownBy w' (some g) := by
  obtain ⟨g', cap', hv, _, _, hnc, hcm, hl, hH⟩ := Lib.holds_of_ownsRow hown (by simp)
  injection hv with hv1 _ hv3
  injection hv1 with hv1
  injection hv1 with hv1
  subst hv1; subst hv3
  have h := Try.slices_Reverse_int g 0 cap l w hH (by omega)
  rw [hl] at h
  refine h.mono ?_
  rintro e w' ⟨rfl, q, rfl⟩
  refine ⟨rfl, ?_, putRow_grown _ _ _ _ _ _⟩
  have h2 := Lib.ownsRow_putRow (q := q) (k := n) (ys := l.reverse) hown (by simp; omega) (by omega)
  rw [List.take_of_length_le (by simp; omega)] at h2
  exact h2

/-- slices.Reverse of the tail of a row of the caller's own. -/
theorem reverse_tail (base g n cap k c : Nat) (l : List Int) (w : World) (hown : w.ownsRow base 3 1 (.slice (some ⟨g, 0, none⟩) n cap) n (I l)) (hk : k < n) (hn : n ≤ 1000000) :
    Calls Try.prog 71 #[.slice (some ⟨g, k, none⟩) (n - k) c] w fun e w' =>
      e = .returned (.tuple #[]) ∧ w'.ownsRow base 3 1 (.slice (some ⟨g, 0, none⟩) n cap) n (I (turnTail l k)) ∧ w.grownBy w' (some g) := by
  have hl := own_len hown
  obtain ⟨g', cap', hv, _, _, _, _, hc⟩ := own_form hown (by omega)
  injection hv with hv1
  injection hv1 with hv1
  injection hv1 with hv1
  subst hv1
  refine (Try.slices_Reverse_int_cells g k (n - k) c (l.drop k) w (by simp; omega) (by omega) (fun j hj => ?_) (fun j hj => hown.frozenAt _)).mono ?_
  · rw [List.length_drop] at hj
    rw [hc (k + j) (by omega)]
    simp [List.getD_eq_getElem?_getD, List.getElem?_drop]
  · rintro e w' ⟨rfl, q, rfl⟩
    rw [List.take_of_length_le (by simp; omega)]
    have h0 : (w.drewN q).ownsRow base 3 1 (.slice (some ⟨g, 0, none⟩) n cap) n (I l) := hown
    obtain ⟨h1, h2⟩ := own_setCells ((l.drop k).reverse.map (Value.int .i64)) k (w.drewN q) (I l) h0
    rw [setMany_I _ _ _ (by simp; omega)] at h1
    exact ⟨rfl, h1, ⟨h2.os, h2.tape, h2.output, h2.size, h2.block⟩⟩
end Go.Proofs.Ytimjepakdldacaa
