/-
  slices.Delete of one element of a row of the caller's own.
-/
import Derived.Test.YtilgoinbajmamaaShelf
import Derived.Test.YtilgoinbajmamaaPureA
import Derived.WalkKit
import Derived.KernelRfl
import Derived.Laws.NewBlocks
namespace Go.Proofs.Ytilgoinbajmamaa
open Go.RowKit Fm
set_option linter.unusedVariables false

/-- slices.Delete of one element of a row of the caller's own. -/
theorem delete_own (base g n cap k : Nat) (l : List Int) (w : World) (hown : w.ownsRow base 3 1 (.slice (some ⟨g, 0, none⟩) n cap) n (I l)) (hk : k < n) :
    Calls Try.prog 17 #[.slice (some ⟨g, 0, none⟩) n cap, .int .i64 k, .int .i64 ((k : Int) + 1)] w fun e w' =>
      e = .returned (.slice (some ⟨g, 0, none⟩) (n - 1) cap) ∧ w'.ownsRow base 3 1 (.slice (some ⟨g, 0, none⟩) (n - 1) cap) (n - 1) (I (l.eraseIdx k)) ∧ w.grownBy w' (some g) := by
  obtain ⟨g', cap', hv, _, _, hnc, hcm, hl, hH⟩ := Lib.holds_of_ownsRow hown (by simp)
  injection hv with hv1 _ hv3
  injection hv1 with hv1
  injection hv1 with hv1
  subst hv1; subst hv3
  have h := Try.slices_Delete_int g 0 cap k (k + 1) l w hH (by omega) (by unfold maxLen at hcm; omega) (by omega) (by omega)
  rw [hl] at h
  have e1 : k + 1 - k = 1 := by omega
  rw [e1] at h
  refine h.mono ?_
  rintro e w' ⟨rfl, q, rfl⟩
  refine ⟨rfl, ?_, putRow_grown _ _ _ _ _ _⟩
  have h2 := Lib.ownsRow_putRow (q := q) (k := n - 1) (ys := l.take k ++ l.drop (k + 1) ++ List.replicate 1 0) hown (by simp; omega) (by omega)
  have e2 : (l.take k ++ l.drop (k + 1) ++ List.replicate 1 0).take (n - 1) = l.eraseIdx k := by
    rw [List.eraseIdx_eq_take_drop_succ, List.take_append_of_le_length (by simp; omega), List.take_of_length_le (by simp; omega)]
  rw [e2] at h2
  exact h2
end Go.Proofs.Ytilgoinbajmamaa
