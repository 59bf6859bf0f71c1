/-
  slices.Sort of a row of the caller's own.
-/
import Derived.Test.YthcaipnlgbnfkaaShelf
import Derived.Test.YthcaipnlgbnfkaaPureA
import Derived.WalkKit
import Derived.KernelRfl
import Derived.Laws.NewBlocks
namespace Go.Proofs.Ythcaipnlgbnfkaa
open Go.RowKit Fm
set_option linter.unusedVariables false

/-- slices.Sort of a row of the caller's own. -/
theorem sort_own (base g n cap : Nat) (l : List Int) (w : World) (hown : w.ownsRow base 3 1 (.slice (some ⟨g, 0, none⟩) n cap) n (I l)) (hn : n < 4611686018427387904) :
    Calls Try.prog 60 #[.slice (some ⟨g, 0, none⟩) n cap] w fun e w' =>
      e = .returned (.tuple #[]) ∧ w'.ownsRow base 3 1 (.slice (some ⟨g, 0, none⟩) n cap) n (I (sorted l)) ∧ w.grownBy w' (some g) := by
  obtain ⟨g', cap', hv, _, hlt, hnc, hcm, hl, hH⟩ := Lib.holds_of_ownsRow hown (by simp)
  injection hv with hv1 _ hv3
  injection hv1 with hv1
  injection hv1 with hv1
  subst hv1; subst hv3
  have h := Try.slices_Sort_int g 0 cap l w hH hlt (by omega)
  rw [hl] at h
  refine h.mono ?_
  rintro e w' ⟨rfl, q, os, rfl⟩
  have h2 := Lib.ownsRow_putRow (q := q) (k := n) (ys := sorted l) hown (by rw [sorted_len]; exact hl) (by omega)
  rw [List.take_of_length_le (by rw [sorted_len]; omega)] at h2
  have hb := below_grow (Sort.putRow (Value.int .i64) (Sort.ahead w q) g 0 (sorted l).toArray) os
  refine ⟨rfl, own_below h2 hb (Nat.le_refl _), ?_⟩
  have g1 := putRow_grown (Value.int .i64) w q g 0 (sorted l).toArray
  exact ⟨hb.os.trans g1.os, hb.tape.trans g1.tape, hb.output.trans g1.output, Nat.le_trans g1.size hb.size, fun k hk hne => (hb.block k (Nat.lt_of_lt_of_le hk g1.size)).trans (g1.block k hk hne)⟩
end Go.Proofs.Ythcaipnlgbnfkaa
