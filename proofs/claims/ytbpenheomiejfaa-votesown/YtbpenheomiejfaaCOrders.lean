/-
  plumekeep.orders returns true; nothing that was there is written.
-/
import Derived.Test.YtbpenheomiejfaaCFar
import Derived.WalkKit
import Derived.KernelRfl
import Derived.Laws.NewBlocks
namespace Go.Proofs.Ytbpenheomiejfaa
open Go.RowKit Fm
set_option linter.unusedVariables false

set_option maxHeartbeats 400000 in
set_option maxRecDepth 100000 in
theorem orders_any (w : World) : Calls Try.prog 33 #[] w fun e w' => e = .returned (.bool true) ∧ Below w.heap.size w w' := by
  have H := Lib.hid (show inv [0, 1, 2] [2, 0, 1] = 2 by decide)
  have r1 := (Rd.lit w 3 [0, 1, 2] #[.int .i64 0, .int .i64 1, .int .i64 2] rfl).alloc (by simp) (.cells #[.int .i64 2, .int .i64 0, .int .i64 1] 3)
  have r2 := Rd.lit (w.alloc (.cells #[.int .i64 0, .int .i64 1, .int .i64 2] 3)) 3 [2, 0, 1] #[.int .i64 2, .int .i64 0, .int .i64 1] rfl
  have s1 : (w.alloc (.cells #[.int .i64 0, .int .i64 1, .int .i64 2] 3)).heap.size = w.heap.size + 1 := by simp
  rw [s1] at r2
  have r1' := r1.more (B' := w.heap.size + 1 + 1) (by omega)
  have HC := Lib.hid (far_perm (n := 3) (p := [0, 1, 2]) (q := [2, 0, 1]) (List.Perm.refl _) (by decide) (by omega) (by omega) _ _ 3 3 _ (w.heap.size + 1 + 1) (by simp) r1' r2 (by omega))
  rw [H.out] at HC
  clear r1 r2 s1 r1' H
  go_enter Try.func33, Try.ntmps33
  go_wp2_with fail
  refine HC.out.mono ?_
  rintro e w1 ⟨rfl, hb⟩
  clear HC
  have hb' : Below w.heap.size w w1 := (((Below.refl _ w).alloc (Nat.le_refl _) _).alloc (by simp) _).trans (hb.mono (by simp; omega))
  clear hb
  go_wp2
  go_ret
  exact ⟨rfl, hb'⟩
end Go.Proofs.Ytbpenheomiejfaa
