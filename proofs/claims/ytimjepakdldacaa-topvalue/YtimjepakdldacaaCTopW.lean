/-
  plumetop.works returns true, if worth.Share keeps its contract; nothing that was there is written.
-/
import Derived.Test.YtimjepakdldacaaProg
import Derived.Test.YtimjepakdldacaaPureA
import Derived.Test.YtimjepakdldacaaM17
import Derived.Test.YtimjepakdldacaaCWorths
import Derived.WalkKit
import Derived.KernelRfl
import Derived.Laws.NewBlocks
namespace Go.Proofs.Ytimjepakdldacaa
open Go.RowKit Fm
set_option linter.unusedVariables false

theorem tw1 : ([0, 1, 2] : List Int).Perm (sides 3) := by decide
theorem tw2 : ([2, 0, 1] : List Int).Perm (sides 3) := by decide
theorem tw3 : inv [0, 1, 2] [2, 0, 1] = 2 := by decide +kernel
set_option maxHeartbeats 2000000 in
set_option maxRecDepth 100000 in
theorem works_any (sS : WShare) (w : World) : Calls Try.prog 25 #[] w fun e w' => e = .returned (.bool true) ∧ Below w.heap.size w w' := by
  have SS : Hid WShare := sS
  clear sS
  go_enter Try.func25, Try.ntmps25
  go_wp2_with fail
  have L1 := Rd.lit w 3 [0, 1, 2] #[.int .i64 0, .int .i64 1, .int .i64 2] rfl
  have L2 := Rd.lit (w.alloc (.cells #[.int .i64 0, .int .i64 1, .int .i64 2] 3)) 3 [2, 0, 1] #[.int .i64 2, .int .i64 0, .int .i64 1] rfl
  have hb : Below w.heap.size w ((w.alloc (.cells #[.int .i64 0, .int .i64 1, .int .i64 2] 3)).alloc (.cells #[.int .i64 2, .int .i64 0, .int .i64 1] 3)) := ((Below.refl _ _).alloc (Nat.le_refl _) _).alloc (by simp) _
  have L1' := (L1.alloc (by simp) (.cells #[.int .i64 2, .int .i64 0, .int .i64 1] 3)).more (show w.heap.size + 1 ≤ ((w.alloc (.cells #[.int .i64 0, .int .i64 1, .int .i64 2] 3)).alloc (.cells #[.int .i64 2, .int .i64 0, .int .i64 1] 3)).heap.size by simp)
  have L2' : Rd ((w.alloc (.cells #[.int .i64 0, .int .i64 1, .int .i64 2] 3)).alloc (.cells #[.int .i64 2, .int .i64 0, .int .i64 1] 3)) ((w.alloc (.cells #[.int .i64 0, .int .i64 1, .int .i64 2] 3)).alloc (.cells #[.int .i64 2, .int .i64 0, .int .i64 1] 3)).heap.size (some ⟨w.heap.size + 1, 0, none⟩) 3 [2, 0, 1] := by simpa using L2
  refine (far_perm tw1 tw2 (by omega) (by omega) _ _ 3 3 _ _ (Nat.le_refl _) L1' L2' (Nat.le_refl _)).mono ?_
  rintro e w1 ⟨rfl, hb1⟩
  rw [tw3]
  have hb01 := ext_trans hb hb1
  clear L1 L2 L1' L2' hb hb1
  go_wp2_with fail
  have L3 : Rd (w1.alloc (.cells #[.int .i64 0, .int .i64 0, .int .i64 2, .int .i64 6] 3)) (w1.alloc (.cells #[.int .i64 0, .int .i64 0, .int .i64 2, .int .i64 6] 3)).heap.size (some ⟨w1.heap.size, 0, none⟩) 4 [0, 0, 2, 6] := by simpa using Rd.lit w1 3 [0, 0, 2, 6] #[.int .i64 0, .int .i64 0, .int .i64 2, .int .i64 6] rfl
  have hb3 : Below w1.heap.size w1 (w1.alloc (.cells #[.int .i64 0, .int .i64 0, .int .i64 2, .int .i64 6] 3)) := (Below.refl _ _).alloc (Nat.le_refl _) _
  refine (share_useW (n := 2) (N := 4) SS.out wo2 rfl _ 4 (Nat.le_refl _) _ L3).mono ?_
  rintro e w2 ⟨a1, c1, rfl, _, r1, hb2⟩
  rw [wo1] at r1
  have hb02 := ext_trans (ext_trans hb01 hb3) hb2
  have R1 := Lib.hid r1
  clear L3 hb3 hb2 hb01 SS r1
  go_wp2_with fail
  have l4 := Rd.lit w2 3 [4, 8] #[.int .i64 4, .int .i64 8] rfl
  have b4 : Below w2.heap.size w2 (w2.alloc (.cells #[.int .i64 4, .int .i64 8] 3)) := (Below.refl _ _).alloc (Nat.le_refl _) _
  refine (equal_any [4, 8] [4, 8] a1 (some ⟨w2.heap.size, 0, none⟩) 2 c1 2 2 _ (w2.heap.size + 1) ((R1.out.alloc (Nat.le_refl _) _).more (by omega)) l4 (by omega) (by omega)).mono ?_
  rintro e w4 ⟨rfl, k4, rfl⟩
  have hb04 := ext_trans hb02 (below_drewN b4 k4)
  clear l4 b4 hb02 R1
  go_wp2
  go_ret
  exact ⟨rfl, hb04⟩
end Go.Proofs.Ytimjepakdldacaa
