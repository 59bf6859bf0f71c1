/-
  plumetop.good returns true of errors that are all 0; plumetop.works returns true, if worth.Share keeps its contract; nothing that was there is written.
-/
import Derived.Test.YthcaipnlgbnfkaaProg
import Derived.Test.YthcaipnlgbnfkaaPureA
import Derived.Test.YthcaipnlgbnfkaaM6
import Derived.Test.YthcaipnlgbnfkaaCWorths
import Derived.WalkKit
import Derived.KernelRfl
import Derived.Laws.NewBlocks
namespace Go.Proofs.Ythcaipnlgbnfkaa
open Go.RowKit Fm
set_option linter.unusedVariables false

set_option maxHeartbeats 400000 in
set_option maxRecDepth 100000 in
theorem tgood1_zero (w : World) : Calls Try.prog 83 #[.int .i64 0] w fun e w' => e = .returned (.bool false) ∧ w = w' := by
  go_enter Try.func83, Try.ntmps83
  go_wp2
  go_ret
  exact ⟨rfl, rfl⟩

set_option maxHeartbeats 400000 in
set_option maxRecDepth 100000 in
theorem tindexFunc_zero (b o n c : Nat) (w : World) (hn : n ≤ 1000) (hc : ∀ j, j < n → w.cell? ⟨b, o + j, none⟩ = some (.int .i64 0)) :
    Calls Try.prog 95 #[.slice (some ⟨b, o, none⟩) n c, .func (.func 83) #[] #[]] w fun e w' => e = .returned (.int .i64 (-1)) ∧ w = w' := by
  have HC := Lib.hid hc
  clear hc
  go_enter Try.func95, Try.ntmps95
  go_wp2
  go_loop [8] (fun i => ∃ j : Nat, j ≤ n ∧ i = .int .i64 j) (fun i => n - (intOf i).toNat)
  case atStart => exact ⟨0, Nat.zero_le _, rfl⟩
  case round =>
    obtain ⟨j, hj, rfl⟩ := hrel
    by_cases hlt : j < n
    · have hcj := HC.out j hlt
      go_wp2_with fail
      refine (tgood1_zero w).mono ?_
      rintro e w' ⟨rfl, rfl⟩
      go_wp2
      go_round
      case rel => exact ⟨j + 1, by omega, by go_num⟩
      case measure => simp [intOf]; omega
    · go_wp2
      go_ret
      exact ⟨rfl, rfl⟩

set_option maxHeartbeats 400000 in
set_option maxRecDepth 100000 in
theorem tgood_zero (b o n c : Nat) (w : World) (hn : n ≤ 1000) (hc : ∀ j, j < n → w.cell? ⟨b, o + j, none⟩ = some (.int .i64 0)) :
    Calls Try.prog 43 #[.slice (some ⟨b, o, none⟩) n c] w fun e w' => e = .returned (.bool true) ∧ w = w' := by
  have HC := Lib.hid hc
  clear hc
  have hcf : Calls Try.prog 64 #[.slice (some ⟨b, o, none⟩) n c, .func (.func 83) #[] #[]] w fun e w' => e = .returned (.bool false) ∧ w = w' := by
    go_enter Try.func64, Try.ntmps64
    go_wp2_with fail
    refine (tindexFunc_zero b o n c w hn HC.out).mono ?_
    rintro e w' ⟨rfl, rfl⟩
    go_wp2
    go_ret
    exact ⟨rfl, rfl⟩
  have HF := Lib.hid hcf
  clear hcf
  go_enter Try.func43, Try.ntmps43
  go_wp2_with fail
  refine HF.out.mono ?_
  rintro e w' ⟨rfl, rfl⟩
  go_wp2
  go_ret
  exact ⟨rfl, rfl⟩

theorem tw1 : ([0, 1, 2] : List Int).Perm (sides 3) := by decide
theorem tw2 : ([2, 0, 1] : List Int).Perm (sides 3) := by decide
theorem tw3 : inv [0, 1, 2] [2, 0, 1] = 2 := by decide +kernel
set_option maxHeartbeats 2000000 in
set_option maxRecDepth 100000 in
theorem works_any (sS : WShare) (w : World) : Calls Try.prog 42 #[] w fun e w' => e = .returned (.bool true) ∧ Below w.heap.size w w' := by
  have SS : Hid WShare := sS
  clear sS
  go_enter Try.func42, Try.ntmps42
  go_wp2_with fail
  have L1 := Rd.lit w 3 [0, 1, 2] #[.int .i64 0, .int .i64 1, .int .i64 2] rfl
  have L2 := Rd.lit (w.alloc (.cells #[.int .i64 0, .int .i64 1, .int .i64 2] 3)) 3 [2, 0, 1] #[.int .i64 2, .int .i64 0, .int .i64 1] rfl
  have hb : Below w.heap.size w ((w.alloc (.cells #[.int .i64 0, .int .i64 1, .int .i64 2] 3)).alloc (.cells #[.int .i64 2, .int .i64 0, .int .i64 1] 3)) := ((Below.refl _ _).alloc (Nat.le_refl _) _).alloc (by simp) _
  have L1' := (L1.alloc (by simp) (.cells #[.int .i64 2, .int .i64 0, .int .i64 1] 3)).more (show w.heap.size + 1 ≤ ((w.alloc (.cells #[.int .i64 0, .int .i64 1, .int .i64 2] 3)).alloc (.cells #[.int .i64 2, .int .i64 0, .int .i64 1] 3)).heap.size by simp)
  have L2' : Rd ((w.alloc (.cells #[.int .i64 0, .int .i64 1, .int .i64 2] 3)).alloc (.cells #[.int .i64 2, .int .i64 0, .int .i64 1] 3)) ((w.alloc (.cells #[.int .i64 0, .int .i64 1, .int .i64 2] 3)).alloc (.cells #[.int .i64 2, .int .i64 0, .int .i64 1] 3)).heap.size (some ⟨w.heap.size + 1, 0, none⟩) 3 [2, 0, 1] := by simpa using L2
  refine (far_perm tw1 tw2 (by omega) (by omega) _ _ 3 3 _ _ (Nat.le_refl _) L1' L2' (Nat.le_refl _)).mono ?_
  rintro e w1 ⟨rfl, hb1⟩
  rw [tw3]
  have hb01 := ext_trans hb hb1
  clear L1 L2 L1' L2' hb hb1
  go_wp2_with fail
  have L3 : Rd (w1.alloc (.cells #[.int .i64 0, .int .i64 0, .int .i64 2, .int .i64 6] 3)) (w1.alloc (.cells #[.int .i64 0, .int .i64 0, .int .i64 2, .int .i64 6] 3)).heap.size (some ⟨w1.heap.size, 0, none⟩) 4 [0, 0, 2, 6] := by simpa using Rd.lit w1 3 [0, 0, 2, 6] #[.int .i64 0, .int .i64 0, .int .i64 2, .int .i64 6] rfl
  have hb3 : Below w1.heap.size w1 (w1.alloc (.cells #[.int .i64 0, .int .i64 0, .int .i64 2, .int .i64 6] 3)) := (Below.refl _ _).alloc (Nat.le_refl _) _
  refine (share_useW (n := 2) (N := 4) SS.out wo2 rfl _ 4 (Nat.le_refl _) _ L3).mono ?_
  rintro e w2 ⟨a1, c1, rfl, _, r1, hb2⟩
  rw [wo1] at r1
  have hb02 := ext_trans (ext_trans hb01 hb3) hb2
  have R1 := Lib.hid r1
  clear L3 hb3 hb2 hb01 SS r1
  go_wp2_with fail
  have l4 := Rd.lit w2 3 [4, 8] #[.int .i64 4, .int .i64 8] rfl
  have b4 : Below w2.heap.size w2 (w2.alloc (.cells #[.int .i64 4, .int .i64 8] 3)) := (Below.refl _ _).alloc (Nat.le_refl _) _
  refine (equal_any [4, 8] [4, 8] a1 (some ⟨w2.heap.size, 0, none⟩) 2 c1 2 2 _ (w2.heap.size + 1) ((R1.out.alloc (Nat.le_refl _) _).more (by omega)) l4 (by omega) (by omega)).mono ?_
  rintro e w4 ⟨rfl, k4, rfl⟩
  have hb04 := ext_trans hb02 (below_drewN b4 k4)
  clear l4 b4 hb02 R1
  go_wp2
  go_ret
  exact ⟨rfl, hb04⟩
end Go.Proofs.Ythcaipnlgbnfkaa
