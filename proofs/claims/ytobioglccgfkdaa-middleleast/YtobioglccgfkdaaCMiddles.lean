/-
  plumekeep.middles returns true, if package middle keeps its contract.
-/
import Derived.Test.YtobioglccgfkdaaMidP
import Derived.Test.YtobioglccgfkdaaPureA
import Derived.Test.YtobioglccgfkdaaCEqual
namespace Go.Proofs.Ytobioglccgfkdaa
open Go.RowKit Fm
set_option linter.unusedVariables false

def T7 : List (List Int) := [[0, 1, 2], [1, 2, 0], [1, 0, 2]]
theorem t7_ok : vchk (3 : Nat) T7 = 0 := by decide
theorem t7_best : bestL 3 T7 = [1, 0, 2] := by decide +kernel
theorem t7_least : leastN 3 T7 = 2 := by decide +kernel
theorem tabIn_smallM {w : World} {a : Option Addr} {n : Nat} {M : List (List Int)} (h : RdR w w.heap.size a n M) (hn : n ≤ 1000) (hl : ∀ l ∈ M, l.length ≤ 1000) : TabIn w a n M :=
  ⟨w.heap.size, Nat.le_refl _, h, by omega, fun l hl' => by have := hl l hl'; omega⟩

set_option maxHeartbeats 4000000 in
set_option maxRecDepth 100000 in
theorem middles_any (mB : MBest) (w : World) :
    Calls Try.prog 14 #[] w fun e w' => e = .returned (.bool true) ∧ Below w.heap.size w w' := by
  have MB : Hid MBest := mB
  clear mB
  have L1 := Lib.hid (lit3 w 3 23 [0, 1, 2] [1, 2, 0] [1, 0, 2] #[.int .i64 0, .int .i64 1, .int .i64 2] #[.int .i64 1, .int .i64 2, .int .i64 0] #[.int .i64 1, .int .i64 0, .int .i64 2] rfl rfl rfl (by decide) (by decide) (by decide))
  go_enter Try.func14, Try.ntmps14
  go_wp2_with fail
  obtain ⟨r1, b1⟩ := L1.out
  have q1 := MB.out 3 (some ⟨w.heap.size + 1 + 1 + 1, 0, none⟩) 3 3 T7 _ (tabIn_smallM r1 (by decide) (by decide)) t7_ok
  rw [t7_best, t7_least] at q1
  refine q1.mono ?_
  rintro e w1 ⟨a1, c1, rfl, _, _, rt, hb1⟩
  have RT := Lib.hid rt
  have hb := ext_trans b1 hb1
  clear q1 r1 b1 hb1 L1 rt
  have L3 := Lib.hid (Rd.lit w1 3 [1, 0, 2] #[.int .i64 1, .int .i64 0, .int .i64 2] rfl)
  have b4 : Below w1.heap.size w1 (w1.alloc (.cells #[.int .i64 1, .int .i64 0, .int .i64 2] 3)) := (Below.refl _ _).alloc (by omega) _
  have QE := Lib.hid (equal_ext [1, 0, 2] [1, 0, 2] a1 (some ⟨w1.heap.size, 0, none⟩) 3 c1 3 3 _ (rd_ext RT.out b4) (L3.out.more (by simp)) (by omega) (by omega))
  have hb2 := ext_trans hb b4
  clear b4 L3 RT hb
  go_wp2_with fail
  refine QE.out.mono ?_
  rintro e w2 ⟨rfl, hb3⟩
  have hbe := ext_trans hb2 hb3
  clear QE hb2 hb3
  go_wp2
  go_ret
  exact ⟨rfl, hbe⟩
end Go.Proofs.Ytobioglccgfkdaa
