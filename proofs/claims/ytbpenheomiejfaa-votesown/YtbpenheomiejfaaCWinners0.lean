/-
  plumekeep.winners returns true, if package rules keeps its contracts.
-/
import Derived.Test.YtbpenheomiejfaaRuleP
import Derived.Test.YtbpenheomiejfaaPureA
import Derived.Test.YtbpenheomiejfaaCGood
import Derived.Test.YtbpenheomiejfaaCEqual
namespace Go.Proofs.Ytbpenheomiejfaa
open Go.RowKit Fm
set_option linter.unusedVariables false

def T5 : List (List Int) := [[0, 1, 2], [2, 1, 0]]
def T6 : List (List Int) := [[0, 1, 2], [1, 0, 2], [1, 2, 0]]
theorem t5_ok : rchk 1 (3 : Nat) T5 = 0 := by decide
theorem t6_ok : rchk 2 (3 : Nat) T6 = 0 := by decide
theorem t5_win : winL 1 3 T5 = [0, 2] := by decide +kernel
theorem t6_x : soleX 2 3 T6 = 1 := by decide +kernel
theorem t6_e : soleE 2 3 T6 = 0 := by decide +kernel
theorem tabIn_smallW {w : World} {a : Option Addr} {n : Nat} {M : List (List Int)} (h : RdR w w.heap.size a n M) (hn : n ≤ 1000) (hl : ∀ l ∈ M, l.length ≤ 1000) : TabIn w a n M :=
  ⟨w.heap.size, Nat.le_refl _, h, by omega, fun l hl' => by have := hl l hl'; omega⟩

set_option maxHeartbeats 4000000 in
set_option maxRecDepth 100000 in
theorem winners0_any (dW : RWin) (sS : RSole) (w : World) :
    Calls Try.prog 16 #[] w fun e w' => e = .returned (.bool true) ∧ Below w.heap.size w w' := by
  have DW : Hid RWin := dW
  have SS : Hid RSole := sS
  clear dW sS
  have L1 := Lib.hid (lit2 w 3 23 [0, 1, 2] [2, 1, 0] #[.int .i64 0, .int .i64 1, .int .i64 2] #[.int .i64 2, .int .i64 1, .int .i64 0] rfl rfl (by decide) (by decide))
  go_enter Try.func16, Try.ntmps16
  go_wp2_with fail
  obtain ⟨r1, b1⟩ := L1.out
  have q1 := DW.out 1 3 (some ⟨w.heap.size + 1 + 1, 0, none⟩) 2 2 T5 _ (tabIn_smallW r1 (by decide) (by decide)) t5_ok
  refine q1.mono ?_
  rintro e w1 ⟨a1, c1, rfl, _, _, rt, hb1⟩
  rw [t5_win] at rt ⊢
  have RT := Lib.hid rt
  have HB := Lib.hid (ext_trans b1 hb1)
  clear q1 r1 b1 hb1 L1 rt
  have L2 := Lib.hid (lit3 w1 3 23 [0, 1, 2] [1, 0, 2] [1, 2, 0] #[.int .i64 0, .int .i64 1, .int .i64 2] #[.int .i64 1, .int .i64 0, .int .i64 2] #[.int .i64 1, .int .i64 2, .int .i64 0] rfl rfl rfl (by decide) (by decide) (by decide))
  go_wp2_with fail
  obtain ⟨r2, b2⟩ := L2.out
  have q2 := SS.out 2 3 (some ⟨w1.heap.size + 1 + 1 + 1, 0, none⟩) 3 3 T6 _ (tabIn_smallW r2 (by decide) (by decide)) t6_ok
  rw [t6_x, t6_e] at q2
  refine q2.mono ?_
  rintro e w2 ⟨rfl, hb2⟩
  have hb12 := ext_trans b2 hb2
  have RT2 := Lib.hid (rd_ext RT.out hb12)
  have HB2 := Lib.hid (ext_trans HB.out hb12)
  clear q2 r2 b2 hb2 L2 RT HB hb12
  go_wp2_with fail
  refine (good_zero w2.heap.size 0 2 2 _ (by omega) (zeros_at w2 24 2 #[.int .i64 0, .int .i64 0] rfl)).mono ?_
  rintro e w3 ⟨rfl, rfl⟩
  have b3 : Below w2.heap.size w2 (w2.alloc (.cells #[.int .i64 0, .int .i64 0] 24)) := (Below.refl _ _).alloc (by omega) _
  have RT3 := Lib.hid (rd_ext RT2.out b3)
  have HB3 := Lib.hid (ext_trans HB2.out b3)
  clear b3 RT2 HB2
  generalize w2.alloc (.cells #[.int .i64 0, .int .i64 0] 24) = w3 at *
  have L3 := Lib.hid (Rd.lit w3 3 [0, 2] #[.int .i64 0, .int .i64 2] rfl)
  have b4 : Below w3.heap.size w3 (w3.alloc (.cells #[.int .i64 0, .int .i64 2] 3)) := (Below.refl _ _).alloc (by omega) _
  go_wp2_with fail
  have q3 := equal_ext [0, 2] [0, 2] a1 (some ⟨w3.heap.size, 0, none⟩) 2 c1 2 2 (w3.alloc (.cells #[.int .i64 0, .int .i64 2] 3)) (rd_ext RT3.out b4) (L3.out.more (by simp)) (by omega) (by omega)
  refine q3.mono ?_
  rintro e w4 ⟨rfl, hb4⟩
  have HB4 := Lib.hid (ext_trans HB3.out (ext_trans b4 hb4))
  clear q3 b4 hb4 L3 RT3 HB3
  go_wp2
  go_ret
  exact ⟨rfl, HB4.out⟩
end Go.Proofs.Ytbpenheomiejfaa
