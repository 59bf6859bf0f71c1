/-
  plumekeep.duels returns true, if package duel keeps its contracts.
-/
import Derived.Test.YtkenbogkjoafjaaDuelP
import Derived.Test.YtkenbogkjoafjaaPureA
import Derived.Test.YtkenbogkjoafjaaCGood
import Derived.Test.YtkenbogkjoafjaaCEqual
namespace Go.Proofs.Ytkenbogkjoafjaa
open Go.RowKit Fm
set_option linter.unusedVariables false

def T1 : List (List Int) := [[0, 2, 1], [1, 0, 2], [2, 1, 0]]
def T2 : List (List Int) := [[0, 2, 2], [1, 0, 2], [1, 1, 0]]
theorem t1_ok : tchk T1 = 0 := by decide
theorem t2_ok : tchk T2 = 0 := by decide
theorem t1_top : topL 3 T1 = [0, 1, 2] := by decide +kernel
theorem t2_wins : winsL 3 T2 = [2, 0, -2] := by decide +kernel
theorem tabIn_small {w : World} {a : Option Addr} {n : Nat} {M : List (List Int)} (h : RdR w w.heap.size a n M) (hn : n ≤ 1000) (hl : ∀ l ∈ M, l.length ≤ 1000) : TabIn w a n M :=
  ⟨w.heap.size, Nat.le_refl _, h, by omega, fun l hl' => by have := hl l hl'; omega⟩

set_option maxHeartbeats 4000000 in
set_option maxRecDepth 100000 in
theorem duels0_any (dW : DWins) (dT : DTop) (w : World) :
    Calls Try.prog 15 #[] w fun e w' => e = .returned (.bool true) ∧ Below w.heap.size w w' := by
  have DW : Hid DWins := dW
  have DT : Hid DTop := dT
  clear dW dT
  have L1 := Lib.hid (lit3 w 3 26 [0, 2, 1] [1, 0, 2] [2, 1, 0] #[.int .i64 0, .int .i64 2, .int .i64 1] #[.int .i64 1, .int .i64 0, .int .i64 2] #[.int .i64 2, .int .i64 1, .int .i64 0] rfl rfl rfl (by decide) (by decide) (by decide))
  go_enter Try.func15, Try.ntmps15
  go_wp2_with fail
  obtain ⟨r1, b1⟩ := L1.out
  have q1 := DT.out (some ⟨w.heap.size + 1 + 1 + 1, 0, none⟩) 3 3 T1 _ (tabIn_small r1 (by decide) (by decide)) t1_ok
  refine q1.mono ?_
  rintro e w1 ⟨a1, c1, rfl, _, _, rt, hb1⟩
  rw [t1_top] at rt ⊢
  have hb01 := ext_trans b1 hb1
  clear q1 r1 b1 hb1 L1
  have L2 := Lib.hid (lit3 w1 3 26 [0, 2, 2] [1, 0, 2] [1, 1, 0] #[.int .i64 0, .int .i64 2, .int .i64 2] #[.int .i64 1, .int .i64 0, .int .i64 2] #[.int .i64 1, .int .i64 1, .int .i64 0] rfl rfl rfl (by decide) (by decide) (by decide))
  have RT := Lib.hid rt
  have HB := Lib.hid hb01
  clear rt hb01
  go_wp2_with fail
  obtain ⟨r2, b2⟩ := L2.out
  have q2 := DW.out (some ⟨w1.heap.size + 1 + 1 + 1, 0, none⟩) 3 3 T2 _ (tabIn_small r2 (by decide) (by decide)) t2_ok
  refine q2.mono ?_
  rintro e w2 ⟨a2, c2, rfl, _, _, rw2, hb2⟩
  rw [t2_wins] at rw2 ⊢
  have hb12 := ext_trans b2 hb2
  have RT2 := Lib.hid (rd_ext RT.out hb12)
  have RW2 := Lib.hid rw2
  have HB2 := Lib.hid (ext_trans HB.out hb12)
  clear q2 r2 b2 hb2 L2 rw2 RT HB hb12
  go_wp2_with fail
  refine (good_zero w2.heap.size 0 2 2 _ (by omega) (zeros_at w2 23 2 #[.int .i64 0, .int .i64 0] rfl)).mono ?_
  rintro e w3 ⟨rfl, rfl⟩
  have b3 : Below w2.heap.size w2 (w2.alloc (.cells #[.int .i64 0, .int .i64 0] 23)) := (Below.refl _ _).alloc (by omega) _
  have RT3 := Lib.hid (rd_ext RT2.out b3)
  have RW3 := Lib.hid (rd_ext RW2.out b3)
  have HB3 := Lib.hid (ext_trans HB2.out b3)
  clear b3 RT2 RW2 HB2
  generalize w2.alloc (.cells #[.int .i64 0, .int .i64 0] 23) = w3 at *
  have L3 := Lib.hid (Rd.lit w3 3 [0, 1, 2] #[.int .i64 0, .int .i64 1, .int .i64 2] rfl)
  have b4 : Below w3.heap.size w3 (w3.alloc (.cells #[.int .i64 0, .int .i64 1, .int .i64 2] 3)) := (Below.refl _ _).alloc (by omega) _
  go_wp2_with fail
  have q3 := equal_ext [0, 1, 2] [0, 1, 2] a1 (some ⟨w3.heap.size, 0, none⟩) 3 c1 3 3 (w3.alloc (.cells #[.int .i64 0, .int .i64 1, .int .i64 2] 3)) (rd_ext RT3.out b4) (L3.out.more (by simp)) (by omega) (by omega)
  refine q3.mono ?_
  rintro e w4 ⟨rfl, hb4⟩
  have RW4 := Lib.hid (rd_ext RW3.out (ext_trans b4 hb4))
  have HB4 := Lib.hid (ext_trans HB3.out (ext_trans b4 hb4))
  clear q3 b4 hb4 L3 RT3 RW3 HB3
  have L4 := Lib.hid (Rd.lit w4 3 [2, 0, -2] #[.int .i64 2, .int .i64 0, .int .i64 (-2)] rfl)
  have b5 : Below w4.heap.size w4 (w4.alloc (.cells #[.int .i64 2, .int .i64 0, .int .i64 (-2)] 3)) := (Below.refl _ _).alloc (by omega) _
  go_wp2_with fail
  have q4 := equal_ext [2, 0, -2] [2, 0, -2] a2 (some ⟨w4.heap.size, 0, none⟩) 3 c2 3 3 (w4.alloc (.cells #[.int .i64 2, .int .i64 0, .int .i64 (-2)] 3)) (rd_ext RW4.out b5) (L4.out.more (by simp)) (by omega) (by omega)
  refine q4.mono ?_
  rintro e w5 ⟨rfl, hb5⟩
  have HB5 := Lib.hid (ext_trans HB4.out (ext_trans b5 hb5))
  clear q4 b5 hb5 L4 RW4 HB4
  go_wp2
  go_ret
  exact ⟨rfl, HB5.out⟩
end Go.Proofs.Ytkenbogkjoafjaa
