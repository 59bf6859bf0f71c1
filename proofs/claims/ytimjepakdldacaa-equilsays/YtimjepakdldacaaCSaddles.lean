/-
  plumekeep.saddles returns true, if saddle.Bounds and saddle.Points keep their contracts.
-/
import Derived.Test.YtimjepakdldacaaPayP
import Derived.Test.YtimjepakdldacaaPureA
import Derived.Test.YtimjepakdldacaaCGood
import Derived.Test.YtimjepakdldacaaCPairEq
namespace Go.Proofs.Ytimjepakdldacaa
open Go.RowKit Fm
set_option linter.unusedVariables false

def T5 : List (List Int) := [[3, 1], [4, 2]]
theorem t5_ok : Pay 2 2 T5 := ⟨rfl, by decide, by decide, by decide, by decide, by decide, by decide⟩
theorem t5_lo : loB T5 = 2 := by decide
theorem t5_hi : hiB 2 T5 = 2 := by decide
theorem t5_pts : ptA T5 2 2 = [(1, 1)] := by decide +kernel
theorem rd2_lit1 (w : World) (t : TypeId) (x y : Int) : Rd2 (w.alloc (.cells #[.int .i64 x, .int .i64 y] t)) (w.alloc (.cells #[.int .i64 x, .int .i64 y] t)).heap.size (some ⟨w.heap.size, 0, none⟩) 1 [(x, y)] := by
  refine ⟨rfl, fun _ => ⟨w.heap.size, 0, rfl, by simp, fun j hj => ?_⟩⟩
  obtain rfl : j = 0 := by omega
  simp [World.cell?_alloc_new]

set_option maxHeartbeats 4000000 in
set_option maxRecDepth 100000 in
theorem saddles_any (sB : SBounds) (sP : SPoints) (w : World) :
    Calls Try.prog 19 #[] w fun e w' => e = .returned (.bool true) ∧ Below w.heap.size w w' := by
  have SB : Hid SBounds := sB
  have SP : Hid SPoints := sP
  clear sB sP
  have L1 := Lib.hid (lit2 w 3 27 [3, 1] [4, 2] #[.int .i64 3, .int .i64 1] #[.int .i64 4, .int .i64 2] rfl rfl (by decide) (by decide))
  go_enter Try.func19, Try.ntmps19
  go_wp2_with fail
  obtain ⟨r1, b1⟩ := L1.out
  have q1 := SB.out 2 2 (some ⟨w.heap.size + 1 + 1, 0, none⟩) 2 2 T5 _ (tabIn_pay r1 t5_ok) t5_ok
  refine q1.mono ?_
  rintro e w1 ⟨rfl, hb1⟩
  rw [t5_lo, t5_hi]
  have HB := Lib.hid (ext_trans b1 hb1)
  clear q1 r1 b1 hb1 L1
  have L2 := Lib.hid (lit2 w1 3 27 [3, 1] [4, 2] #[.int .i64 3, .int .i64 1] #[.int .i64 4, .int .i64 2] rfl rfl (by decide) (by decide))
  go_wp2_with fail
  obtain ⟨r2, b2⟩ := L2.out
  have q2 := SP.out 2 2 (some ⟨w1.heap.size + 1 + 1, 0, none⟩) 2 2 T5 _ (tabIn_pay r2 t5_ok) t5_ok
  refine q2.mono ?_
  rintro e w2 ⟨a2, c2, rfl, _, _, rp, hb2⟩
  rw [t5_pts] at rp ⊢
  have RP := Lib.hid rp
  have HB2 := Lib.hid (ext_trans HB.out (ext_trans b2 hb2))
  clear q2 r2 b2 hb2 L2 rp HB
  go_wp2_with fail
  refine (good_zero w2.heap.size 0 2 2 _ (by omega) (zeros_at w2 24 2 #[.int .i64 0, .int .i64 0] rfl)).mono ?_
  rintro e w3 ⟨rfl, rfl⟩
  have b3 : Below w2.heap.size w2 (w2.alloc (.cells #[.int .i64 0, .int .i64 0] 24)) := (Below.refl _ _).alloc (by omega) _
  have RP3 := Lib.hid (rd2_ext RP.out b3)
  have HB3 := Lib.hid (ext_trans HB2.out b3)
  clear b3 RP HB2
  generalize w2.alloc (.cells #[.int .i64 0, .int .i64 0] 24) = w3 at *
  have L3 := Lib.hid (rd2_lit1 w3 34 1 1)
  have b4 : Below w3.heap.size w3 (w3.alloc (.cells #[.int .i64 1, .int .i64 1] 34)) := (Below.refl _ _).alloc (by omega) _
  go_wp2_with fail
  have q3 := equal2_any [(1, 1)] [(1, 1)] a2 (some ⟨w3.heap.size, 0, none⟩) 1 c2 1 1 (w3.alloc (.cells #[.int .i64 1, .int .i64 1] 34)) _ (rd2_ext RP3.out b4) L3.out (by omega) (by omega)
  refine q3.mono ?_
  rintro e w4 ⟨rfl, k4, rfl⟩
  have hbf := ext_trans HB3.out (below_drewN b4 k4)
  clear q3 b4 L3 RP3 HB3
  go_wp2
  go_ret
  exact ⟨rfl, hbf⟩
end Go.Proofs.Ytimjepakdldacaa
