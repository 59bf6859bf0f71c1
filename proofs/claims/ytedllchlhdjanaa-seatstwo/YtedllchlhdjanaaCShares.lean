/-
  plumekeep.shares returns true, if seats.Share keeps its contract; nothing that was there is written.
-/
import Derived.Test.YtedllchlhdjanaaSeatP
import Derived.Test.YtedllchlhdjanaaCGood
import Derived.Test.YtedllchlhdjanaaCEqual
namespace Go.Proofs.Ytedllchlhdjanaa
open Go.RowKit Fm
set_option linter.unusedVariables false

theorem sh1 : sharesL 1 [60, 30, 10] 5 = [4, 1, 0] := by decide +kernel
theorem sh3 : sharesL 3 [60, 30, 10] 5 = [3, 2, 0] := by decide +kernel
theorem sc1 : schk 1 [60, 30, 10] ((5 : Nat) : Int) = 0 := by decide +kernel
theorem sc3 : schk 3 [60, 30, 10] ((5 : Nat) : Int) = 0 := by decide +kernel
theorem lit3_inS (w : World) (t : TypeId) (l : List Int) (hl : l.length = 3) (cs : Array Value) (hcs : cs = (I l).toArray) : LstS (w.alloc (.cells cs t)) (some ⟨w.heap.size, 0, none⟩) 3 3 l := by
  have := Rd.lit w t l cs hcs
  rw [hl] at this
  exact ⟨by simpa using this, by omega, by omega⟩

set_option maxHeartbeats 2000000 in
set_option maxRecDepth 100000 in
theorem shares_any (sS : SShare) (w : World) : Calls Try.prog 14 #[] w fun e w' => e = .returned (.bool true) ∧ Below w.heap.size w w' := by
  have SS : Hid SShare := sS
  clear sS
  go_enter Try.func14, Try.ntmps14
  go_wp2_with fail
  have L1 := lit3_inS w 3 [60, 30, 10] rfl #[.int .i64 60, .int .i64 30, .int .i64 10] rfl
  have hb : Below w.heap.size w (w.alloc (.cells #[.int .i64 60, .int .i64 30, .int .i64 10] 3)) := (Below.refl _ _).alloc (Nat.le_refl _) _
  refine (SS.out 1 _ 3 3 [60, 30, 10] 5 _ L1 sc1).mono ?_
  rintro e w1 ⟨a1, c1, rfl, _, _, r1, hb1⟩
  rw [sh1] at r1 ⊢
  have hb01 := ext_trans hb hb1
  clear L1 hb hb1
  go_wp2_with fail
  have L1 := lit3_inS w1 3 [60, 30, 10] rfl #[.int .i64 60, .int .i64 30, .int .i64 10] rfl
  have hb : Below w1.heap.size w1 (w1.alloc (.cells #[.int .i64 60, .int .i64 30, .int .i64 10] 3)) := (Below.refl _ _).alloc (Nat.le_refl _) _
  refine (SS.out 3 _ 3 3 [60, 30, 10] 5 _ L1 sc3).mono ?_
  rintro e w2 ⟨a2, c2, rfl, _, _, r2, hb2⟩
  rw [sh3] at r2 ⊢
  have r12 := rd_ext r1 (ext_trans hb hb2)
  have hb02 := ext_trans hb01 (ext_trans hb hb2)
  clear L1 hb hb2 hb01 SS r1
  have R1 := Lib.hid r12
  have R2 := Lib.hid r2
  clear r12 r2
  go_wp2_with fail
  refine (good_zero w2.heap.size 0 2 2 _ (by omega) (zeros_at w2 23 2 #[.int .i64 0, .int .i64 0] rfl)).mono ?_
  rintro e w3 ⟨rfl, rfl⟩
  have b3 : Below w2.heap.size w2 (w2.alloc (.cells #[.int .i64 0, .int .i64 0] 23)) := (Below.refl _ _).alloc (Nat.le_refl _) _
  have hb03 := ext_trans hb02 b3
  have R13 := Lib.hid (rd_ext R1.out b3)
  have R23 := Lib.hid (rd_ext R2.out b3)
  clear b3 hb02 R1 R2
  generalize w2.alloc (.cells #[.int .i64 0, .int .i64 0] 23) = w3 at *
  go_wp2_with fail
  have l4 := Rd.lit w3 3 [4, 1, 0] #[.int .i64 4, .int .i64 1, .int .i64 0] rfl
  have b4 : Below w3.heap.size w3 (w3.alloc (.cells #[.int .i64 4, .int .i64 1, .int .i64 0] 3)) := (Below.refl _ _).alloc (Nat.le_refl _) _
  refine (equal_any [4, 1, 0] [4, 1, 0] a1 (some ⟨w3.heap.size, 0, none⟩) 3 c1 3 3 _ (w3.heap.size + 1) ((R13.out.alloc (Nat.le_refl _) _).more (by omega)) l4 (by omega) (by omega)).mono ?_
  rintro e w4 ⟨rfl, k4, rfl⟩
  have hb04 := ext_trans hb03 (below_drewN b4 k4)
  have R24 := Lib.hid (rd_ext R23.out (below_drewN b4 k4))
  clear l4 b4 hb03 R13 R23
  generalize (w3.alloc (.cells #[.int .i64 4, .int .i64 1, .int .i64 0] 3)).drewN k4 = w4 at *
  go_wp2_with fail
  have l5 := Rd.lit w4 3 [3, 2, 0] #[.int .i64 3, .int .i64 2, .int .i64 0] rfl
  have b5 : Below w4.heap.size w4 (w4.alloc (.cells #[.int .i64 3, .int .i64 2, .int .i64 0] 3)) := (Below.refl _ _).alloc (Nat.le_refl _) _
  refine (equal_any [3, 2, 0] [3, 2, 0] a2 (some ⟨w4.heap.size, 0, none⟩) 3 c2 3 3 _ (w4.heap.size + 1) ((R24.out.alloc (Nat.le_refl _) _).more (by omega)) l5 (by omega) (by omega)).mono ?_
  rintro e w5 ⟨rfl, k5, rfl⟩
  have hb05 := ext_trans hb04 (below_drewN b5 k5)
  clear l5 b5 hb04 R24
  go_wp2
  go_ret
  exact ⟨rfl, hb05⟩
end Go.Proofs.Ytedllchlhdjanaa
