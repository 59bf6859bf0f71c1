/-
  plumekeep.peaks returns true, if peak.Along keeps its contract; nothing that was there is written.
-/
import Derived.Test.YtcjhgkmodfkmoaaPeakP
import Derived.Test.YtcjhgkmodfkmoaaCGood
namespace Go.Proofs.Ytcjhgkmodfkmoaa
open Go.RowKit Fm
set_option linter.unusedVariables false

theorem pk1 : alongA [0, 1, 2] [1, 2, 0] = true ∧ achk [0, 1, 2] [1, 2, 0] = 0 := by decide +kernel
theorem pk2 : alongA [0, 1, 2] [0, 2, 1] = false ∧ achk [0, 1, 2] [0, 2, 1] = 0 := by decide +kernel
theorem lit3_in (w : World) (t : TypeId) (l : List Int) (hl : l.length = 3) (cs : Array Value) (hcs : cs = (I l).toArray) : LstIn (w.alloc (.cells cs t)) (some ⟨w.heap.size, 0, none⟩) 3 3 l := by
  have := Rd.lit w t l cs hcs
  rw [hl] at this
  exact ⟨by simpa using this, by omega, by omega⟩

set_option maxHeartbeats 2000000 in
set_option maxRecDepth 100000 in
theorem peaks_any (pA : PAlong) (w : World) : Calls Try.prog 14 #[] w fun e w' => e = .returned (.bool true) ∧ Below w.heap.size w w' := by
  have PA : Hid PAlong := pA
  clear pA
  go_enter Try.func14, Try.ntmps14
  go_wp2_with fail
  have L1 := (lit3_in w 3 [0, 1, 2] rfl #[.int .i64 0, .int .i64 1, .int .i64 2] rfl).below ((Below.refl _ _).alloc (Nat.le_refl _) (.cells #[.int .i64 1, .int .i64 2, .int .i64 0] 3))
  have L2 := lit3_in (w.alloc (.cells #[.int .i64 0, .int .i64 1, .int .i64 2] 3)) 3 [1, 2, 0] rfl #[.int .i64 1, .int .i64 2, .int .i64 0] rfl
  have hb : Below w.heap.size w ((w.alloc (.cells #[.int .i64 0, .int .i64 1, .int .i64 2] 3)).alloc (.cells #[.int .i64 1, .int .i64 2, .int .i64 0] 3)) := ((Below.refl _ _).alloc (Nat.le_refl _) _).alloc (by simp) _
  rw [World.size_alloc] at L2
  refine (PA.out _ 3 3 [0, 1, 2] _ 3 3 [1, 2, 0] _ L1 L2).mono ?_
  rintro e w1 ⟨rfl, hb1⟩
  rw [pk1.1, pk1.2]
  have hb01 := ext_trans hb hb1
  clear L1 L2 hb hb1
  go_wp2_with fail
  have L1 := (lit3_in w1 3 [0, 1, 2] rfl #[.int .i64 0, .int .i64 1, .int .i64 2] rfl).below ((Below.refl _ _).alloc (Nat.le_refl _) (.cells #[.int .i64 0, .int .i64 2, .int .i64 1] 3))
  have L2 := lit3_in (w1.alloc (.cells #[.int .i64 0, .int .i64 1, .int .i64 2] 3)) 3 [0, 2, 1] rfl #[.int .i64 0, .int .i64 2, .int .i64 1] rfl
  have hb : Below w1.heap.size w1 ((w1.alloc (.cells #[.int .i64 0, .int .i64 1, .int .i64 2] 3)).alloc (.cells #[.int .i64 0, .int .i64 2, .int .i64 1] 3)) := ((Below.refl _ _).alloc (Nat.le_refl _) _).alloc (by simp) _
  rw [World.size_alloc] at L2
  refine (PA.out _ 3 3 [0, 1, 2] _ 3 3 [0, 2, 1] _ L1 L2).mono ?_
  rintro e w2 ⟨rfl, hb2⟩
  rw [pk2.1, pk2.2]
  have hb02 := ext_trans hb01 (ext_trans hb hb2)
  clear L1 L2 hb hb2 hb01 PA
  go_wp2_with fail
  refine (good_zero w2.heap.size 0 2 2 _ (by omega) (zeros_at w2 24 2 #[.int .i64 0, .int .i64 0] rfl)).mono ?_
  rintro e w3 ⟨rfl, rfl⟩
  go_wp2
  go_ret
  exact ⟨rfl, hb02.alloc hb02.size _⟩
end Go.Proofs.Ytcjhgkmodfkmoaa
