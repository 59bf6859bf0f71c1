/-
  plumekeep.SeatsTwo returns true, for every three ints, if seats.Share keeps its contract; nothing that was there is written.
-/
import Derived.Test.YtedllchlhdjanaaSeatUse
import Derived.Test.YtedllchlhdjanaaCWithin
import Derived.Test.YtedllchlhdjanaaPush
namespace Go.Proofs.Ytedllchlhdjanaa
open Go.RowKit Fm
set_option linter.unusedVariables false

theorem two_ppl {X Y : Int} (hX : 1 ≤ X ∧ X ≤ 500) (hY : 0 ≤ Y ∧ Y ≤ 499) : Ppl [X, Y] := by
  refine ⟨by simp, by simp, fun x hx => ?_, ?_⟩
  · simp at hx; rcases hx with rfl | rfl <;> omega
  · refine sN_pos (fun x hx => by simp at hx; rcases hx with rfl | rfl <;> omega) (fun h => ?_)
    have := h X (by simp)
    omega
theorem two_same {X Y : Int} (p : Ppl [X, Y]) (h : Nat) : sharesL 2 [X, Y] h = sharesL 3 [X, Y] h :=
  shares_ext rfl (fun i hi => by unfold shareN; rw [if_neg (by omega), if_pos rfl]; exact seat_two p.some_ i hi)

set_option maxHeartbeats 4000000 in
set_option maxRecDepth 100000 in
theorem seatsTwo_is (sS : SShare) (x0 : Int) (hx0 : -9223372036854775808 ≤ x0) (hx1 : x0 ≤ 9223372036854775807) (y0 : Int) (hy0 : -9223372036854775808 ≤ y0) (hy1 : y0 ≤ 9223372036854775807) (n0 : Int) (hn0 : -9223372036854775808 ≤ n0) (hn1 : n0 ≤ 9223372036854775807) {w : World} :
    Calls Try.prog 8 #[.int .i64 x0, .int .i64 y0, .int .i64 n0] w fun e w' => e = .returned (.bool true) ∧ Below w.heap.size w w' := by
  have W0 : Hid (∀ W, Calls Try.prog 14 #[] W fun e w' => e = .returned (.bool true) ∧ Below W.heap.size W w') := fun W => shares_any sS W
  have SS : Hid SShare := sS
  clear sS
  go_enter Try.func8, Try.ntmps8
  go_wp2_with fail
  refine (W0.out w).mono ?_
  rintro e w1 ⟨rfl, hb1⟩
  clear W0
  go_wp2_with fail
  refine (within_any n0 101 w1 hn0 hn1 (by omega) (by omega)).mono ?_
  rintro e w1' ⟨rfl, rfl⟩
  obtain ⟨h, hh⟩ : ∃ h : Nat, n0 % 101 = (h : Int) := ⟨(n0 % 101).toNat, by omega⟩
  have hh9 : h ≤ 100 := by omega
  rw [hh]
  clear hh hn0 hn1
  go_wp2_with fail
  refine (within_any x0 500 w1 hx0 hx1 (by omega) (by omega)).mono ?_
  rintro e w1' ⟨rfl, rfl⟩
  obtain ⟨d, hd⟩ : ∃ d : Int, x0 % 500 = d := ⟨_, rfl⟩
  have hd0 : 0 ≤ d ∧ d ≤ 499 := by omega
  rw [hd]
  clear hd hx0 hx1
  obtain ⟨X, hX⟩ : ∃ X : Int, 1 + d = X := ⟨_, rfl⟩
  have hX1 : 1 ≤ X ∧ X ≤ 500 := by omega
  go_wp2_with fail
  refine (within_any y0 500 w1 hy0 hy1 (by omega) (by omega)).mono ?_
  rintro e w1' ⟨rfl, rfl⟩
  obtain ⟨Y, hY⟩ : ∃ Y : Int, y0 % 500 = Y := ⟨_, rfl⟩
  have hY1 : 0 ≤ Y ∧ Y ≤ 499 := by omega
  rw [hY]
  clear hY hy0 hy1
  have HP := Lib.hid (two_ppl hX1 hY1)
  have HS := Lib.hid (two_same HP.out h)
  have r2 := Rd.lit w1 3 [X, Y] #[.int .i64 X, .int .i64 Y] rfl
  have b2 : Below w1.heap.size w1 (w1.alloc (.cells #[.int .i64 X, .int .i64 Y] 3)) := (Below.refl _ _).alloc (Nat.le_refl _) _
  have hb02 := ext_trans hb1 b2
  have r2' : Rd (w1.alloc (.cells #[.int .i64 X, .int .i64 Y] 3)) (w1.alloc (.cells #[.int .i64 X, .int .i64 Y] 3)).heap.size (some ⟨w1.heap.size, 0, none⟩) 2 [X, Y] := by simpa using r2
  clear r2 b2 hb1
  go_wp2_with fail
  clear hX
  generalize w1.alloc (.cells #[.int .i64 X, .int .i64 Y] 3) = w2 at *
  refine (share_use (n := 2) SS.out HP.out rfl (by omega) (by omega) hh9 _ 2 (by omega) w2 r2').mono ?_
  rintro e w3 ⟨a3, c3, rfl, r3, hb3⟩
  rw [HS.out] at r3
  have r23 := rd_ext r2' hb3
  clear r2'
  go_wp2_with fail
  refine (share_use (n := 2) SS.out HP.out rfl (by omega) (by omega) hh9 _ 2 (by omega) w3 r23).mono ?_
  rintro e w4 ⟨a4, c4, rfl, r4, hb4⟩
  have r34 := rd_ext r3 hb4
  have hb04 := ext_trans hb02 (ext_trans hb3 hb4)
  clear r3 hb3 hb4 hb02 r23
  go_wp2_with fail
  refine (good_zero w4.heap.size 0 2 2 _ (by omega) (zeros_at w4 23 2 #[.int .i64 0, .int .i64 0] rfl)).mono ?_
  rintro e w5 ⟨rfl, rfl⟩
  have b5 : Below w4.heap.size w4 (w4.alloc (.cells #[.int .i64 0, .int .i64 0] 23)) := (Below.refl _ _).alloc (Nat.le_refl _) _
  have hb05 := ext_trans hb04 b5
  have R3 := Lib.hid (rd_ext r34 b5)
  have R4 := Lib.hid (rd_ext r4 b5)
  clear b5 hb04 r34 r4
  generalize w4.alloc (.cells #[.int .i64 0, .int .i64 0] 23) = w5 at *
  have QE := Lib.hid (equal_any (sharesL 3 [X, Y] h) (sharesL 3 [X, Y] h) a3 a4 2 c3 2 c4 w5 w5.heap.size R3.out R4.out (by omega) (by omega))
  rw [show decide (sharesL 3 [X, Y] h = sharesL 3 [X, Y] h) = true from decide_eq_true rfl] at QE
  have QN : Hid (∀ W, Below w5.heap.size w5 W → Calls Try.prog 18 #[.slice a3 2 c3] W fun e w' => e = .returned (.int .i64 h) ∧ W = w') := fun W hW => sum_use HP.out rfl hh9 a3 c3 W (rd_ext R3.out hW)
  have hne : ((h : Int) == (h : Int)) = true := by simp
  clear R3 R4 HP HS
  go_wp2_with fail
  refine QE.out.mono ?_
  rintro e w6 ⟨rfl, k6, rfl⟩
  go_wp2_with fail
  refine (QN.out (w5.drewN k6) (below_drewN (Below.refl _ _) k6)).mono ?_
  rintro e w7 ⟨rfl, rfl⟩
  go_wp2
  go_ret
  exact ⟨rfl, below_drewN hb05 _⟩
end Go.Proofs.Ytedllchlhdjanaa
