/-
  plumekeep.tallies returns true, if package tally keeps its contracts.
-/
import Derived.Test.YtcjhgkmodfkmoaaTallyC
import Derived.Test.YtcjhgkmodfkmoaaCGood
import Derived.Test.YtcjhgkmodfkmoaaCEqual
namespace Go.Proofs.Ytcjhgkmodfkmoaa
open Go.RowKit Fm
set_option linter.unusedVariables false

/-- A literal of slices reads as what they hold. -/
theorem RdR.lit (w : World) (t : TypeId) (L : List (List Int)) (cs : Array Value) (hcs : cs.size = L.length) (h : ∀ j, j < L.length → ∃ a' c', cs[j]? = some (.slice a' (L.getD j []).length c') ∧ (L.getD j []).length ≤ c' ∧ (a' = none → c' = 0) ∧ c' ≤ maxLen ∧ Rd w w.heap.size a' (L.getD j []).length (L.getD j [])) :
    RdR (w.alloc (.cells cs t)) (w.heap.size + 1) (some ⟨w.heap.size, 0, none⟩) L.length L := by
  refine ⟨rfl, fun _ => ⟨w.heap.size, 0, rfl, by omega, fun j hj => ?_⟩⟩
  obtain ⟨a', c', h1, h2, h3, h4, h5⟩ := h j hj
  refine ⟨a', c', ?_, h2, h3, h4, (h5.alloc (Nat.le_refl _) _).more (by omega)⟩
  rw [Nat.zero_add, World.cell?_alloc_new]
  simpa using h1

def V0 : List (List Int) := [[0,1,2],[1,2,0],[1,0,2]]
theorem v0_ok : vchk 3 V0 = 0 := by decide
theorem v0_beats : Beats 3 V0 1 := by
  refine ⟨by omega, fun y hy hn => ?_⟩
  match y, hy, hn with
  | 0, _, _ => decide
  | 2, _, _ => decide
theorem v0_points : pointsL 3 V0 = [3, 5, 1] := by decide

theorem v0_rd (w : World) (t e : TypeId) : RdR ((((w.alloc (.cells #[.int .i64 0, .int .i64 1, .int .i64 2] t)).alloc (.cells #[.int .i64 1, .int .i64 2, .int .i64 0] t)).alloc (.cells #[.int .i64 1, .int .i64 0, .int .i64 2] t)).alloc
    (.cells #[.slice (some ⟨w.heap.size, 0, none⟩) 3 3, .slice (some ⟨w.heap.size + 1, 0, none⟩) 3 3, .slice (some ⟨w.heap.size + 1 + 1, 0, none⟩) 3 3] e)) (w.heap.size + 4) (some ⟨w.heap.size + 1 + 1 + 1, 0, none⟩) 3 V0 := by
  have r1 := Rd.lit w t [0, 1, 2] #[.int .i64 0, .int .i64 1, .int .i64 2] rfl
  have r2 := Rd.lit (w.alloc (.cells #[.int .i64 0, .int .i64 1, .int .i64 2] t)) t [1, 2, 0] #[.int .i64 1, .int .i64 2, .int .i64 0] rfl
  have r3 := Rd.lit ((w.alloc (.cells #[.int .i64 0, .int .i64 1, .int .i64 2] t)).alloc (.cells #[.int .i64 1, .int .i64 2, .int .i64 0] t)) t [1, 0, 2] #[.int .i64 1, .int .i64 0, .int .i64 2] rfl
  have r1 := (r1.alloc (by simp) (.cells #[.int .i64 1, .int .i64 2, .int .i64 0] t)).alloc (by simp) (.cells #[.int .i64 1, .int .i64 0, .int .i64 2] t)
  have r2 := r2.alloc (by simp) (.cells #[.int .i64 1, .int .i64 0, .int .i64 2] t)
  simp only [World.size_alloc] at r2 r3
  have h := RdR.lit (((w.alloc (.cells #[.int .i64 0, .int .i64 1, .int .i64 2] t)).alloc (.cells #[.int .i64 1, .int .i64 2, .int .i64 0] t)).alloc (.cells #[.int .i64 1, .int .i64 0, .int .i64 2] t)) e V0
    #[.slice (some ⟨w.heap.size, 0, none⟩) 3 3, .slice (some ⟨w.heap.size + 1, 0, none⟩) 3 3, .slice (some ⟨w.heap.size + 1 + 1, 0, none⟩) 3 3] rfl (fun j hj => by
      match j, hj with
      | 0, _ => exact ⟨_, 3, rfl, by decide, by simp, by decide, r1.more (by simp)⟩
      | 1, _ => exact ⟨_, 3, rfl, by decide, by simp, by decide, r2.more (by simp)⟩
      | 2, _ => exact ⟨_, 3, rfl, by decide, by simp, by decide, r3.more (by simp)⟩)
  simp only [World.size_alloc] at h
  exact h

set_option maxHeartbeats 4000000 in
set_option maxRecDepth 100000 in
theorem tallies_any (C : TallyC) (w : World) :
    Calls Try.prog 15 #[] w fun e w' => e = .returned (.bool true) ∧ Below w.heap.size w w' := by
  have HC := Lib.hid C
  have RV := Lib.hid (v0_rd w 3 22)
  clear C
  go_enter Try.func15, Try.ntmps15
  go_wp2_with fail
  obtain ⟨W, hW⟩ : ∃ W : World, W = ((((w.alloc (.cells #[.int .i64 0, .int .i64 1, .int .i64 2] 3)).alloc (.cells #[.int .i64 1, .int .i64 2, .int .i64 0] 3)).alloc (.cells #[.int .i64 1, .int .i64 0, .int .i64 2] 3)).alloc
    (.cells #[.slice (some ⟨w.heap.size, 0, none⟩) 3 3, .slice (some ⟨w.heap.size + 1, 0, none⟩) 3 3, .slice (some ⟨w.heap.size + 1 + 1, 0, none⟩) 3 3] 22)) := ⟨_, rfl⟩
  rw [← hW] at RV ⊢
  have zW : W.heap.size = w.heap.size + 4 := by rw [hW]; simp
  have hbW : Below w.heap.size w W := by
    rw [hW]
    exact ((((Below.refl _ _).alloc (by omega) _).alloc (by simp) _).alloc (by simp; omega) _).alloc (by simp; omega) _
  clear hW
  refine (HC.out.beaterY 3 _ 3 3 V0 W _ 1 (by omega) RV.out (by omega) v0_ok v0_beats).mono ?_
  rintro e w1 ⟨rfl, hb1⟩
  have z1 := hb1.size
  have hb01 := hbW.trans (hb1.mono (by omega))
  go_wp2_with fail
  refine (HC.out.points 3 _ 3 3 V0 w1 (w.heap.size + 4) (by omega) (RV.out.below hb1 (by omega)) (by omega) v0_ok).mono ?_
  rintro e w2 ⟨a2, c2, rfl, _, _, rP, hb2⟩
  rw [v0_points] at rP ⊢
  have z2 := hb2.size
  have hb02 := hb01.trans (hb2.mono (by omega))
  have RP := Lib.hid rP
  clear rP hb1 hb2 hb01 hbW RV HC
  go_wp2_with fail
  refine (good_zero w2.heap.size 0 2 2 _ (by omega) (zeros_at w2 24 2 #[.int .i64 0, .int .i64 0] rfl)).mono ?_
  rintro e w3 ⟨rfl, rfl⟩
  go_wp2_with fail
  have r3 := Rd.lit (w2.alloc (.cells #[.int .i64 0, .int .i64 0] 24)) 3 [3, 5, 1] #[.int .i64 3, .int .i64 5, .int .i64 1] rfl
  simp only [World.size_alloc] at r3
  refine (equal_any [3, 5, 1] [3, 5, 1] a2 (some ⟨w2.heap.size + 1, 0, none⟩) 3 c2 3 3 _ (w2.heap.size + 2) (((RP.out.alloc (Nat.le_refl _) _).alloc (by simp) _).more (by omega)) r3 (by omega) (by omega)).mono ?_
  rintro e w4 ⟨rfl, k4, rfl⟩
  go_wp2
  go_ret
  exact ⟨rfl, below_drewN ((hb02.alloc (by omega) _).alloc (by simp; omega) _) _⟩
end Go.Proofs.Ytcjhgkmodfkmoaa
