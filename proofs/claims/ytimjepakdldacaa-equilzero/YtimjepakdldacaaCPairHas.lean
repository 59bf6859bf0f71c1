/-
  slices.Contains at [][2]int: whether the pair is there; nothing that was there is written.
-/
import Derived.Test.YtimjepakdldacaaPairEq
import Derived.BigQuiet
import Derived.Deep.QuietTactic
namespace Go.Proofs.Ytimjepakdldacaa
open Go.RowKit Fm
set_option linter.unusedVariables false

def Ix2 (p : List P2) (x : P2) (w : World) (e : Ending) (w' : World) : Prop := ∃ r : Int, e = .returned (.int .i64 r) ∧ (r = -1 ∧ x ∉ p ∨ 0 ≤ r ∧ r ≤ 1000000 ∧ x ∈ p) ∧ Below w.heap.size w w'
set_option maxHeartbeats 1000000 in
set_option maxRecDepth 100000 in
theorem index2_any (p : List P2) (a : Option Addr) (n c : Nat) (x1 x2 : Int) (w : World) (hp : Rd2 w w.heap.size a n p) (hn : n ≤ 1000000) :
    Calls Try.prog 41 #[.slice a n c, .agg #[.int .i64 x1, .int .i64 x2]] w (Ix2 p (x1, x2) w) := by
  have HP := Lib.hid hp
  have lp := hp.1
  have HLP := Lib.hid lp
  have hgd := pairGuard
  have hb0 : Below w.heap.size w (w.alloc (.cells #[.int .i64 x1, .int .i64 x2] 34)) := (Below.refl _ w).alloc (Nat.le_refl _) _
  have k0 : (w.alloc (.cells #[.int .i64 x1, .int .i64 x2] 34)).cell? ⟨w.heap.size, 0, none⟩ = some (.int .i64 x1) := by simp [World.cell?_alloc_new]
  have k1 : (w.alloc (.cells #[.int .i64 x1, .int .i64 x2] 34)).cell? ⟨w.heap.size, 1, none⟩ = some (.int .i64 x2) := by simp [World.cell?_alloc_new]
  clear hp lp
  go_enter Try.func41, Try.ntmps41
  go_wp2_with fail
  generalize w.alloc (.cells #[.int .i64 x1, .int .i64 x2] 34) = w1 at *
  obtain ⟨g, hg⟩ : ∃ g, g = w.heap.size := ⟨_, rfl⟩
  rw [← hg] at k0 k1 ⊢
  have HB0 := Lib.hid hb0
  clear hg hb0
  go_loopw [8] (fun iv wr => ∃ i d : Nat, i ≤ n ∧ iv = .int .i64 i ∧ (∀ j, j < i → p.getD j (0, 0) ≠ (x1, x2)) ∧ Hid (wr = w1.drewN d)) (fun iv _ => n - (intOf iv).toNat)
  case atStart => exact ⟨0, 0, Nat.zero_le _, rfl, (fun j hj => by omega), (show Hid _ from by show _ = _; rfl)⟩
  case round =>
    obtain ⟨i, d, hi, rfl, hall, HWR⟩ := hrel
    have HALL := Lib.hid hall
    clear hall
    by_cases hin : i < n
    · obtain ⟨b, o, rfl, hb, hc1, hc2⟩ := HP.out.at_ hin
      have r1 : wr.cell? ⟨b, o + i * 2, none⟩ = some (.int .i64 (p.getD i (0, 0)).1) := by rw [HWR.out]; exact (HB0.out.cell (by exact hb)).trans hc1
      have r2 : wr.cell? ⟨b, o + i * 2 + 1, none⟩ = some (.int .i64 (p.getD i (0, 0)).2) := by rw [HWR.out]; exact (HB0.out.cell (by exact hb)).trans hc2
      have r3 : wr.cell? ⟨g, 0, none⟩ = some (.int .i64 x1) := by rw [HWR.out]; exact k0
      have r4 : wr.cell? ⟨g, 1, none⟩ = some (.int .i64 x2) := by rw [HWR.out]; exact k1
      clear hc1 hc2
      have HEQ : Hid (p.getD i (0, 0) ≠ (x1, x2) → ∀ j, j < i + 1 → p.getD j (0, 0) ≠ (x1, x2)) := fun h j hj => by
        by_cases e : j = i
        · subst e; exact h
        · exact HALL.out j (by omega)
      have HME : Hid (p.getD i (0, 0) = (x1, x2) → (x1, x2) ∈ p) := fun h => by
        rw [← h, List.getD_eq_getElem?_getD, List.getElem?_eq_getElem (by rw [HLP.out]; exact hin)]
        exact List.getElem_mem _
      generalize p.getD i (0, 0) = y at *
      obtain ⟨y1, y2⟩ := y
      dsimp only at r1 r2
      by_cases e : (y1, y2) = (x1, x2)
      · have HX := Lib.hid (HME.out e)
        injection e with e1 e2
        subst e1; subst e2
        have hpi : ∀ w, (Op.equalIn 10000 34 (.agg #[.int .i64 y1, .int .i64 y2]) (.agg #[.int .i64 y1, .int .i64 y2])).run Try.prog w = .ok true w := fun w => by rw [pairIn]; simp
        clear HEQ HME HALL
        go_wp2_with fail
        go_quiet (fail)
        go_wp2
        go_ret
        refine ⟨i, rfl, .inr ⟨by omega, by omega, HX.out⟩, ?_⟩
        rw [HWR.out, World.drewN_drewN]
        exact below_drewN HB0.out _
      · have hne : (x1 == y1 && x2 == y2) = false := by
          by_cases h1 : x1 = y1
          · by_cases h2 : x2 = y2
            · exact absurd (by rw [h1, h2]) e
            · simp [h2]
          · simp [h1]
        have hpi : ∀ w, (Op.equalIn 10000 34 (.agg #[.int .i64 x1, .int .i64 x2]) (.agg #[.int .i64 y1, .int .i64 y2])).run Try.prog w = .ok false w := fun w => by rw [pairIn, hne]
        have HX := Lib.hid (HEQ.out e)
        clear HEQ HME HALL e hne
        go_wp2_with fail
        go_quiet (fail)
        go_wp2
        go_roundw
        case rel => exact ⟨i + 1, d + nq, by omega, by go_num, HX.out, (show Hid _ from by show _ = _; rw [HWR.out, World.drewN_drewN])⟩
        case measure => simp [intOf]; omega
    · obtain rfl : i = n := by omega
      have HX : Hid ((x1, x2) ∉ p) := fun h => by
        obtain ⟨j, hj, e⟩ := List.getElem_of_mem h
        rw [HLP.out] at hj
        refine HALL.out j hj ?_
        rw [List.getD_eq_getElem?_getD, List.getElem?_eq_getElem (by rw [HLP.out]; exact hj)]
        exact e
      go_wp2
      go_ret
      refine ⟨-1, rfl, .inl ⟨rfl, HX.out⟩, ?_⟩
      rw [HWR.out]
      exact below_drewN HB0.out _

set_option maxHeartbeats 1000000 in
set_option maxRecDepth 100000 in
theorem has2_any (p : List P2) (a : Option Addr) (n c : Nat) (x1 x2 : Int) (w : World) (hp : Rd2 w w.heap.size a n p) (hn : n ≤ 1000000) :
    Calls Try.prog 22 #[.slice a n c, .agg #[.int .i64 x1, .int .i64 x2]] w fun e w' => e = .returned (.bool (decide ((x1, x2) ∈ p))) ∧ Below w.heap.size w w' := by
  obtain ⟨res, hres⟩ : ∃ res, decide ((x1, x2) ∈ p) = res := ⟨_, rfl⟩
  rw [hres]
  have HRES := Lib.hid hres
  have hb0 : Below w.heap.size w (w.alloc (.cells #[.int .i64 x1, .int .i64 x2] 34)) := (Below.refl _ w).alloc (Nat.le_refl _) _
  have k0 : (w.alloc (.cells #[.int .i64 x1, .int .i64 x2] 34)).cell? ⟨w.heap.size, 0, none⟩ = some (.int .i64 x1) := by simp [World.cell?_alloc_new]
  have k1 : (w.alloc (.cells #[.int .i64 x1, .int .i64 x2] 34)).cell? ⟨w.heap.size, 1, none⟩ = some (.int .i64 x2) := by simp [World.cell?_alloc_new]
  have QI := Lib.hid (index2_any p a n c x1 x2 _ (rd2_ext hp hb0) hn)
  clear hp hres
  go_enter Try.func22, Try.ntmps22
  go_wp2_with fail
  refine QI.out.mono ?_
  rintro e w' ⟨r, rfl, hr, hb⟩
  have hbb := ext_trans hb0 hb
  rcases hr with ⟨rfl, hx⟩ | ⟨h0, h1, hx⟩
  · have HX : Hid (res = false) := by show _ = _; rw [← HRES.out]; exact decide_eq_false hx
    go_wp2
    go_ret
    exact ⟨by rw [HX.out]; rfl, hbb⟩
  · have HX : Hid (res = true) := by show _ = _; rw [← HRES.out]; exact decide_eq_true hx
    clear hx
    go_wp2
    go_ret
    exact ⟨by rw [HX.out]; rfl, hbb⟩
end Go.Proofs.Ytimjepakdldacaa
