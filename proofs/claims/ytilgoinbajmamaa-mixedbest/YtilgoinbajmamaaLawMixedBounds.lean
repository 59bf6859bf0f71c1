/-
  plumekeep.MixedBounds returns true, for every slice of slices of ints, if mixed.Solve, saddle.Bounds and saddle.Points keep their contracts; nothing that was there is written.
-/
import Derived.Test.YtilgoinbajmamaaCMixes
import Derived.Test.YtilgoinbajmamaaMixIn
import Derived.Test.YtilgoinbajmamaaCSaddles
namespace Go.Proofs.Ytilgoinbajmamaa
open Go.RowKit Fm
set_option linter.unusedVariables false

set_option maxHeartbeats 4000000 in
set_option maxRecDepth 100000 in
theorem mixedBounds_is (mE : MSolveE) (mS : MSolve) (sBE : SBoundsE) (sB : SBounds) (sP : SPoints) (v : Value) (L : List (List Int)) {w : World} (f : IsRows w v L) :
    Calls Try.prog 6 #[v] w fun e w' => e = .returned (.bool true) ∧ Below w.heap.size w w' := by
  obtain ⟨a, c, rfl, hr, hall, hlc, _, hcm, h24⟩ := f
  have W0 := Lib.hid (mixes_any mS w)
  have W1 : Hid (∀ W, Calls Try.prog 15 #[] W fun e w' => e = .returned (.bool true) ∧ Below W.heap.size W w') := fun W => saddles_any sB sP W
  have Q2 : Hid (∀ W, Below w.heap.size w W → Calls Try.prog 12 #[.slice a L.length c] W fun e w' => e = .returned (.slice a (min L.length 2) c) ∧ W = w') := fun W hW => two_any a L.length c L W (rdr_ext hr hW) (by omega) hlc (by unfold maxLen at hcm; omega)
  have HT := Lib.hid (cut_in hr h24 hall).2
  have hgd := ratioGuard
  have h00 : ∀ w, (Op.equalIn 10000 24 (.agg #[.int .i64 0, .int .i64 0]) (.agg #[.int .i64 0, .int .i64 0])).run Try.prog w = .ok true w := fun w => by rw [ratioIn]; rfl
  clear hr hall h24
  generalize L.take (min L.length 2) = M at *
  generalize min L.length 2 = n at *
  go_enter Try.func6, Try.ntmps6
  go_wp2_with fail
  refine W0.out.mono ?_
  rintro e w1 ⟨rfl, hb1⟩
  clear W0
  go_wp2_with fail
  refine (W1.out w1).mono ?_
  rintro e w2 ⟨rfl, hb2⟩
  have hb02 := ext_trans hb1 hb2
  clear W1 hb1 hb2
  go_wp2_with fail
  refine (Q2.out w2 hb02).mono ?_
  rintro e w2' ⟨rfl, rfl⟩
  clear Q2
  by_cases h0 : mxchk M = 0
  · obtain ⟨_, p⟩ := mxchk_ok h0
    obtain ⟨k, hk⟩ : ∃ k, (M.getD 0 []).length = k := ⟨_, rfl⟩
    rw [hk] at p
    have QS := Lib.hid (mS k a n c M w2 (HT.out.below hb02) p)
    have QB : Hid (∀ W, Below w.heap.size w W → Calls Try.prog 16 #[.slice a n c] W fun e w' => e = .returned (.tuple #[.int .i64 (loB M), .int .i64 (hiB k M), .int .i64 0]) ∧ Below W.heap.size W w') := fun W hW => sB 2 k a n c M W (HT.out.below hW) p
    clear h0 hk mE mS sBE sB sP
    go_wp2_with fail
    refine QS.out.mono ?_
    rintro e w3 ⟨P, Q, V, W, hs, rfl, hb3⟩
    have hb03 := ext_trans hb02 hb3
    obtain ⟨u1, u2, u3, u4, hsz, hbx⟩ := boxes2 w3 24 P Q V W
    have hb04 := ext_trans hb03 hbx
    have l1 := sol_lo hs p
    have l2 := sol_hi hs p
    have l3 := lo_bd p
    have l4 := hi_bd p
    have l5 := sol_bd hs p
    have w1' := hs.w1
    have wb' := hs.wb
    clear QS hb3 hb03 hbx hs p u1 u2 hb02
    generalize loB M = lo at *
    generalize hiB k M = hi at *
    obtain ⟨X, hX⟩ : ∃ X, lo * W = X := ⟨_, rfl⟩
    obtain ⟨Y, hY⟩ : ∃ Y, hi * W = Y := ⟨_, rfl⟩
    have bX : -4000000 ≤ X ∧ X ≤ 4000000 := by
      have h5 : -1000 * W ≤ lo * W := Int.mul_le_mul_of_nonneg_right l3.1 (by omega)
      have h6 : lo * W ≤ 1000 * W := Int.mul_le_mul_of_nonneg_right l3.2 (by omega)
      omega
    have bY : -4000000 ≤ Y ∧ Y ≤ 4000000 := by
      have h5 : -1000 * W ≤ hi * W := Int.mul_le_mul_of_nonneg_right l4.1 (by omega)
      have h6 : hi * W ≤ 1000 * W := Int.mul_le_mul_of_nonneg_right l4.2 (by omega)
      omega
    rw [hX] at l1
    rw [hY] at l2
    go_wp2_with fail
    generalize (w3.alloc (.cells #[.int .i64 P, .int .i64 Q] 24)).alloc (.cells #[.int .i64 V, .int .i64 W] 24) = w4 at *
    refine (QB.out w4 hb04).mono ?_
    rintro e w5 ⟨rfl, hb5⟩
    have hb05 := ext_trans hb04 hb5
    have u3' := (hb5.cell (p := ⟨w3.heap.size + 1, 0, none⟩) hsz).trans u3
    have u4' := (hb5.cell (p := ⟨w3.heap.size + 1, 1, none⟩) hsz).trans u4
    clear u3 u4 hb5 QB hb04 hsz HT
    generalize w3.heap.size = g at *
    have d1 : decide (X ≤ V) = true := decide_eq_true l1
    have d2 : decide (V ≤ Y) = true := decide_eq_true l2
    by_cases hlh : lo = hi
    · subst hlh
      have hXY : X = Y := by rw [← hX, hY]
      subst hXY
      have hVX : V = X := by omega
      subst hVX
      have d3 : (lo != lo) = false := by simp
      have d4 : (V == V) = true := by simp
      go_wp2
      go_ret
      exact ⟨by first | rfl | simp, hb05⟩
    · have d3 : (lo != hi) = true := by rw [bne_iff_ne]; exact hlh
      clear hlh
      go_wp2
      go_ret
      exact ⟨by first | rfl | simp, hb05⟩
  · have QS := Lib.hid (mE a n c M w2 (HT.out.below hb02) h0)
    have hne : (mxchk M != 0) = true := by simpa using h0
    have QB : Hid (∀ W, Below w.heap.size w W → Calls Try.prog 16 #[.slice a n c] W fun e w' => ∃ x y z : Int, e = .returned (.tuple #[.int .i64 x, .int .i64 y, .int .i64 z]) ∧ Below W.heap.size W w') := fun W hW => by
      by_cases hp : pchk M = 0
      · have p := pchk_ok hp
        exact (sB _ _ a n c M W (HT.out.below hW) p).mono fun e w' ⟨h1, h2⟩ => ⟨_, _, _, h1, h2⟩
      · exact (sBE a n c M W (HT.out.below hW) hp).mono fun e w' ⟨h1, h2⟩ => ⟨_, _, _, h1, h2⟩
    clear h0 mE mS sBE sB sP
    generalize mxchk M = r at *
    go_wp2_with fail
    refine QS.out.mono ?_
    rintro e w3 ⟨rfl, hb3⟩
    have hb03 := ext_trans hb02 hb3
    obtain ⟨u1, u2, u3, u4, hsz, hbx⟩ := boxes2 w3 24 0 0 0 0
    have hb04 := ext_trans hb03 hbx
    clear QS hb3 hb03 hbx u1 u2 hb02
    go_wp2_with fail
    generalize (w3.alloc (.cells #[.int .i64 0, .int .i64 0] 24)).alloc (.cells #[.int .i64 0, .int .i64 0] 24) = w4 at *
    refine (QB.out w4 hb04).mono ?_
    rintro e w5 ⟨x, y, z, rfl, hb5⟩
    have hb05 := ext_trans hb04 hb5
    have u3' := (hb5.cell (p := ⟨w3.heap.size + 1, 0, none⟩) hsz).trans u3
    have u4' := (hb5.cell (p := ⟨w3.heap.size + 1, 1, none⟩) hsz).trans u4
    clear u3 u4 hb5 QB hb04 hsz HT
    generalize w3.heap.size = g at *
    go_wp2
    go_ret
    exact ⟨by first | rfl | simp, hb05⟩
end Go.Proofs.Ytilgoinbajmamaa
