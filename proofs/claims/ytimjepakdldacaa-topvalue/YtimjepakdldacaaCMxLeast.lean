/-
  mixed.least: the least that a column gives, in lowest terms; nothing that was there is written.
-/
import Derived.Test.YtimjepakdldacaaCMxExp
import Derived.Test.YtimjepakdldacaaCMxLow
import Derived.Test.YtimjepakdldacaaBox2
import Derived.BigQuiet
import Derived.Deep.QuietTactic
namespace Go.Proofs.Ytimjepakdldacaa
open Go.RowKit Fm
set_option linter.unusedVariables false

theorem mval_bd {M : List (List Int)} {k : Nat} (p : Pay 2 k M) {P Q : Int} (h0 : 0 ≤ P) (h1 : P ≤ Q) (y : Nat) : -1000 * Q ≤ mval M P Q y ∧ mval M P Q y ≤ 1000 * Q := by
  have e0 := p.ent 0 y
  have e1 := p.ent 1 y
  have a1 := Int.mul_le_mul_of_nonneg_right e0.1 h0
  have a2 := Int.mul_le_mul_of_nonneg_right e0.2 h0
  have a3 := Int.mul_le_mul_of_nonneg_right e1.1 (show 0 ≤ Q - P by omega)
  have a4 := Int.mul_le_mul_of_nonneg_right e1.2 (show 0 ≤ Q - P by omega)
  unfold mval
  omega
theorem lvOf_eq {M : List (List Int)} {k : Nat} (hk : 1 ≤ k) {P Q L : Int} (h1 : ∃ z, z < k ∧ mval M P Q z = L) (h2 : ∀ z, z < k → L ≤ mval M P Q z) : lvOf M k P Q = L := by
  obtain ⟨z, hz, e⟩ := h1
  obtain ⟨y, hy, e2⟩ := lv_at (M := M) hk P Q
  have a := lv_le (M := M) P Q hz
  have b := h2 y hy
  omega
/-- The boxes of mixed.least. -/
structure BxL (gx gf gs b0 o0 b1 o1 k c0 c1 : Nat) (P Q : Int) (M : List (List Int)) (w : World) : Prop where
  x0 : w.cell? ⟨gx, 0, none⟩ = some (.int .i64 P)
  x1 : w.cell? ⟨gx, 1, none⟩ = some (.int .i64 Q)
  xf : w.cell? ⟨gf, 0, none⟩ = some (.slice (some ⟨b0, o0, none⟩) k c0)
  xs : w.cell? ⟨gs, 0, none⟩ = some (.slice (some ⟨b1, o1, none⟩) k c1)
  y0 : ∀ y, y < k → w.cell? ⟨b0, o0 + y, none⟩ = some (.int .i64 (ent M 0 y))
  y1 : ∀ y, y < k → w.cell? ⟨b1, o1 + y, none⟩ = some (.int .i64 (ent M 1 y))
theorem BxL.drewN {gx gf gs b0 o0 b1 o1 k c0 c1 : Nat} {P Q : Int} {M : List (List Int)} {w : World} (h : BxL gx gf gs b0 o0 b1 o1 k c0 c1 P Q M w) (n : Nat) : BxL gx gf gs b0 o0 b1 o1 k c0 c1 P Q M (w.drewN n) :=
  ⟨h.x0, h.x1, h.xf, h.xs, h.y0, h.y1⟩

set_option maxHeartbeats 4000000 in
set_option maxRecDepth 100000 in
theorem mleast_any {M : List (List Int)} {k : Nat} (p : Pay 2 k M) {P Q : Int} (h0 : 0 ≤ P) (h1 : P ≤ Q) (hq : 1 ≤ Q) (hQ : Q ≤ 4000) {b0 o0 b1 o1 c0 c1 : Nat} (w : World) (hb0 : b0 < w.heap.size) (hb1 : b1 < w.heap.size)
    (hc0 : ∀ y, y < k → w.cell? ⟨b0, o0 + y, none⟩ = some (.int .i64 (ent M 0 y))) (hc1 : ∀ y, y < k → w.cell? ⟨b1, o1 + y, none⟩ = some (.int .i64 (ent M 1 y))) :
    Calls Try.prog 43 #[.slice (some ⟨b0, o0, none⟩) k c0, .slice (some ⟨b1, o1, none⟩) k c1, .agg #[.int .i64 P, .int .i64 Q]] w (LowOut (lvOf M k P Q) Q w) := by
  have k1 := p.k1
  have k6 := p.k6
  obtain ⟨B, hB⟩ : ∃ B, B = w.heap.size := ⟨_, rfl⟩
  obtain ⟨wA, hA⟩ : ∃ wA, wA = w.alloc (.cells #[.slice (some ⟨b0, o0, none⟩) k c0] 27) := ⟨_, rfl⟩
  obtain ⟨wB, hBB⟩ : ∃ wB, wB = wA.alloc (.cells #[.slice (some ⟨b1, o1, none⟩) k c1] 27) := ⟨_, rfl⟩
  obtain ⟨wC, hC⟩ : ∃ wC, wC = wB.alloc (.cells #[.int .i64 P, .int .i64 Q] 45) := ⟨_, rfl⟩
  obtain ⟨wD, hD⟩ : ∃ wD, wD = wC.alloc (.cells #[.int .i64 0, .int .i64 0] 45) := ⟨_, rfl⟩
  have sA : wA.heap.size = B + 1 := by rw [hA, hB]; simp
  have sB : wB.heap.size = B + 2 := by rw [hBB]; simp [sA]
  have sC : wC.heap.size = B + 3 := by rw [hC]; simp [sB]
  have sD : wD.heap.size = B + 4 := by rw [hD]; simp [sC]
  have lA : Below B w wA := by rw [hA]; exact (Below.refl _ _).alloc (by omega) _
  have lAD : Below wA.heap.size wA wD := by rw [hD, hC, hBB]; exact (((Below.refl _ _).alloc (Nat.le_refl _) _).alloc (by simp) _).alloc (by simp; omega) _
  have lBD : Below wB.heap.size wB wD := by rw [hD, hC]; exact ((Below.refl _ _).alloc (Nat.le_refl _) _).alloc (by simp) _
  have lCD : Below wC.heap.size wC wD := by rw [hD]; exact (Below.refl _ _).alloc (Nat.le_refl _) _
  have lD : Below B w wD := lA.trans (lAD.mono (by omega))
  have bx : BxL (B + 2) B (B + 1) b0 o0 b1 o1 k c0 c1 P Q M wD := by
    refine ⟨?_, ?_, ?_, ?_, fun y hy => (lD.cell (p := ⟨b0, o0 + y, none⟩) (by show b0 < B; omega)).trans (hc0 y hy), fun y hy => (lD.cell (p := ⟨b1, o1 + y, none⟩) (by show b1 < B; omega)).trans (hc1 y hy)⟩
    · refine (lCD.cell (p := ⟨B + 2, 0, none⟩) (by show B + 2 < _; omega)).trans ?_
      rw [hC, ← sB, World.cell?_alloc_new]; rfl
    · refine (lCD.cell (p := ⟨B + 2, 1, none⟩) (by show B + 2 < _; omega)).trans ?_
      rw [hC, ← sB, World.cell?_alloc_new]; rfl
    · refine (lAD.cell (p := ⟨B, 0, none⟩) (by show B < _; omega)).trans ?_
      rw [hA, hB, World.cell?_alloc_new]; rfl
    · refine (lBD.cell (p := ⟨B + 1, 0, none⟩) (by show B + 1 < _; omega)).trans ?_
      rw [hBB, ← sA, World.cell?_alloc_new]; rfl
  have q0 : wD.cell? ⟨B + 3, 0, none⟩ = some (.int .i64 0) := by rw [hD, ← sC, World.cell?_alloc_new]; rfl
  have q1 : wD.cell? ⟨B + 3, 1, none⟩ = some (.int .i64 0) := by rw [hD, ← sC, World.cell?_alloc_new]; rfl
  have fz : ∀ t, wD.frozen? ⟨B + 3, t, none⟩ = false := fun t => by rw [hD]; exact World.frozen?_alloc_at _ _ _ _ (by show B + 3 = _; omega)
  have HBX := Lib.hid bx
  have HLD := Lib.hid lD
  have HQ0 : Hid (wD.cell? ⟨B + 3, 0, none⟩ = some (.int .i64 0)) := q0
  have HQ1 : Hid (wD.cell? ⟨B + 3, 1, none⟩ = some (.int .i64 0)) := q1
  have HFZ := Lib.hid fz
  have HP := Lib.hid p
  have HEB : Hid (∀ e y, -1000 ≤ ent M e y ∧ ent M e y ≤ 1000) := fun e y => p.ent e y
  have HMB : Hid (∀ y, -4000000 ≤ mval M P Q y ∧ mval M P Q y ≤ 4000000) := fun y => by have := mval_bd p h0 h1 y; omega
  have HCALL : Hid (∀ (y m : Nat) (V : Int), y < k → V = mval M P Q y → Calls Try.prog 59 #[.int .i64 y, .pointer (some ⟨B + 2, 0, none⟩), .pointer (some ⟨B, 0, none⟩), .pointer (some ⟨B + 1, 0, none⟩)] (wD.drewN m) fun e w' => e = .returned (.int .i64 V) ∧ ∃ m', w' = (wD.drewN m).drewN m') := fun y m V hy hV =>
    mexp_any _ h0 h1 hQ (p.ent 0 y) (p.ent 1 y) hy (bx.drewN m).x0 (bx.drewN m).x1 (bx.drewN m).xf (bx.drewN m).xs ((bx.drewN m).y0 y hy) ((bx.drewN m).y1 y hy) hV
  have HSD := Lib.hid sD
  obtain ⟨v0, hv0⟩ : ∃ v0, mval M P Q 0 = v0 := ⟨_, rfl⟩
  have HV0 := Lib.hid hv0
  have hvb := HMB.out 0
  rw [hv0] at hvb
  obtain ⟨hvb1, hvb2⟩ := hvb
  have x0 := bx.xf
  have x1 := bx.x1
  clear bx lD q0 q1 fz lA lAD lBD lCD sD p hc0 hc1 hv0 hb0 hb1
  have HC0 : Hid (Calls Try.prog 59 #[.int .i64 0, .pointer (some ⟨B + 2, 0, none⟩), .pointer (some ⟨B, 0, none⟩), .pointer (some ⟨B + 1, 0, none⟩)] wD fun e w' => e = .returned (.int .i64 v0) ∧ ∃ m', w' = wD.drewN m') := HCALL.out 0 0 v0 (by omega) HV0.out.symm
  go_enter Try.func43, Try.ntmps43
  go_wp2_with fail
  rw [← hA, ← hBB, ← hC, ← hD, show w.heap.size + 1 + 1 + 1 = B + 3 by omega, show w.heap.size + 1 + 1 = B + 2 by omega, show w.heap.size + 1 = B + 1 by omega, show w.heap.size = B by omega]
  have HB := Lib.hid hB
  clear hA hBB hC hD hB sA sB sC
  with_reducible refine HC0.out.mono ?_
  rintro e w' ⟨rfl, m0, rfl⟩
  clear HC0
  go_wp2_with fail
  go_loopw [8, 15] (fun lv cv wr => ∃ (y m : Nat) (L : Int), y ≤ k ∧ lv = .int .i64 L ∧ cv = .int .i64 y ∧ -4000000 ≤ L ∧ L ≤ 4000000 ∧ Hid (∃ z, z < k ∧ mval M P Q z = L) ∧ Hid (∀ z, z < y → L ≤ mval M P Q z) ∧ Hid (wr = wD.drewN m)) (fun _ cv _ => k - (intOf cv).toNat)
  case atStart => exact ⟨0, m0, v0, Nat.zero_le _, rfl, rfl, hvb1, hvb2, (show Hid _ from ⟨0, by omega, HV0.out⟩), (show Hid _ from fun z hz => by omega), rfl⟩
  case round =>
    obtain ⟨y, m, L, hy, rfl, rfl, l1, l2, HX, HL, HWR⟩ := hrel
    by_cases hyk : y < k
    · have d1 : decide ((y : Int) < (k : Int)) = true := decide_eq_true (by omega)
      obtain ⟨v, hv⟩ : ∃ v, mval M P Q y = v := ⟨_, rfl⟩
      have b1 := HMB.out y
      rw [hv] at b1
      obtain ⟨b1, b2⟩ := b1
      have HV := Lib.hid hv
      have HC : Hid (Calls Try.prog 59 #[.int .i64 y, .pointer (some ⟨B + 2, 0, none⟩), .pointer (some ⟨B, 0, none⟩), .pointer (some ⟨B + 1, 0, none⟩)] wr fun e w' => e = .returned (.int .i64 v) ∧ ∃ m', w' = wr.drewN m') := by
        rw [HWR.out]; exact HCALL.out y m v hyk hv.symm
      obtain ⟨L', hL1, hL2, hL3, hL4⟩ : ∃ L', min L v = L' ∧ (if v < L then v else L) = L' ∧ (if L ≤ v then L else v) = L' ∧ (L' = L ∨ L' = v) := ⟨min L v, rfl, by omega, by omega, by omega⟩
      have HL4 := Lib.hid hL4
      have hb3 : -4000000 ≤ L' := by omega
      have hb4 : L' ≤ 4000000 := by omega
      have hle1 : L' ≤ L := by omega
      have hle2 : L' ≤ v := by omega
      clear hv hL4
      go_wp2_with fail
      refine HC.out.mono ?_
      rintro e w' ⟨rfl, m', rfl⟩
      clear HC
      go_wp2
      go_roundw
      case rel =>
        refine ⟨y + 1, m + m', L', by omega, rfl, by go_num, hb3, hb4, ?_, ?_, ?_⟩
        · rcases HL4.out with e | e
          · rw [e]; exact HX
          · exact (show Hid _ from ⟨y, hyk, by rw [HV.out, e]⟩)
        · exact (show Hid _ from fun z hz => by
            by_cases q : z = y
            · rw [q, HV.out]; exact hle2
            · have := HL.out z (by omega)
              omega)
        · show _ = _
          rw [HWR.out, World.drewN_drewN]
      case measure => simp [intOf]; omega
    · obtain rfl : y = k := by omega
      have HE : Hid (lvOf M y P Q = L) := lvOf_eq k1 HX.out HL.out
      have t1 : wr.cell? ⟨B + 2, 1, none⟩ = some (.int .i64 Q) := by rw [HWR.out]; exact x1
      have hbel : Below B w wr := by rw [HWR.out]; exact below_drewN HLD.out m
      have hsz : wr.heap.size = B + 4 := by rw [HWR.out]; exact HSD.out
      have r0 : wr.cell? ⟨B + 3, 0, none⟩ = some (.int .i64 0) := by rw [HWR.out]; exact HQ0.out
      have r1 : wr.cell? ⟨B + 3, 1, none⟩ = some (.int .i64 0) := by rw [HWR.out]; exact HQ1.out
      have rf : ∀ t, wr.frozen? ⟨B + 3, t, none⟩ = false := by rw [HWR.out]; exact HFZ.out
      have HLOW := Lib.hid (mlow_any L Q hq hQ l1 l2 wr)
      have HBEL := Lib.hid hbel
      have HSZ := Lib.hid hsz
      have HR0 : Hid (wr.cell? ⟨B + 3, 0, none⟩ = some (.int .i64 0)) := r0
      have HR1 : Hid (wr.cell? ⟨B + 3, 1, none⟩ = some (.int .i64 0)) := r1
      have HRF := Lib.hid rf
      clear hbel hsz r0 r1 rf x0 x1
      go_wp2_with fail
      refine HLOW.out.mono ?_
      rintro e w' ⟨P', Q', g, hg, e1, e2, e3, rfl, hb⟩
      have HE1 := Lib.hid (show 1 ≤ g ∧ L = P' * g ∧ Q = Q' * g ∧ Int.gcd P' Q' = 1 from ⟨hg, e1, e2, e3⟩)
      have hz := HSZ.out
      have r0 := (hb.cell (p := ⟨B + 3, 0, none⟩) (by show B + 3 < _; omega)).trans HR0.out
      have r1 := (hb.cell (p := ⟨B + 3, 1, none⟩) (by show B + 3 < _; omega)).trans HR1.out
      have f0 := (hb.frozen (p := ⟨B + 3, 0, none⟩) (by show B + 3 < _; omega)).trans (HRF.out 0)
      have f1 := (hb.frozen (p := ⟨B + 3, 1, none⟩) (by show B + 3 < _; omega)).trans (HRF.out 1)
      have HB2 := Lib.hid (HBEL.out.trans (hb.mono (by omega)))
      have HST := Lib.hid (stored2 (P := .int .i64 P') (Q := .int .i64 Q') r0 r1 f0 f1)
      clear hb hz e1 e2 e3
      go_wp2_with fail
      obtain ⟨s1, s2, _⟩ := HST.out
      refine bodyPost_ret (v := .agg #[.int .i64 P', .int .i64 Q']) (by simp [results, Try.results43, go_sem, s1, s2]) rfl ?_
      obtain ⟨x1, x2, x3, x4⟩ := HE1.out
      refine ⟨P', Q', g, x1, by rw [HE.out]; exact x2, x3, x4, rfl, ?_⟩
      rw [← HB.out]
      exact (HB2.out.setCell (p := ⟨B + 3, 0, none⟩) (by show B ≤ B + 3; omega) _).setCell (p := ⟨B + 3, 1, none⟩) (by show B ≤ B + 3; omega) _
end Go.Proofs.Ytimjepakdldacaa
