/-
  mixed.Solve: its errors, and what it answers; nothing that was there is written.
-/
import Derived.Test.YtimjepakdldacaaCMxCorn
import Derived.Test.YtimjepakdldacaaCSaCheck
import Derived.Test.YtimjepakdldacaaSqPay
import Derived.BigRegion
import Derived.RegionTactic
import Derived.Deep.RegionHeld3
import Derived.Deep.DeepCutAuto
namespace Go.Proofs.Ytimjepakdldacaa
open Go.RowKit Fm
set_option linter.unusedVariables false

/-- The boxes of the two results. -/
structure RBx (w : World) (gA gB : Nat) (W : World) : Prop where
  a0 : ∃ x, W.cell? ⟨gA, 0, none⟩ = some (.int .i64 x)
  a1 : ∃ x, W.cell? ⟨gA, 1, none⟩ = some (.int .i64 x)
  b0 : ∃ x, W.cell? ⟨gB, 0, none⟩ = some (.int .i64 x)
  b1 : ∃ x, W.cell? ⟨gB, 1, none⟩ = some (.int .i64 x)
  fA : ∀ t, W.frozen? ⟨gA, t, none⟩ = false
  fB : ∀ t, W.frozen? ⟨gB, t, none⟩ = false
  lt : w.heap.size ≤ gA ∧ gA < gB ∧ gB < W.heap.size
  bel : Below w.heap.size w W
section
variable {w W W' : World} {gA gB : Nat}
theorem RBx.next (hb : Below W.heap.size W W') (h : RBx w gA gB W) : RBx w gA gB W' := by
  obtain ⟨l1, l2, l3⟩ := h.lt
  have hs := hb.size
  refine ⟨?_, ?_, ?_, ?_, fun t => (hb.frozen (p := ⟨gA, t, none⟩) (by show gA < _; omega)).trans (h.fA t), fun t => (hb.frozen (p := ⟨gB, t, none⟩) (by show gB < _; omega)).trans (h.fB t), ⟨l1, l2, by omega⟩, h.bel.trans (hb.mono h.bel.size)⟩
  · obtain ⟨x, e⟩ := h.a0; exact ⟨x, (hb.cell (p := ⟨gA, 0, none⟩) (by show gA < _; omega)).trans e⟩
  · obtain ⟨x, e⟩ := h.a1; exact ⟨x, (hb.cell (p := ⟨gA, 1, none⟩) (by show gA < _; omega)).trans e⟩
  · obtain ⟨x, e⟩ := h.b0; exact ⟨x, (hb.cell (p := ⟨gB, 0, none⟩) (by show gB < _; omega)).trans e⟩
  · obtain ⟨x, e⟩ := h.b1; exact ⟨x, (hb.cell (p := ⟨gB, 1, none⟩) (by show gB < _; omega)).trans e⟩
theorem RBx.stored (h : RBx w gA gB W) (P Q V U : Int) :
    ((((W.setCell ⟨gA, 0, none⟩ (.int .i64 P)).setCell ⟨gA, 1, none⟩ (.int .i64 Q)).setCell ⟨gB, 0, none⟩ (.int .i64 V)).setCell ⟨gB, 1, none⟩ (.int .i64 U)).cell? ⟨gA, 0, none⟩ = some (.int .i64 P) ∧
    ((((W.setCell ⟨gA, 0, none⟩ (.int .i64 P)).setCell ⟨gA, 1, none⟩ (.int .i64 Q)).setCell ⟨gB, 0, none⟩ (.int .i64 V)).setCell ⟨gB, 1, none⟩ (.int .i64 U)).cell? ⟨gA, 1, none⟩ = some (.int .i64 Q) ∧
    ((((W.setCell ⟨gA, 0, none⟩ (.int .i64 P)).setCell ⟨gA, 1, none⟩ (.int .i64 Q)).setCell ⟨gB, 0, none⟩ (.int .i64 V)).setCell ⟨gB, 1, none⟩ (.int .i64 U)).cell? ⟨gB, 0, none⟩ = some (.int .i64 V) ∧
    ((((W.setCell ⟨gA, 0, none⟩ (.int .i64 P)).setCell ⟨gA, 1, none⟩ (.int .i64 Q)).setCell ⟨gB, 0, none⟩ (.int .i64 V)).setCell ⟨gB, 1, none⟩ (.int .i64 U)).cell? ⟨gB, 1, none⟩ = some (.int .i64 U) ∧
    Below w.heap.size w ((((W.setCell ⟨gA, 0, none⟩ (.int .i64 P)).setCell ⟨gA, 1, none⟩ (.int .i64 Q)).setCell ⟨gB, 0, none⟩ (.int .i64 V)).setCell ⟨gB, 1, none⟩ (.int .i64 U)) := by
  obtain ⟨l1, l2, l3⟩ := h.lt
  obtain ⟨x0, c0⟩ := h.a0
  obtain ⟨x1, c1⟩ := h.a1
  obtain ⟨y0, d0⟩ := h.b0
  obtain ⟨y1, d1⟩ := h.b1
  have hne : gA ≠ gB := by omega
  have hne2 : gB ≠ gA := by omega
  have s := stored2 (P := .int .i64 P) (Q := .int .i64 Q) c0 c1 (h.fA 0) (h.fA 1)
  have e0 := d0
  have e1 := d1
  rw [← cell_far (W := W) (g := gA) (i := 0) (v := .int .i64 P) hne, ← cell_far (g := gA) (i := 1) (v := .int .i64 Q) hne] at e0 e1
  have s2 := stored2 (P := .int .i64 V) (Q := .int .i64 U) e0 e1 (by rw [World.frozen?_setCell, World.frozen?_setCell]; exact h.fB 0) (by rw [World.frozen?_setCell, World.frozen?_setCell]; exact h.fB 1)
  exact ⟨by rw [cell_far hne2, cell_far hne2]; exact s.1, by rw [cell_far hne2, cell_far hne2]; exact s.2.1, s2.1, s2.2.1,
    (((h.bel.setCell (p := ⟨gA, 0, none⟩) (by show _ ≤ gA; omega) _).setCell (p := ⟨gA, 1, none⟩) (by show _ ≤ gA; omega) _).setCell (p := ⟨gB, 0, none⟩) (by show _ ≤ gB; omega) _).setCell (p := ⟨gB, 1, none⟩) (by show _ ≤ gB; omega) _⟩
theorem RBx.storedS (h : RBx w gA gB W) (P Q V U : Int) :
    (W.setCell ⟨gA, 0, none⟩ (.int .i64 P)).cell? ⟨gA, 0, none⟩ = some (.int .i64 P) ∧
    ((W.setCell ⟨gA, 0, none⟩ (.int .i64 P)).setCell ⟨gA, 1, none⟩ (.int .i64 Q)).cell? ⟨gA, 1, none⟩ = some (.int .i64 Q) ∧
    (((W.setCell ⟨gA, 0, none⟩ (.int .i64 P)).setCell ⟨gA, 1, none⟩ (.int .i64 Q)).setCell ⟨gB, 0, none⟩ (.int .i64 V)).cell? ⟨gB, 0, none⟩ = some (.int .i64 V) ∧
    ((((W.setCell ⟨gA, 0, none⟩ (.int .i64 P)).setCell ⟨gA, 1, none⟩ (.int .i64 Q)).setCell ⟨gB, 0, none⟩ (.int .i64 V)).setCell ⟨gB, 1, none⟩ (.int .i64 U)).cell? ⟨gB, 1, none⟩ = some (.int .i64 U) := by
  obtain ⟨l1, l2, l3⟩ := h.lt
  obtain ⟨s1, s2, s3, s4, _⟩ := h.stored P Q V U
  have hne : gA ≠ gB := by omega
  have hne2 : gB ≠ gA := by omega
  have k1 : (⟨gA, 1, none⟩ : Addr) ≠ ⟨gA, 0, none⟩ := by intro e; cases e
  have k2 : (⟨gB, 1, none⟩ : Addr) ≠ ⟨gB, 0, none⟩ := by intro e; cases e
  rw [cell_far hne2, cell_far hne2] at s1 s2
  rw [World.cell?_setCell_other _ _ _ _ k1] at s1
  rw [World.cell?_setCell_other _ _ _ _ k2] at s3
  exact ⟨s1, s2, s3, s4⟩
end
/-- The world in which Solve has laid its first boxes. -/
def wSol (w : World) (a : Option Addr) (m c : Nat) : World := ((w.alloc (.cells #[.slice a m c] 22)).alloc (.cells #[.int .i64 0, .int .i64 0] 45)).alloc (.cells #[.int .i64 0, .int .i64 0] 45)
theorem wSol_facts (w : World) (a : Option Addr) (m c : Nat) : (wSol w a m c).cell? ⟨w.heap.size, 0, none⟩ = some (.slice a m c) ∧ RBx w (w.heap.size + 1) (w.heap.size + 1 + 1) (wSol w a m c) ∧ (wSol w a m c).heap.size = w.heap.size + 3 := by
  obtain ⟨wA, hA⟩ : ∃ wA, wA = w.alloc (.cells #[.slice a m c] 22) := ⟨_, rfl⟩
  have hs : wA.heap.size = w.heap.size + 1 := by rw [hA]; simp
  obtain ⟨u1, u2, u3, u4, hz, hb⟩ := boxes2 wA 45 0 0 0 0
  have lA : Below w.heap.size w wA := by rw [hA]; exact (Below.refl _ _).alloc (Nat.le_refl _) _
  have e : wSol w a m c = (wA.alloc (.cells #[.int .i64 0, .int .i64 0] 45)).alloc (.cells #[.int .i64 0, .int .i64 0] 45) := by rw [hA]; rfl
  rw [e]
  rw [hs] at u1 u2 u3 u4 hz
  refine ⟨?_, ⟨⟨_, u1⟩, ⟨_, u2⟩, ⟨_, u3⟩, ⟨_, u4⟩, fun t => ?_, fun t => ?_, ⟨by omega, by omega, hz⟩, lA.trans (hb.mono (by omega))⟩, ?_⟩
  · refine (hb.cell (p := ⟨w.heap.size, 0, none⟩) (by show w.heap.size < _; omega)).trans ?_
    rw [hA, World.cell?_alloc_new]; rfl
  · rw [World.frozen?_alloc_past _ _ _ (by simp; omega), World.frozen?_alloc_at _ _ _ _ (by show w.heap.size + 1 = _; omega)]
  · exact World.frozen?_alloc_at _ _ _ _ (by simp; omega)
  · simp; omega

set_option maxHeartbeats 4000000 in
set_option maxRecDepth 100000 in
theorem mSolveE : MSolveE := fun a m c M w ti hne => by
  obtain ⟨f1, f2, f3⟩ := wSol_facts w a m c
  have hm : M.length = m := by obtain ⟨B, hB, hr, _⟩ := ti; exact hr.1
  have HCH := Lib.hid (saCheck_any a m c M _ (ti.below f2.bel))
  have HR := Lib.hid f2
  obtain ⟨ch, hch⟩ : ∃ ch, pchk M = ch := ⟨_, rfl⟩
  rw [hch] at HCH
  obtain ⟨r, hr⟩ : ∃ r, mxchk M = r := ⟨_, rfl⟩
  rw [hr] at hne ⊢
  have HRR : Hid (ch ≠ 0 ∧ r = ch ∨ ch = 0 ∧ m ≠ 2 ∧ r = 3) := by
    unfold mxchk at hr
    rw [hch, hm] at hr
    by_cases q : ch = 0
    · rw [if_neg (by simpa using q)] at hr
      by_cases q2 : m = 2
      · rw [if_neg (by simpa using q2)] at hr; exact absurd hr.symm hne
      · rw [if_pos q2] at hr; exact .inr ⟨q, q2, hr.symm⟩
    · rw [if_pos q] at hr; exact .inl ⟨q, hr.symm⟩
  obtain ⟨s1, s2, s3, s4, s5⟩ := f2.stored 0 0 0 0
  have S := Lib.hid (show _ ∧ _ ∧ _ ∧ _ from ⟨s1, s2, s3, s4⟩)
  have S5 := Lib.hid s5
  obtain ⟨l1, l2, l3⟩ := f2.lt
  obtain ⟨x0, c0⟩ := f2.a0
  obtain ⟨x1, c1⟩ := f2.a1
  obtain ⟨y0, d0⟩ := f2.b0
  obtain ⟨y1, d1⟩ := f2.b1
  have g0 := f2.fA 0
  have g1 := f2.fA 1
  have g2 := f2.fB 0
  have g3 := f2.fB 1
  clear ti hr hch hne f2 f3 s1 s2 s3 s4 s5 hm HR
  go_enter Try.func23, Try.ntmps23
  go_wp2_with fail
  rw [show ((w.alloc (.cells #[.slice a m c] 22)).alloc (.cells #[.int .i64 0, .int .i64 0] 45)).alloc (.cells #[.int .i64 0, .int .i64 0] 45) = wSol w a m c from rfl]
  refine HCH.out.mono ?_
  rintro e w' ⟨rfl, rfl⟩
  clear HCH
  rcases HRR.out with ⟨h1, rfl⟩ | ⟨rfl, h2, rfl⟩
  · have h3 : (r != 0) = true := by simpa using h1
    clear h1 HRR
    go_wp2_with fail
    obtain ⟨s1, s2, s3, s4⟩ := S.out
    refine bodyPost_ret (v := .tuple #[.agg #[.int .i64 0, .int .i64 0], .agg #[.int .i64 0, .int .i64 0], .int .i64 r]) (by simp [results, Try.results23, go_sem, s1, s2, s3, s4]) rfl ?_
    exact ⟨rfl, S5.out⟩
  · have h3 : ((m : Int) != 2) = true := by simp; omega
    have h4 : (m != 2) = true := by simpa using h2
    clear h2 HRR
    go_wp2_with fail
    obtain ⟨s1, s2, s3, s4⟩ := S.out
    refine bodyPost_ret (v := .tuple #[.agg #[.int .i64 0, .int .i64 0], .agg #[.int .i64 0, .int .i64 0], .int .i64 3]) (by simp [results, Try.results23, go_sem, s1, s2, s3, s4]) rfl ?_
    exact ⟨rfl, S5.out⟩

/-- What Solve holds once it has its first ratio. -/
structure Held (w : World) (k : Nat) (M : List (List Int)) (a : Option Addr) (c : Nat) (W : World) : Prop where
  m1 : W.cell? ⟨w.heap.size, 0, none⟩ = some (.slice a 2 c)
  box : RBx w (w.heap.size + 1) (w.heap.size + 1 + 1) W

set_option maxHeartbeats 8000000 in
set_option maxRecDepth 100000 in
theorem mSolve_of (ms : MStepP) : MSolve := fun k a m c M w ti p => by
  obtain ⟨f1, f2, f3⟩ := wSol_facts w a m c
  have hm : M.length = m := by obtain ⟨B, hB, hr, _⟩ := ti; exact hr.1
  obtain rfl : m = 2 := by rw [← hm, p.len]
  have HCH := Lib.hid (saCheck_any a 2 c M _ (ti.below f2.bel))
  rw [p.chk] at HCH
  obtain ⟨B, hB, hr, _⟩ := ti
  obtain ⟨_, b, o, rfl, hbb, hsq⟩ := rdr_sqP hr p
  obtain ⟨b0, o0, c0, hb0, hr0, _, _, hc0⟩ := hsq 0 (by omega)
  obtain ⟨b1, o1, c1, hb1, hr1, _, _, hc1⟩ := hsq 1 (by omega)
  rw [Nat.add_zero] at hr0
  have HLOW := Lib.hid (mlow_any 0 1 (by omega) (by omega) (by omega) (by omega) (wSol w (some ⟨b, o, none⟩) 2 c))
  have HR := Lib.hid f2
  clear hr hsq hm
  replace hbb : b < w.heap.size := by omega
  replace hb0 : b0 < w.heap.size := by omega
  replace hb1 : b1 < w.heap.size := by omega
  go_enter Try.func23, Try.ntmps23
  go_wp2_with fail
  rw [show ((w.alloc (.cells #[.slice (some ⟨b, o, none⟩) 2 c] 22)).alloc (.cells #[.int .i64 0, .int .i64 0] 45)).alloc (.cells #[.int .i64 0, .int .i64 0] 45) = wSol w (some ⟨b, o, none⟩) 2 c from rfl]
  refine HCH.out.mono ?_
  rintro e w' ⟨rfl, rfl⟩
  clear HCH
  go_wp2_with fail
  refine HLOW.out.mono ?_
  rintro e w2 ⟨P1, Q1, g, q1, q2, q3, _, rfl, hb2⟩
  obtain rfl := one_low1 q1 q3
  obtain rfl : P1 = 0 := by
    have hg : g = 1 := by omega
    subst hg; omega
  clear HLOW q1 q2 q3
  have R2 := f2.next hb2
  have m1 := (hb2.cell (p := ⟨w.heap.size, 0, none⟩) (by show w.heap.size < _; omega)).trans f1
  have z1 : w.heap.size + 1 + 1 < w2.heap.size := R2.lt.2.2
  obtain ⟨w3, h3⟩ : ∃ w3, w3 = w2.alloc (.cells #[.int .i64 0, .int .i64 1] 45) := ⟨_, rfl⟩
  have l3 : Below w2.heap.size w2 w3 := by rw [h3]; exact (Below.refl _ _).alloc (Nat.le_refl _) _
  obtain ⟨x0, x1, xf⟩ := boxQ w2 45 0 1
  rw [← h3] at x0 x1
  have xf3 : ∀ j, w3.frozen? ⟨w2.heap.size, j, none⟩ = false := by rw [h3]; exact xf
  have R3 := R2.next l3
  have m3 := (l3.cell (p := ⟨w.heap.size, 0, none⟩) (by show w.heap.size < _; omega)).trans m1
  have z3 : w2.heap.size < w3.heap.size := by rw [h3]; simp
  have r0 := (R3.bel.cell (p := ⟨b, o, none⟩) (by exact hbb)).trans hr0
  have r1 := (R3.bel.cell (p := ⟨b, o + 1, none⟩) (by exact hbb)).trans hr1
  have y0 : ∀ y, y < k → w3.cell? ⟨b0, o0 + y, none⟩ = some (.int .i64 (ent M 0 y)) := fun y hy => (R3.bel.cell (p := ⟨b0, o0 + y, none⟩) (by exact hb0)).trans (hc0 y hy)
  have y1 : ∀ y, y < k → w3.cell? ⟨b1, o1 + y, none⟩ = some (.int .i64 (ent M 1 y)) := fun y hy => (R3.bel.cell (p := ⟨b1, o1 + y, none⟩) (by exact hb1)).trans (hc1 y hy)
  have HL : Hid (w.heap.size + 1 + 1 < w2.heap.size ∧ w2.heap.size < w3.heap.size ∧ b < w2.heap.size ∧ b0 < w2.heap.size ∧ b1 < w2.heap.size) := ⟨z1, z3, by omega, by omega, by omega⟩
  have QL : Hid (∀ w1 : World, Below w3.heap.size w3 w1 → Calls Try.prog 43 #[.slice (some ⟨b0, o0, none⟩) k c0, .slice (some ⟨b1, o1, none⟩) k c1, .agg #[.int .i64 0, .int .i64 1]] w1 (LowOut (lvOf M k 0 1) 1 w1)) := fun w1 h1 => by
    have hz := h1.size
    exact mleast_any p (by omega) (by omega) (by omega) (by omega) w1 (by omega) (by omega) (fun y hy => (h1.cell (p := ⟨b0, o0 + y, none⟩) (by show b0 < _; omega)).trans (y0 y hy)) (fun y hy => (h1.cell (p := ⟨b1, o1 + y, none⟩) (by show b1 < _; omega)).trans (y1 y hy))
  -- what holds behind the first look at the columns
  have HBX : Hid (∀ (gv : Nat) (V U : Int) (W : World), Below w3.heap.size w3 W → W.cell? ⟨gv, 0, none⟩ = some (.int .i64 V) → W.cell? ⟨gv, 1, none⟩ = some (.int .i64 U) → (∀ j, W.frozen? ⟨gv, j, none⟩ = false) → w3.heap.size ≤ gv → gv < W.heap.size →
      BxS w2 k M w.heap.size w2.heap.size gv b o c b0 o0 c0 b1 o1 c1 0 1 V U W ∧ RBx w (w.heap.size + 1) (w.heap.size + 1 + 1) W) := fun gv V U W hW v0 v1 fv hg hg2 =>
    ⟨⟨(hW.cell (p := ⟨w.heap.size, 0, none⟩) (by show w.heap.size < _; omega)).trans m3, (hW.cell (p := ⟨b, o, none⟩) (by show b < _; omega)).trans r0, (hW.cell (p := ⟨b, o + 1, none⟩) (by show b < _; omega)).trans r1,
      fun y hy => (hW.cell (p := ⟨b0, o0 + y, none⟩) (by show b0 < _; omega)).trans (y0 y hy), fun y hy => (hW.cell (p := ⟨b1, o1 + y, none⟩) (by show b1 < _; omega)).trans (y1 y hy),
      (hW.cell (p := ⟨w2.heap.size, 0, none⟩) (by exact z3)).trans x0, (hW.cell (p := ⟨w2.heap.size, 1, none⟩) (by exact z3)).trans x1, v0, v1,
      fun j => (hW.frozen (p := ⟨w2.heap.size, j, none⟩) (by exact z3)).trans (xf3 j), fv, ⟨by omega, by omega, by omega⟩, ⟨by omega, Nat.le_refl _, by omega, hg2⟩, l3.trans (hW.mono (by omega))⟩, R3.next hW⟩
  have HP := Lib.hid p
  have HR2 := Lib.hid R2
  have HMS : Hid MStepP := ms
  have s1 : w.heap.size < w3.heap.size := by omega
  have s2 : b < w3.heap.size := by omega
  clear hb2 f1 f2 f3 R2 R3 m1 ms l3 xf xf3 y0 y1 p HR hc0 hc1 hr0 hr1 hb0 hb1 hbb z1 hB
  go_upto_region 7 with fail
  rw [← h3]
  clear h3
  go_cut [7] (fun s7 wx => ∃ (gv : Nat) (V U h : Int), s7 = .pointer (some ⟨gv, 0, none⟩) ∧ Hid (1 ≤ h ∧ lvOf M k 0 1 = V * h ∧ 1 = U * h ∧ Int.gcd V U = 1) ∧ wx.cell? ⟨gv, 0, none⟩ = some (.int .i64 V) ∧ wx.cell? ⟨gv, 1, none⟩ = some (.int .i64 U) ∧ (∀ j, wx.frozen? ⟨gv, j, none⟩ = false) ∧ w3.heap.size ≤ gv ∧ gv < wx.heap.size ∧ Below w3.heap.size w3 wx)
  case' first =>
    have sw2 : w2.heap.size < w3.heap.size := HL.out.2.1
    have KE : Hid (∀ w', Below w3.heap.size w3 w' → w'.cell? ⟨w.heap.size, 0, none⟩ = some (.slice (some ⟨b, o, none⟩) 2 c) ∧ w'.cell? ⟨b, o, none⟩ = some (.slice (some ⟨b0, o0, none⟩) k c0) ∧ w'.cell? ⟨b, o + 1, none⟩ = some (.slice (some ⟨b1, o1, none⟩) k c1) ∧ w'.cell? ⟨w2.heap.size, 0, none⟩ = some (.int .i64 0) ∧ w'.cell? ⟨w2.heap.size, 1, none⟩ = some (.int .i64 1)) := fun w' hw =>
      ⟨(hw.cell (p := ⟨w.heap.size, 0, none⟩) (by exact s1)).trans m3, (hw.cell (p := ⟨b, o, none⟩) (by exact s2)).trans r0, (hw.cell (p := ⟨b, o + 1, none⟩) (by exact s2)).trans r1, (hw.cell (p := ⟨w2.heap.size, 0, none⟩) (by exact sw2)).trans x0, (hw.cell (p := ⟨w2.heap.size, 1, none⟩) (by exact sw2)).trans x1⟩
    go_region_held3 (fun w' => w'.cell? ⟨w.heap.size, 0, none⟩ = some (.slice (some ⟨b, o, none⟩) 2 c) ∧ w'.cell? ⟨b, o, none⟩ = some (.slice (some ⟨b0, o0, none⟩) k c0) ∧ w'.cell? ⟨b, o + 1, none⟩ = some (.slice (some ⟨b1, o1, none⟩) k c1) ∧ w'.cell? ⟨w2.heap.size, 0, none⟩ = some (.int .i64 0) ∧ w'.cell? ⟨w2.heap.size, 1, none⟩ = some (.int .i64 1))
      (first | assumption | exact KE.out _ (by assumption) | exact KE.out _ (Below.refl _ w3).drew | exact KE.out _ ((Below.refl _ w3).alloc (Nat.le_refl _) _).drew | exact KE.out _ (hbz.alloc hbz.size _) | exact KE.out _ ((hbz.setCell (p := ⟨w3.heap.size, 0, none⟩) (Nat.le_refl _) _).setCell (p := ⟨w3.heap.size, 1, none⟩) (Nat.le_refl _) _))
      (first
      | (go_at_call 43
         with_reducible refine (QL.out _ (by first | exact (Below.refl _ w3).drew | exact ((Below.refl _ w3).alloc (Nat.le_refl _) _).drew)).mono ?_
         rintro e w9 ⟨R, S, h, k1, k2, k3, k4, rfl, hb9⟩
         have HRS := Lib.hid (show 1 ≤ h ∧ lvOf M k 0 1 = R * h ∧ 1 = S * h ∧ Int.gcd R S = 1 from ⟨k1, k2, k3, k4⟩)
         clear k1 k2 k3 k4
         have hbz : Below w3.heap.size w3 w9 := by first | exact (Below.refl _ w3).drew.trans hb9 | exact ((Below.refl _ w3).alloc (Nat.le_refl _) _).drew.trans (hb9.mono (Below.alloc (Below.refl _ w3) (Nat.le_refl _) _).size)
         try
           have u0 := boxQ w3 45 0 0
           have u1 : w9.cell? ⟨w3.heap.size, 0, none⟩ = some (.int .i64 0) := (hb9.cell (p := ⟨w3.heap.size, 0, none⟩) (by simp)).trans u0.1
           have u2 : w9.cell? ⟨w3.heap.size, 1, none⟩ = some (.int .i64 0) := (hb9.cell (p := ⟨w3.heap.size, 1, none⟩) (by simp)).trans u0.2.1
           have u3 : ∀ j, w9.frozen? ⟨w3.heap.size, j, none⟩ = false := fun j => (hb9.frozen (p := ⟨w3.heap.size, j, none⟩) (by simp)).trans (u0.2.2 j)
           have u30 := u3 0
           have u31 := u3 1
           have u5 : w3.heap.size < w9.heap.size := Nat.lt_of_lt_of_le (by simp) hb9.size
           clear u0))
    all_goals
      go_wp2_with fail
      go_meet
      first
        | (have q := stored2 (P := .int .i64 R) (Q := .int .i64 S) u1 u2 u30 u31
           exact ⟨_, R, S, h, rfl, HRS, q.1, q.2.1, fun j => by rw [World.frozen?_setCell, World.frozen?_setCell]; exact u3 j, Nat.le_refl _, by rw [q.2.2.2.2]; exact u5, (hbz.setCell (p := ⟨w3.heap.size, 0, none⟩) (Nat.le_refl _) _).setCell (p := ⟨w3.heap.size, 1, none⟩) (Nat.le_refl _) _⟩)
        | (have u0 := boxQ w9 45 R S
           exact ⟨_, R, S, h, rfl, HRS, u0.1, u0.2.1, u0.2.2, hbz.size, by simp, hbz.alloc hbz.size _⟩)
  case rest =>
    obtain ⟨gv, V, U, h, rfl, HVU, v0, v1, fv, hg, hg2, hb⟩ := hcut
    obtain ⟨bx, rb⟩ := HBX.out gv V U _ hb v0 v1 fv hg hg2
    obtain ⟨k1, k2, k3, k4⟩ := HVU.out
    have gd : MGood M k 0 1 V U := ⟨by omega, by omega, by omega, by omega, by decide, ⟨h, k1, k2, k3⟩, k4⟩
    have HC := Lib.hid (fun W' hW => mcorn_any HMS.out HP.out W' (bx.next hW) gd (Beaten.self 0 1))
    have cc1 := bx.m1
    have cc2 := bx.r0
    have cc3 := bx.r1
    clear m3 x0 x1 r0 r1 z3 QL HBX s1 s2 v0 v1 fv hg hg2 hb bx rb k1 k2 k3 k4 gd HVU
    go_upto_region 8 with fail
    go_cut [36] (fun s36 wx => ∃ P Q V2 U2 : Int, Hid (Tried w2 k M w.heap.size w2.heap.size gv b o c b0 o0 c0 b1 o1 c1 k 0 P Q V2 U2 wx))
    case' first =>
      go_region_held3 (fun w' => w'.cell? ⟨w.heap.size, 0, none⟩ = some (.slice (some ⟨b, o, none⟩) 2 c) ∧ w'.cell? ⟨b, o, none⟩ = some (.slice (some ⟨b0, o0, none⟩) k c0) ∧ w'.cell? ⟨b, o + 1, none⟩ = some (.slice (some ⟨b1, o1, none⟩) k c1))
        (first | assumption | exact ⟨cc1, cc2, cc3⟩ | exact ⟨HT.out.box.m1, HT.out.box.r0, HT.out.box.r1⟩)
        (first
        | (go_at_call 44
           with_reducible refine (HC.out _ (Below.refl _ _).drew).mono ?_
           rintro e w9 ⟨rfl, P, Q, V2, U2, T⟩
           have HT := Lib.hid T
           clear T))
      all_goals
        go_wp2_with fail
        go_meet
        exact ⟨P, Q, V2, U2, HT⟩
    case rest =>
      obtain ⟨P, Q, V2, U2, HT⟩ := hcut
      have B := HT.out.box
      have R := HR2.out.next B.bel
      have p0 := B.p0
      have p1 := B.p1
      have v0 := B.v0
      have v1 := B.v1
      obtain ⟨e0, d0⟩ := R.a0
      obtain ⟨e1, d1⟩ := R.a1
      obtain ⟨e2, d2⟩ := R.b0
      obtain ⟨e3, d3⟩ := R.b1
      have hAB : w.heap.size + 1 ≠ w.heap.size + 1 + 1 := by omega
      have hBA := hAB.symm
      have a0 := R.fA 0
      have a1 := R.fA 1
      have a2 := R.fB 0
      have a3 := R.fB 1
      have HST := Lib.hid (R.stored P Q V2 U2)
      have HST2 := Lib.hid (R.storedS P Q V2 U2)
      have n1 : w.heap.size + 1 ≠ w2.heap.size := by have := HL.out; omega
      have n2 : w.heap.size + 1 + 1 ≠ w2.heap.size := by have := HL.out; omega
      have n3 : w.heap.size + 1 ≠ gv := by have := HL.out; have := B.l1; omega
      have n4 : w.heap.size + 1 + 1 ≠ gv := by have := HL.out; have := B.l1; omega
      have n5 := n1.symm
      have n6 := n2.symm
      have n7 := n3.symm
      have n8 := n4.symm
      have HB := Lib.hid B
      clear B R cc1 cc2 cc3 HC
      generalize w.heap.size + 1 + 1 = gB at *
      generalize w.heap.size + 1 = gA at *
      go_wp2_with fail
      go_region
      all_goals
        go_wp2
        (try simp only [Exit.inBlock, Exit.then])
        obtain ⟨s1, s2, s3, s4, s5⟩ := HST.out
        obtain ⟨t1, t2, t3, t4⟩ := HST2.out
        refine bodyPost_ret (v := .tuple #[.agg #[.int .i64 P, .int .i64 Q], .agg #[.int .i64 V2, .int .i64 U2], .int .i64 0]) (by simp [results, Try.results23, go_sem, t1, t2, t3, t4]) rfl ?_
        exact ⟨P, Q, V2, U2, end_sol HP.out HT.out.good HT.out.t0 HT.out.t1 HT.out.tx, rfl, s5.drew⟩
end Go.Proofs.Ytimjepakdldacaa
