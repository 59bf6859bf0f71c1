/-
  Where mixed.Solve keeps what it has found: the boxes, and what a step leaves.
-/
import Derived.Test.YtimjepakdldacaaMixStep
import Derived.Test.YtimjepakdldacaaCMxLeast
namespace Go.Proofs.Ytimjepakdldacaa
open Go.RowKit Fm
set_option linter.unusedVariables false

/-- Where Solve keeps what it has: the table, the best ratio and its value. -/
structure BxS (w0 : World) (k : Nat) (M : List (List Int)) (g1 gb gv b o c b0 o0 c0 b1 o1 c1 : Nat) (P Q V U : Int) (W : World) : Prop where
  m1 : W.cell? ⟨g1, 0, none⟩ = some (.slice (some ⟨b, o, none⟩) 2 c)
  r0 : W.cell? ⟨b, o, none⟩ = some (.slice (some ⟨b0, o0, none⟩) k c0)
  r1 : W.cell? ⟨b, o + 1, none⟩ = some (.slice (some ⟨b1, o1, none⟩) k c1)
  y0 : ∀ y, y < k → W.cell? ⟨b0, o0 + y, none⟩ = some (.int .i64 (ent M 0 y))
  y1 : ∀ y, y < k → W.cell? ⟨b1, o1 + y, none⟩ = some (.int .i64 (ent M 1 y))
  p0 : W.cell? ⟨gb, 0, none⟩ = some (.int .i64 P)
  p1 : W.cell? ⟨gb, 1, none⟩ = some (.int .i64 Q)
  v0 : W.cell? ⟨gv, 0, none⟩ = some (.int .i64 V)
  v1 : W.cell? ⟨gv, 1, none⟩ = some (.int .i64 U)
  fb : ∀ t, W.frozen? ⟨gb, t, none⟩ = false
  fv : ∀ t, W.frozen? ⟨gv, t, none⟩ = false
  l0 : b < w0.heap.size ∧ b0 < w0.heap.size ∧ b1 < w0.heap.size
  l1 : g1 < gb ∧ w0.heap.size ≤ gb ∧ gb < gv ∧ gv < W.heap.size
  bel : Below w0.heap.size w0 W
section
variable {w0 : World} {k : Nat} {M : List (List Int)} {g1 gb gv b o c b0 o0 c0 b1 o1 c1 : Nat} {P Q V U : Int} {W W' : World}
theorem BxS.next (hb : Below W.heap.size W W') (h : BxS w0 k M g1 gb gv b o c b0 o0 c0 b1 o1 c1 P Q V U W) : BxS w0 k M g1 gb gv b o c b0 o0 c0 b1 o1 c1 P Q V U W' := by
  obtain ⟨a1, a2, a3⟩ := h.l0
  obtain ⟨a4, a5, a6, a7⟩ := h.l1
  have hs := hb.size
  exact ⟨(hb.cell (p := ⟨g1, 0, none⟩) (by show g1 < _; omega)).trans h.m1, (hb.cell (p := ⟨b, o, none⟩) (by show b < _; omega)).trans h.r0, (hb.cell (p := ⟨b, o + 1, none⟩) (by show b < _; omega)).trans h.r1,
    fun y hy => (hb.cell (p := ⟨b0, o0 + y, none⟩) (by show b0 < _; omega)).trans (h.y0 y hy), fun y hy => (hb.cell (p := ⟨b1, o1 + y, none⟩) (by show b1 < _; omega)).trans (h.y1 y hy),
    (hb.cell (p := ⟨gb, 0, none⟩) (by show gb < _; omega)).trans h.p0, (hb.cell (p := ⟨gb, 1, none⟩) (by show gb < _; omega)).trans h.p1, (hb.cell (p := ⟨gv, 0, none⟩) (by show gv < _; omega)).trans h.v0, (hb.cell (p := ⟨gv, 1, none⟩) (by show gv < _; omega)).trans h.v1,
    fun t => (hb.frozen (p := ⟨gb, t, none⟩) (by show gb < _; omega)).trans (h.fb t), fun t => (hb.frozen (p := ⟨gv, t, none⟩) (by show gv < _; omega)).trans (h.fv t),
    h.l0, ⟨a4, a5, a6, by omega⟩, h.bel.trans (hb.mono h.bel.size)⟩
theorem cell_far {W : World} {g h i j : Nat} {v : Value} (hne : g ≠ h) : (W.setCell ⟨g, i, none⟩ v).cell? ⟨h, j, none⟩ = W.cell? ⟨h, j, none⟩ := World.cell?_setCell_other _ _ _ _ (fun e => hne (by injection e))
theorem BxS.setB (h : BxS w0 k M g1 gb gv b o c b0 o0 c0 b1 o1 c1 P Q V U W) (P' Q' : Int) : BxS w0 k M g1 gb gv b o c b0 o0 c0 b1 o1 c1 P' Q' V U ((W.setCell ⟨gb, 0, none⟩ (.int .i64 P')).setCell ⟨gb, 1, none⟩ (.int .i64 Q')) := by
  obtain ⟨a1, a2, a3⟩ := h.l0
  obtain ⟨a4, a5, a6, a7⟩ := h.l1
  have s := stored2 (P := .int .i64 P') (Q := .int .i64 Q') h.p0 h.p1 (h.fb 0) (h.fb 1)
  have far : ∀ (x j : Nat), gb ≠ x → ((W.setCell ⟨gb, 0, none⟩ (.int .i64 P')).setCell ⟨gb, 1, none⟩ (.int .i64 Q')).cell? ⟨x, j, none⟩ = W.cell? ⟨x, j, none⟩ := fun x j hx => by rw [cell_far hx, cell_far hx]
  exact ⟨(far _ _ (by omega)).trans h.m1, (far _ _ (by omega)).trans h.r0, (far _ _ (by omega)).trans h.r1, fun y hy => (far _ _ (by omega)).trans (h.y0 y hy), fun y hy => (far _ _ (by omega)).trans (h.y1 y hy), s.1, s.2.1,
    (far _ _ (by omega)).trans h.v0, (far _ _ (by omega)).trans h.v1, fun t => by rw [World.frozen?_setCell, World.frozen?_setCell]; exact h.fb t, fun t => by rw [World.frozen?_setCell, World.frozen?_setCell]; exact h.fv t, h.l0, ⟨a4, a5, a6, by rw [s.2.2.2.2]; exact a7⟩,
    (h.bel.setCell (p := ⟨gb, 0, none⟩) (by show _ ≤ gb; omega) _).setCell (p := ⟨gb, 1, none⟩) (by show _ ≤ gb; omega) _⟩
theorem BxS.setV (h : BxS w0 k M g1 gb gv b o c b0 o0 c0 b1 o1 c1 P Q V U W) (V' U' : Int) : BxS w0 k M g1 gb gv b o c b0 o0 c0 b1 o1 c1 P Q V' U' ((W.setCell ⟨gv, 0, none⟩ (.int .i64 V')).setCell ⟨gv, 1, none⟩ (.int .i64 U')) := by
  obtain ⟨a1, a2, a3⟩ := h.l0
  obtain ⟨a4, a5, a6, a7⟩ := h.l1
  have s := stored2 (P := .int .i64 V') (Q := .int .i64 U') h.v0 h.v1 (h.fv 0) (h.fv 1)
  have far : ∀ (x j : Nat), gv ≠ x → ((W.setCell ⟨gv, 0, none⟩ (.int .i64 V')).setCell ⟨gv, 1, none⟩ (.int .i64 U')).cell? ⟨x, j, none⟩ = W.cell? ⟨x, j, none⟩ := fun x j hx => by rw [cell_far hx, cell_far hx]
  exact ⟨(far _ _ (by omega)).trans h.m1, (far _ _ (by omega)).trans h.r0, (far _ _ (by omega)).trans h.r1, fun y hy => (far _ _ (by omega)).trans (h.y0 y hy), fun y hy => (far _ _ (by omega)).trans (h.y1 y hy), (far _ _ (by omega)).trans h.p0, (far _ _ (by omega)).trans h.p1,
    s.1, s.2.1, fun t => by rw [World.frozen?_setCell, World.frozen?_setCell]; exact h.fb t, fun t => by rw [World.frozen?_setCell, World.frozen?_setCell]; exact h.fv t, h.l0, ⟨a4, a5, a6, by rw [s.2.2.2.2]; exact a7⟩,
    (h.bel.setCell (p := ⟨gv, 0, none⟩) (by show _ ≤ gv; omega) _).setCell (p := ⟨gv, 1, none⟩) (by show _ ≤ gv; omega) _⟩
end
theorem good_bd {M : List (List Int)} {k : Nat} {P Q V W : Int} (p : Pay 2 k M) (g : MGood M k P Q V W) : -4000000 ≤ V ∧ V ≤ 4000000 := by
  obtain ⟨h, h1, h2, h3⟩ := g.v
  obtain ⟨y, hy, e⟩ := lv_at (M := M) p.k1 P Q
  have b := mval_bd p g.p0 g.pq y
  have := g.qb
  exact bd_of_mul h1 h2 (by omega)
theorem lt_of_cell {W : World} {g j : Nat} {v : Value} (h : W.cell? ⟨g, j, none⟩ = some v) : g < W.heap.size := by
  rcases Nat.lt_or_ge g W.heap.size with e | e
  · exact e
  · exfalso
    simp [World.cell?, Array.getElem?_eq_none e] at h
/-- What the closure leaves. -/
def StepOut (w0 : World) (k : Nat) (M : List (List Int)) (g1 gb gv b o c b0 o0 c0 b1 o1 c1 : Nat) (P Q X Y : Int) (e : Ending) (W' : World) : Prop :=
  e = .returned (.tuple #[]) ∧ ∃ P' Q' V' U', MGood M k P' Q' V' U' ∧ BxS w0 k M g1 gb gv b o c b0 o0 c0 b1 o1 c1 P' Q' V' U' W' ∧ Beaten M k P' Q' P Q ∧ Beaten M k P' Q' X Y
/-- What a step does, as a statement of its own. -/
def MStepP : Prop := ∀ (w0 : World) (k : Nat) (M : List (List Int)) (g1 gb gv b o c b0 o0 c0 b1 o1 c1 : Nat) (P Q V U X Y : Int) (W : World), Pay 2 k M → BxS w0 k M g1 gb gv b o c b0 o0 c0 b1 o1 c1 P Q V U W → MGood M k P Q V U →
    0 ≤ X → X ≤ Y → 1 ≤ Y → Y ≤ 4000 → Int.gcd X Y = 1 →
    Calls Try.prog 45 #[.agg #[.int .i64 X, .int .i64 Y], .pointer (some ⟨g1, 0, none⟩), .pointer (some ⟨gv, 0, none⟩), .pointer (some ⟨gb, 0, none⟩)] W (StepOut w0 k M g1 gb gv b o c b0 o0 c0 b1 o1 c1 P Q X Y)
end Go.Proofs.Ytimjepakdldacaa
