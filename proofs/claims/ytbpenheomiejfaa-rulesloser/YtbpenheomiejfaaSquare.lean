/-
  Reading a square table, cell by cell: over any program.
-/
import Derived.Test.YtbpenheomiejfaaOpen
import Derived.Test.YtbpenheomiejfaaWinsMath
namespace Fm
open Go Go.RowKit
set_option linter.unusedVariables false

/-- The table at a in w has n rows of n ints, and reads as M. -/
def Sq (w : World) (B b o n : Nat) (M : List (List Int)) : Prop :=
  ∀ x, x < n → ∃ bx ox cx, w.cell? ⟨b, o + x, none⟩ = some (.slice (some ⟨bx, ox, none⟩) n cx) ∧ bx < B ∧ n ≤ cx ∧ cx ≤ maxLen ∧ ∀ y, y < n → w.cell? ⟨bx, ox + y, none⟩ = some (.int .i64 (ent M x y))
theorem rdr_square {w : World} {B n : Nat} {a : Option Addr} {M : List (List Int)} (hr : RdR w B a n M) (hn : 0 < n) (hl : ∀ l ∈ M, l.length = n) : ∃ b o, a = some ⟨b, o, none⟩ ∧ b < B ∧ Sq w B b o n M := by
  obtain ⟨b, o, rfl, hbB, hrows⟩ := hr.2 hn
  refine ⟨b, o, rfl, hbB, fun x hx => ?_⟩
  obtain ⟨a', c', h2, h3, _, h4, h5⟩ := hrows x hx
  have hxl : x < M.length := by rw [hr.1]; exact hx
  have hm : M.getD x [] ∈ M := by rw [List.getD_eq_getElem?_getD, List.getElem?_eq_getElem hxl]; exact List.getElem_mem hxl
  rw [hl _ hm] at h2 h3 h5
  obtain ⟨bx, ox, rfl, h6, h7⟩ := h5.2 hn
  exact ⟨bx, ox, c', h2, h6, h3, h4, h7⟩
theorem Sq.below {w w' : World} {B B' b o n : Nat} {M : List (List Int)} (h : Sq w B b o n M) (hb : Below B' w w') (hB : B ≤ B') (hbB : b < B) : Sq w' B b o n M := fun x hx => by
  obtain ⟨bx, ox, cx, h1, h2, h3, h4, h5⟩ := h x hx
  exact ⟨bx, ox, cx, (hb.cell (by show b < _; omega)).trans h1, h2, h3, h4, fun y hy => (hb.cell (by show bx < _; omega)).trans (h5 y hy)⟩
end Fm
