/-
  Literals of slices of slices of ints, of one, two, three rows, as they are laid: over any program.
-/
import Derived.Test.YtbpenheomiejfaaOpen
namespace Fm
open Go Go.RowKit
set_option linter.unusedVariables false

/-- A literal of slices reads as what they hold. -/
theorem rdr_lit (w : World) (t : TypeId) (L : List (List Int)) (cs : Array Value) (hcs : cs.size = L.length) (h : ∀ j, j < L.length → ∃ a' c', cs[j]? = some (.slice a' (L.getD j []).length c') ∧ (L.getD j []).length ≤ c' ∧ (a' = none → c' = 0) ∧ c' ≤ maxLen ∧ Rd w w.heap.size a' (L.getD j []).length (L.getD j [])) :
    RdR (w.alloc (.cells cs t)) (w.heap.size + 1) (some ⟨w.heap.size, 0, none⟩) L.length L := by
  refine ⟨rfl, fun _ => ⟨w.heap.size, 0, rfl, by omega, fun j hj => ?_⟩⟩
  obtain ⟨a', c', h1, h2, h3, h4, h5⟩ := h j hj
  refine ⟨a', c', ?_, h2, h3, h4, (h5.alloc (Nat.le_refl _) _).more (by omega)⟩
  rw [Nat.zero_add, World.cell?_alloc_new]
  simpa using h1
/-- What a literal leaves. -/
def LitOut (w W : World) (a : Option Addr) (L : List (List Int)) : Prop := RdR W W.heap.size a L.length L ∧ Below w.heap.size w W
theorem lit1 (w : World) (t e : TypeId) (r1 : List Int) (c1 : Array Value) (e1 : c1 = (I r1).toArray) (k1 : r1.length ≤ 1000) :
    LitOut w ((w.alloc (.cells c1 t)).alloc (.cells #[.slice (some ⟨w.heap.size, 0, none⟩) r1.length r1.length] e)) (some ⟨w.heap.size + 1, 0, none⟩) [r1] := by
  have a1 := Rd.lit w t r1 c1 e1
  have h := rdr_lit (w.alloc (.cells c1 t)) e [r1] #[.slice (some ⟨w.heap.size, 0, none⟩) r1.length r1.length] rfl (fun j hj => by
    match j, hj with
    | 0, _ => exact ⟨_, r1.length, rfl, Nat.le_refl _, by simp, by unfold maxLen; omega, a1.more (by simp)⟩)
  simp only [World.size_alloc] at h
  exact ⟨h.more (by simp), ((Below.refl _ _).alloc (by omega) _).alloc (by simp) _⟩
theorem lit2 (w : World) (t e : TypeId) (r1 r2 : List Int) (c1 c2 : Array Value) (e1 : c1 = (I r1).toArray) (e2 : c2 = (I r2).toArray) (k1 : r1.length ≤ 1000) (k2 : r2.length ≤ 1000) :
    LitOut w (((w.alloc (.cells c1 t)).alloc (.cells c2 t)).alloc (.cells #[.slice (some ⟨w.heap.size, 0, none⟩) r1.length r1.length, .slice (some ⟨w.heap.size + 1, 0, none⟩) r2.length r2.length] e)) (some ⟨w.heap.size + 1 + 1, 0, none⟩) [r1, r2] := by
  have a1 := (Rd.lit w t r1 c1 e1).alloc (by simp) (.cells c2 t)
  have a2 := Rd.lit (w.alloc (.cells c1 t)) t r2 c2 e2
  simp only [World.size_alloc] at a2
  have h := rdr_lit ((w.alloc (.cells c1 t)).alloc (.cells c2 t)) e [r1, r2] #[.slice (some ⟨w.heap.size, 0, none⟩) r1.length r1.length, .slice (some ⟨w.heap.size + 1, 0, none⟩) r2.length r2.length] rfl (fun j hj => by
    match j, hj with
    | 0, _ => exact ⟨_, r1.length, rfl, Nat.le_refl _, by simp, by unfold maxLen; omega, a1.more (by simp)⟩
    | 1, _ => exact ⟨_, r2.length, rfl, Nat.le_refl _, by simp, by unfold maxLen; omega, a2.more (by simp)⟩)
  simp only [World.size_alloc] at h
  exact ⟨h.more (by simp), (((Below.refl _ _).alloc (by omega) _).alloc (by simp) _).alloc (by simp; omega) _⟩
theorem lit3 (w : World) (t e : TypeId) (r1 r2 r3 : List Int) (c1 c2 c3 : Array Value) (e1 : c1 = (I r1).toArray) (e2 : c2 = (I r2).toArray) (e3 : c3 = (I r3).toArray) (k1 : r1.length ≤ 1000) (k2 : r2.length ≤ 1000) (k3 : r3.length ≤ 1000) :
    LitOut w ((((w.alloc (.cells c1 t)).alloc (.cells c2 t)).alloc (.cells c3 t)).alloc (.cells #[.slice (some ⟨w.heap.size, 0, none⟩) r1.length r1.length, .slice (some ⟨w.heap.size + 1, 0, none⟩) r2.length r2.length, .slice (some ⟨w.heap.size + 1 + 1, 0, none⟩) r3.length r3.length] e)) (some ⟨w.heap.size + 1 + 1 + 1, 0, none⟩) [r1, r2, r3] := by
  have a1 := ((Rd.lit w t r1 c1 e1).alloc (by simp) (.cells c2 t)).alloc (by simp) (.cells c3 t)
  have a2 := (Rd.lit (w.alloc (.cells c1 t)) t r2 c2 e2).alloc (by simp) (.cells c3 t)
  have a3 := Rd.lit ((w.alloc (.cells c1 t)).alloc (.cells c2 t)) t r3 c3 e3
  simp only [World.size_alloc] at a2 a3
  have h := rdr_lit (((w.alloc (.cells c1 t)).alloc (.cells c2 t)).alloc (.cells c3 t)) e [r1, r2, r3] #[.slice (some ⟨w.heap.size, 0, none⟩) r1.length r1.length, .slice (some ⟨w.heap.size + 1, 0, none⟩) r2.length r2.length, .slice (some ⟨w.heap.size + 1 + 1, 0, none⟩) r3.length r3.length] rfl (fun j hj => by
    match j, hj with
    | 0, _ => exact ⟨_, r1.length, rfl, Nat.le_refl _, by simp, by unfold maxLen; omega, a1.more (by simp)⟩
    | 1, _ => exact ⟨_, r2.length, rfl, Nat.le_refl _, by simp, by unfold maxLen; omega, a2.more (by simp)⟩
    | 2, _ => exact ⟨_, r3.length, rfl, Nat.le_refl _, by simp, by unfold maxLen; omega, a3.more (by simp)⟩)
  simp only [World.size_alloc] at h
  exact ⟨h.more (by simp), ((((Below.refl _ _).alloc (by omega) _).alloc (by simp) _).alloc (by simp; omega) _).alloc (by simp; omega) _⟩
/-- A new block of one cell, as a row of the call's own. -/
theorem own_box (w : World) (t : TypeId) (v : Value) : (w.alloc (.cells #[v] t)).ownsRow w.heap.size t 1 (.slice (some ⟨w.heap.size, 0, none⟩) 1 1) 1 [v] :=
  ⟨rfl, .inr ⟨w.heap.size, 1, #[v], rfl, Nat.le_refl _, heap_alloc_new w _, Nat.le_refl _, by unfold maxLen; omega, rfl, rfl⟩⟩
end Fm
