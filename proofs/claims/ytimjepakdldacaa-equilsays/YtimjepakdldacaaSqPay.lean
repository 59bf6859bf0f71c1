/-
  A table of r rows of k, cell by cell; rows that a call has made and puts one behind the other: over any program.
-/
import Derived.Test.YtimjepakdldacaaPureA
import Derived.Test.YtimjepakdldacaaPayMath
namespace Fm
open Go Go.RowKit
set_option linter.unusedVariables false

def SqP (w : World) (B b o r k : Nat) (M : List (List Int)) : Prop := ∀ x, x < r → ∃ b' o' c', b' < B ∧ w.cell? ⟨b, o + x, none⟩ = some (.slice (some ⟨b', o', none⟩) k c') ∧ k ≤ c' ∧ c' ≤ maxLen ∧ ∀ y, y < k → w.cell? ⟨b', o' + y, none⟩ = some (.int .i64 (ent M x y))
section
variable {w w' : World} {B b o r k n : Nat} {a : Option Addr} {M : List (List Int)}
theorem SqP.below (h : SqP w B b o r k M) {B' : Nat} (hb : Below B' w w') (hB : B ≤ B') (hbB : b < B) : SqP w' B b o r k M := fun x hx => by
  obtain ⟨b', o', c', h1, h2, h3, h4, h5⟩ := h x hx
  exact ⟨b', o', c', h1, (hb.cell (by show b < _; omega)).trans h2, h3, h4, fun y hy => (hb.cell (by show b' < _; omega)).trans (h5 y hy)⟩
theorem SqP.drewN (h : SqP w B b o r k M) (d : Nat) : SqP (w.drewN d) B b o r k M := h
theorem rdr_sqP (h : RdR w B a n M) (p : Pay r k M) : n = r ∧ ∃ b o, a = some ⟨b, o, none⟩ ∧ b < B ∧ SqP w B b o r k M := by
  have hl := h.1
  have hn : n = r := by rw [← hl, p.len]
  subst hn
  obtain ⟨b, o, e, hb, hc⟩ := h.2 p.r1
  refine ⟨rfl, b, o, e, hb, fun x hx => ?_⟩
  obtain ⟨a', c', h1, h2, _, h3, h4⟩ := hc x hx
  rw [p.row hx] at h1 h2 h4
  obtain ⟨b', o', rfl, hb', hcc⟩ := h4.2 p.k1
  exact ⟨b', o', c', hb', h1, h2, h3, hcc⟩
theorem Apart.snoc {vs : List Value} {u : Value} (h : Apart vs) (hu : ∀ z, z ∈ vs → z.ownBlock = none ∨ z.ownBlock ≠ u.ownBlock) : Apart (vs ++ [u]) := by
  intro i j y z hy hz hij
  by_cases hi : i < vs.length
  · rw [List.getElem?_append_left hi] at hy
    by_cases hj : j < vs.length
    · rw [List.getElem?_append_left hj] at hz
      exact h i j y z hy hz hij
    · rw [List.getElem?_append_right (by omega)] at hz
      have e : z = u := by
        have : j - vs.length = 0 := by
          by_cases q : j - vs.length = 0
          · exact q
          · rw [List.getElem?_eq_none (by simp; omega)] at hz; cases hz
        rw [this] at hz
        simpa using hz.symm
      subst e
      exact hu y (List.mem_of_getElem? hy)
  · rw [List.getElem?_append_right (by omega)] at hy
    have e1 : i - vs.length = 0 := by
      by_cases q : i - vs.length = 0
      · exact q
      · rw [List.getElem?_eq_none (by simp; omega)] at hy; cases hy
    rw [e1] at hy
    have e : y = u := by simpa using hy.symm
    subst e
    by_cases hj : j < vs.length
    · rw [List.getElem?_append_left hj] at hz
      rcases hu z (List.mem_of_getElem? hz) with q | q
      · by_cases q2 : y.ownBlock = none
        · exact .inl q2
        · right; rw [q]; exact q2
      · exact .inr (fun e => q e.symm)
    · rw [List.getElem?_append_right (by omega)] at hz
      have : j - vs.length = 0 := by
        by_cases q : j - vs.length = 0
        · exact q
        · rw [List.getElem?_eq_none (by simp; omega)] at hz; cases hz
      omega
/-- A row that the call has made since w0 is put behind those of w0. -/
theorem Mat.snoc {w0 : World} {e2 e : TypeId} {v : Value} {vs : List Value} (h0 : w0.ownsRow B e2 1 v M.length vs) (hel : Elems w0 B e vs M) (hap : Apart vs) (hne : e2 ≠ e) (hb : Below w0.heap.size w0 w) {u : Value} {l : List Int}
    (hu : w.ownsRow w0.heap.size e 1 u l.length (I l)) (hB : B ≤ w0.heap.size) (gr : w.grownBy w' v.ownBlock) {g cap : Nat} (row : w'.ownsRow B e2 1 (.slice (some ⟨g, 0, none⟩) (M.length + 1) cap) (M.length + 1) (vs ++ [u])) :
    Mat w' B e2 e (.slice (some ⟨g, 0, none⟩) (M.length + 1) cap) (M ++ [l]) := by
  have h1 := own_below h0 hb (Nat.le_refl _)
  have hel1 := hel.below hb (Nat.le_refl _)
  have hkind : ∀ z, v.ownBlock = some z → z < B ∨ ∃ c t, w.heap[z]? = some (.cells c t (0, 0)) ∧ t ≠ e := fun z hz => by
    obtain ⟨c, hc⟩ := own_kind h1 hz
    exact .inr ⟨c, _, hc, hne⟩
  have hel2 := hel1.kept gr hkind
  have hu2 := hu.kept gr (own_far h1 hu hne)
  refine ⟨vs ++ [u], by rw [List.length_append]; exact row, hel2.snoc (own_mono hu2 hB), hap.snoc (fun z hz => ?_)⟩
  obtain ⟨j, hj, rfl⟩ := List.getElem_of_mem hz
  have hzj := List.getElem?_eq_getElem hj
  cases hzb : (vs[j]).ownBlock with
  | none => exact .inl rfl
  | some q =>
    right
    intro he
    have a1 := ((hel.2 j _ hzj).lt q hzb).2
    have a2 := (hu.lt q he.symm).1
    omega
end
end Fm
