/-
  A row of a matrix that the call has made is made longer by one: over any program.
-/
import Derived.Test.YtkenbogkjoafjaaPureA
namespace Fm
open Go Go.RowKit
set_option linter.unusedVariables false

theorem Mat.pushRow {w w' : World} {B : Nat} {e2 e : TypeId} {M : List (List Int)} {g n cap : Nat} (h : Mat w B e2 e (.slice (some ⟨g, 0, none⟩) n cap) M) (hn : M.length = n) {x : Nat} (hx : x < n) (hne : e2 ≠ e) {u : Value} (hc : w.cell? ⟨g, x, none⟩ = some u)
    (hg : w.grownBy w' u.ownBlock) {g' m cap' : Nat} {l : List Int} (hu : w'.ownsRow B e 1 (.slice (some ⟨g', 0, none⟩) m cap') m (I l)) (hl : l.length = m) (hor : u.ownBlock = some g' ∨ w.heap.size < g') :
    Mat (w'.setCell ⟨g, x, none⟩ (.slice (some ⟨g', 0, none⟩) m cap')) B e2 e (.slice (some ⟨g, 0, none⟩) n cap) (M.set x l) ∧ w'.grownBy (w'.setCell ⟨g, x, none⟩ (.slice (some ⟨g', 0, none⟩) m cap')) (some g) ∧
      w'.cell? ⟨g, x, none⟩ = some u ∧ w'.frozen? ⟨g, x, none⟩ = false := by
  obtain ⟨vs, h1, h2, h3⟩ := h
  subst hn
  obtain ⟨v, hv, ho⟩ := h2.at_ hx
  have hcu : some v = some u := by rw [← hv, ← h1.cellAt x (by omega)]; exact hc
  injection hcu with hcu
  subst hcu
  have h1' := h1.kept hg (own_far ho h1 (Ne.symm hne))
  have others : ∀ j y, vs[j]? = some y → j ≠ x → w'.ownsRow B e 1 y (M.getD j []).length (I (M.getD j [])) := fun j y hy hj => (h2.2 j y hy).kept hg (h3 j x y _ hy hv hj)
  obtain ⟨s1, s2⟩ := h1'.stored x (.slice (some ⟨g', 0, none⟩) m cap')
  subst hl
  refine ⟨⟨vs.set x _, by simpa using s1, ⟨by simp [h2.1], fun j y hy => ?_⟩, fun i j y z hy hz hij => ?_⟩, s2, by rw [h1'.cellAt x (by omega)]; exact hv, h1'.frozenAt x⟩
  · rw [getD_setR M x j l hx]
    by_cases hxj : x = j
    · subst hxj
      rw [List.getElem?_set_self (by rw [h2.1]; exact hx)] at hy
      injection hy with hy
      subst hy
      rw [if_pos rfl]
      exact hu.kept s2 (own_far h1' hu hne)
    · rw [getElem?_set_ne vs hxj] at hy
      rw [if_neg hxj]
      have hj := others j y hy (Ne.symm hxj)
      exact hj.kept s2 (own_far h1' hj hne)
  · have apart : ∀ j z, vs[j]? = some z → j ≠ x → z.ownBlock ≠ some g' := fun j z hz hj he => by
      rcases hor with hor | hor
      · rcases h3 j x z _ hz hv hj with h | h
        · rw [h] at he; cases he
        · exact h (by rw [he, hor])
      · have := ((h2.2 j z hz).lt g' he).2
        omega
    by_cases hxi : x = i
    · subst hxi
      rw [List.getElem?_set_self (by rw [h2.1]; exact hx)] at hy
      injection hy with hy
      subst hy
      rw [getElem?_set_ne vs hij] at hz
      exact .inr (fun he => apart j z hz (Ne.symm hij) he.symm)
    · rw [getElem?_set_ne vs hxi] at hy
      by_cases hxj : x = j
      · subst hxj
        rw [List.getElem?_set_self (by rw [h2.1]; exact hx)] at hz
        injection hz with hz
        subst hz
        exact .inr (fun he => apart i y hy hij he)
      · rw [getElem?_set_ne vs hxj] at hz
        exact h3 i j y z hy hz hij
end Fm
