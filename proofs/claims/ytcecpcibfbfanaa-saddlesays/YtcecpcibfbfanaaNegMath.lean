/-
  A table that is negated cell by cell: lists alone, no Go text.
-/
import Derived.Test.YtcecpcibfbfanaaPayMath
namespace Fm
set_option linter.unusedVariables false

theorem setR_at (M : List (List Int)) (i j : Nat) (l : List Int) (hi : i < M.length) : (M.set i l).getD j [] = if i = j then l else M.getD j [] := by
  rw [List.getD_eq_getElem?_getD, List.getD_eq_getElem?_getD, List.getElem?_set]
  by_cases h : i = j
  · subst h; simp [hi]
  · simp [h]
/-- The first y rows negated, and of the y-th the first x. -/
structure NegI (C N : List (List Int)) (k n y x : Nat) : Prop where
  len : N.length = k
  rows : ∀ j, j < k → (N.getD j []).length = n
  at_ : ∀ j i, j < k → i < n → ent N j i = if j < y ∨ (j = y ∧ i < x) then -ent C j i else ent C j i
theorem NegI.start {C : List (List Int)} {k n : Nat} (hl : C.length = k) (hr : ∀ j, j < k → (C.getD j []).length = n) : NegI C C k n 0 0 :=
  ⟨hl, hr, fun j i _ _ => by rw [if_neg (by omega)]⟩
theorem NegI.now {C N : List (List Int)} {k n y x : Nat} (h : NegI C N k n y x) (hy : y < k) (hx : x < n) : (N.getD y []).getD x 0 = ent C y x := by
  have := h.at_ y x hy hx
  rw [if_neg (by omega)] at this
  exact this
theorem NegI.step {C N : List (List Int)} {k n y x : Nat} (h : NegI C N k n y x) (hy : y < k) (hx : x < n) : NegI C (N.set y ((N.getD y []).set x (-ent C y x))) k n y (x + 1) := by
  have hyN : y < N.length := by rw [h.len]; exact hy
  refine ⟨by rw [List.length_set, h.len], fun j hj => ?_, fun j i hj hi => ?_⟩
  · rw [setR_at N y j _ hyN]
    by_cases e : y = j
    · subst e; rw [if_pos rfl, List.length_set]; exact h.rows y hy
    · rw [if_neg e]; exact h.rows j hj
  · unfold ent
    rw [setR_at N y j _ hyN]
    by_cases e : y = j
    · subst e
      rw [if_pos rfl, List.getD_eq_getElem?_getD, List.getElem?_set]
      by_cases e2 : x = i
      · subst e2
        rw [if_pos rfl, if_pos (by rw [h.rows y hy]; exact hx), if_pos (by omega)]
        rfl
      · rw [if_neg e2, ← List.getD_eq_getElem?_getD]
        have := h.at_ y i hy hi
        unfold ent at this
        rw [this]
        by_cases q : i < x
        · rw [if_pos (by omega), if_pos (by omega)]
        · rw [if_neg (by omega), if_neg (by omega)]
    · rw [if_neg e]
      have := h.at_ j i hj hi
      unfold ent at this
      rw [this]
      by_cases q : j < y
      · rw [if_pos (by omega), if_pos (by omega)]
      · rw [if_neg (by omega), if_neg (by omega)]
theorem NegI.next {C N : List (List Int)} {k n y : Nat} (h : NegI C N k n y n) : NegI C N k n (y + 1) 0 :=
  ⟨h.len, h.rows, fun j i hj hi => by
    rw [h.at_ j i hj hi]
    by_cases q : j < y ∨ j = y
    · rw [if_pos (by omega), if_pos (by omega)]
    · rw [if_neg (by omega), if_neg (by omega)]⟩
theorem NegI.done {r k : Nat} {M N : List (List Int)} (p : Pay r k M) (h : NegI (colsM k M) N k r k 0) : N = turnT k M := by
  have e : ∀ j i, j < k → i < r → ent N j i = -ent M i j := fun j i hj hi => by
    rw [h.at_ j i hj hi, if_pos (by omega)]
    unfold ent
    rw [colsM_at hj]
    have := colL_at (M := M) j (x := i) (by rw [p.len]; exact hi)
    rw [this]; rfl
  have pN : Pay k r N := ⟨h.len, p.k1, p.k6, p.r1, p.r6, fun l hl => by
    obtain ⟨j, hj, rfl⟩ := List.getElem_of_mem hl
    rw [h.len] at hj
    have := h.rows j hj
    rw [List.getD_eq_getElem?_getD, List.getElem?_eq_getElem (by rw [h.len]; exact hj)] at this
    exact this, fun l hl x hx => by
    obtain ⟨j, hj, rfl⟩ := List.getElem_of_mem hl
    obtain ⟨i, hi, rfl⟩ := List.getElem_of_mem hx
    rw [h.len] at hj
    have hl := h.rows j hj
    have e1 : N.getD j [] = N[j] := by rw [List.getD_eq_getElem?_getD, List.getElem?_eq_getElem (by rw [h.len]; exact hj)]; rfl
    rw [e1] at hl
    have h2 := e j i hj (by omega)
    unfold ent at h2
    rw [e1, getD_get hi] at h2
    have h3 := p.ent i j
    unfold ent at h3
    omega⟩
  exact ext_ent pN (turn_pay p) (fun j i hj hi => by rw [e j i hj hi, turnT_ent p hi hj])
end Fm
