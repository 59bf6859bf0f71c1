/-
  Words of our own on a matrix of ints that a call has made (rows of its own, no two in one block), over any program.
-/
import Derived.Test.YtbpenheomiejfaaRows2
namespace Fm
open Go Go.RowKit
set_option linter.unusedVariables false

def Apart (vs : List Value) : Prop := ∀ (i j : Nat) (u v : Value), vs[i]? = some u → vs[j]? = some v → i ≠ j → u.ownBlock = none ∨ u.ownBlock ≠ v.ownBlock

/-- v is a slice of slices of the call's own that reads as M; no two of its rows lie in one block. -/
def Mat (w : World) (B : Nat) (e2 e : TypeId) (v : Value) (M : List (List Int)) : Prop :=
  ∃ vs, w.ownsRow B e2 1 v M.length vs ∧ Elems w B e vs M ∧ Apart vs

theorem getElem?_set_ne {α : Type} (l : List α) {i j : Nat} (h : i ≠ j) (x : α) : (l.set i x)[j]? = l[j]? := by rw [List.getElem?_set, if_neg h]
theorem getD_setR (M : List (List Int)) (i j : Nat) (l : List Int) (hi : i < M.length) : (M.set i l).getD j [] = if i = j then l else M.getD j [] := by
  rw [List.getD_eq_getElem?_getD, List.getD_eq_getElem?_getD, List.getElem?_set]
  by_cases h : i = j
  · subst h; simp [hi]
  · simp [h]

section
variable {w w' : World} {B : Nat} {e2 e : TypeId} {v : Value} {M : List (List Int)}
theorem Mat.below (h : Mat w B e2 e v M) {B' : Nat} (hb : Below B' w w') (hB : w.heap.size ≤ B') : Mat w' B e2 e v M := by
  obtain ⟨vs, h1, h2, h3⟩ := h
  exact ⟨vs, own_below h1 hb hB, h2.below hb hB, h3⟩
theorem Mat.drewN (h : Mat w B e2 e v M) (k : Nat) : Mat (w.drewN k) B e2 e v M := h
theorem Mat.mono (h : Mat w B e2 e v M) {B' : Nat} (hb : B' ≤ B) : Mat w B' e2 e v M := by
  obtain ⟨vs, h1, h2, h3⟩ := h
  exact ⟨vs, own_mono h1 hb, h2.mono hb, h3⟩
theorem Mat.rd {a : Option Addr} {n c : Nat} (h : Mat w B e2 e (.slice a n c) M) (hn : M.length = n) : RdR w w.heap.size a n M := by
  obtain ⟨vs, h1, h2, h3⟩ := h
  subst hn
  exact RdR.of_own h1 rfl h2
theorem Mat.form (h : Mat w B e2 e v M) (hn : 0 < M.length) : ∃ g cap, v = .slice (some ⟨g, 0, none⟩) M.length cap ∧ B ≤ g ∧ g < w.heap.size ∧ M.length ≤ cap ∧ cap ≤ maxLen := by
  obtain ⟨vs, h1, _⟩ := h
  obtain ⟨g, cap, rfl, h2, h3⟩ := h1.form hn
  refine ⟨g, cap, rfl, h2, h3, ?_⟩
  rcases h1.2 with ⟨h, _⟩ | ⟨g', cap', cur, h, _, _, h5, h6, _⟩
  · cases h
  · injection h with _ _ h; subst h; exact ⟨h5, h6⟩
/-- The x-th row: where it stands, and that it is one of the call's own. -/
theorem Mat.row {g n cap : Nat} (h : Mat w B e2 e (.slice (some ⟨g, 0, none⟩) n cap) M) (hn : M.length = n) {x : Nat} (hx : x < n) :
    ∃ u, w.cell? ⟨g, x, none⟩ = some u ∧ w.frozen? ⟨g, x, none⟩ = false ∧ w.ownsRow B e 1 u (M.getD x []).length (I (M.getD x [])) := by
  obtain ⟨vs, h1, h2, _⟩ := h
  subst hn
  obtain ⟨u, hu, ho⟩ := h2.at_ hx
  exact ⟨u, by rw [h1.cellAt x (by omega)]; exact hu, h1.frozenAt x, ho⟩

/-- A row that has just been made is put in the x-th place. -/
theorem Mat.setRow {g n cap : Nat} (h : Mat w B e2 e (.slice (some ⟨g, 0, none⟩) n cap) M) (hn : M.length = n) {x : Nat} (hx : x < n) (hne : e2 ≠ e) (hb : Below w.heap.size w w') {u : Value} {l : List Int}
    (hu : w'.ownsRow w.heap.size e 1 u l.length (I l)) (hB : B ≤ w.heap.size) : Mat (w'.setCell ⟨g, x, none⟩ u) B e2 e (.slice (some ⟨g, 0, none⟩) n cap) (M.set x l) ∧ w'.grownBy (w'.setCell ⟨g, x, none⟩ u) (some g) := by
  obtain ⟨vs, h1, h2, h3⟩ := h
  subst hn
  have h1' := own_below h1 hb (Nat.le_refl _)
  have h2' := h2.below hb (Nat.le_refl _)
  obtain ⟨s1, s2⟩ := h1'.stored x u
  have hgk := own_kind h1' (g := g) rfl
  refine ⟨⟨vs.set x u, by simpa using s1, ⟨by simp [h2.1], fun j y hy => ?_⟩, fun i j y z hy hz hij => ?_⟩, s2⟩
  · rw [getD_setR M x j l hx]
    by_cases hxj : x = j
    · subst hxj
      rw [List.getElem?_set_self (by rw [h2.1]; exact hx)] at hy
      injection hy with hy
      subst hy
      rw [if_pos rfl]
      exact own_mono (hu.kept s2 (own_far h1' hu hne)) hB
    · rw [getElem?_set_ne vs hxj] at hy
      rw [if_neg hxj]
      have ho := h2'.2 j y hy
      exact ho.kept s2 (own_far h1' ho hne)
  · by_cases hxi : x = i
    · subst hxi
      rw [List.getElem?_set_self (by rw [h2.1]; exact hx)] at hy
      injection hy with hy
      subst hy
      rw [getElem?_set_ne vs hij] at hz
      cases hub : u.ownBlock with
      | none => exact .inl rfl
      | some k =>
        right
        intro he
        have a1 := (hu.lt k hub).1
        have a2 := ((h2.2 j z hz).lt k he.symm).2
        omega
    · rw [getElem?_set_ne vs hxi] at hy
      by_cases hxj : x = j
      · subst hxj
        rw [List.getElem?_set_self (by rw [h2.1]; exact hx)] at hz
        injection hz with hz
        subst hz
        cases hyb : y.ownBlock with
        | none => exact .inl rfl
        | some k =>
          right
          intro he
          have a1 := (hu.lt k he.symm).1
          have a2 := ((h2.2 i y hy).lt k hyb).2
          omega
      · rw [getElem?_set_ne vs hxj] at hz
        exact h3 i j y z hy hz hij

/-- A cell of the x-th row is written. -/
theorem Mat.setCell {g n cap g' m cap' : Nat} (h : Mat w B e2 e (.slice (some ⟨g, 0, none⟩) n cap) M) (hn : M.length = n) {x : Nat} (hx : x < n) (hne : e2 ≠ e) (hm : (M.getD x []).length = m)
    (hc : w.cell? ⟨g, x, none⟩ = some (.slice (some ⟨g', 0, none⟩) m cap')) (y : Nat) (z : Int) :
    Mat (w.setCell ⟨g', y, none⟩ (.int .i64 z)) B e2 e (.slice (some ⟨g, 0, none⟩) n cap) (M.set x ((M.getD x []).set y z)) ∧ w.grownBy (w.setCell ⟨g', y, none⟩ (.int .i64 z)) (some g') := by
  obtain ⟨vs, h1, h2, h3⟩ := h
  subst hn
  obtain ⟨u, hu, ho⟩ := h2.at_ hx
  have hcu : some u = some (.slice (some ⟨g', 0, none⟩) m cap') := by rw [← hu, ← h1.cellAt x (by omega)]; exact hc
  injection hcu with hcu
  subst hcu
  rw [hm] at ho
  obtain ⟨s1, s2⟩ := ho.stored y (.int .i64 z)
  have es : (I (M.getD x [])).set y (.int .i64 z) = I ((M.getD x []).set y z) := by unfold I; rw [List.map_set]
  rw [es] at s1
  refine ⟨⟨vs, ?_, ⟨by simp [h2.1], fun j u hu' => ?_⟩, h3⟩, s2⟩
  · have hk := h1.kept s2 (own_far ho h1 (Ne.symm hne))
    simpa using hk
  · rw [getD_setR M x j _ hx]
    by_cases hxj : x = j
    · subst hxj
      rw [hu] at hu'
      injection hu' with hu'
      subst hu'
      rw [if_pos rfl]
      have el : ((M.getD x []).set y z).length = m := by rw [List.length_set, hm]
      rw [el]
      exact s1
    · rw [if_neg hxj]
      have hj := h2.2 j u hu'
      refine hj.kept s2 ?_
      have := h3 j x u _ hu' hu (Ne.symm hxj)
      exact this
/-- n rows, all nil: as make lays them. -/
def nils (n : Nat) : Array Value := (List.replicate n (Value.slice none 0 0)).toArray
theorem madeCells_nils (n : Nat) : madeCells (Value.slice none 0 0).cells n = nils n := by
  apply Array.ext'
  have h := toList_madeCells_one (.slice none 0 0) n
  have e : (Value.slice none 0 0).cells = #[.slice none 0 0] := rfl
  rw [e, h]
  simp [nils]
theorem Mat.made (w : World) (e2 e : TypeId) (n : Nat) (hn : n ≤ maxLen) : Mat (w.alloc (.cells (nils n) e2)) w.heap.size e2 e (.slice (some ⟨w.heap.size, 0, none⟩) n n) (List.replicate n []) := by
  refine ⟨List.replicate n (.slice none 0 0), ⟨by simp, .inr ⟨w.heap.size, n, nils n, by simp, Nat.le_refl _, heap_alloc_new w _, by simp, hn, by simp [nils], by simp [nils]⟩⟩, ⟨by simp, fun j v hv => ?_⟩, fun i j u v hu hv hij => ?_⟩
  · rw [List.getElem?_replicate] at hv
    split at hv
    · injection hv with hv; subst hv
      rename_i hj
      have e1 : (List.replicate n ([] : List Int)).getD j [] = [] := by simp [List.getD_eq_getElem?_getD, hj]
      rw [e1]
      exact World.ownsRow_nil _ _ _ _
    · cases hv
  · rw [List.getElem?_replicate] at hu
    split at hu
    · injection hu with hu; subst hu; exact .inl rfl
    · cases hu
end
end Fm
