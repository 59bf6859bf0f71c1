/-
  Rows and square tables given by a function on 0 .. n-1: lists of ints alone, no Go text.
-/
import Derived.Test.YtbpenheomiejfaaBeatMath
namespace Fm
set_option linter.unusedVariables false

def fnL (n : Nat) (f : Int → Int) : List Int := (sides n).map f
def fnM (n : Nat) (f : Int → Int → Int) : List (List Int) := (sides n).map fun x => fnL n (f x)
theorem fnL_len (n : Nat) (f : Int → Int) : (fnL n f).length = n := by simp [fnL, sides_len]
theorem fnM_len (n : Nat) (f : Int → Int → Int) : (fnM n f).length = n := by simp [fnM, sides_len]
theorem fnL_at (n : Nat) (f : Int → Int) {j : Nat} (h : j < n) : (fnL n f).getD j 0 = f j := map_sides_getD n f h
theorem sides_get {n j : Nat} (h : j < (sides n).length) : (sides n)[j] = (j : Int) := by
  rw [← getD_get h, sides_getD (by rwa [sides_len] at h)]
theorem fnM_at (n : Nat) (f : Int → Int → Int) {j : Nat} (h : j < n) : (fnM n f).getD j [] = fnL n (f j) := by
  unfold fnM
  rw [List.getD_eq_getElem?_getD, List.getElem?_map, List.getElem?_eq_getElem (by rw [sides_len]; exact h)]
  simp [sides_get]
theorem fnM_rows {n : Nat} {f : Int → Int → Int} {l : List Int} (h : l ∈ fnM n f) : l.length = n := by
  unfold fnM at h
  rw [List.mem_map] at h
  obtain ⟨x, _, rfl⟩ := h
  exact fnL_len n _
theorem fnM_ent (n : Nat) (f : Int → Int → Int) {x y : Nat} (hx : x < n) (hy : y < n) : ent (fnM n f) x y = f x y := by
  unfold ent; rw [fnM_at n f hx, fnL_at n _ hy]
theorem fnL_congr (n : Nat) {f g : Int → Int} (h : ∀ j : Nat, j < n → f j = g j) : fnL n f = fnL n g := map_sides_congr n h
theorem fnM_congr (n : Nat) {f g : Int → Int → Int} (h : ∀ x y : Nat, x < n → y < n → f x y = g x y) : fnM n f = fnM n g := by
  unfold fnM
  apply List.map_congr_left
  intro x hx
  have hx := mem_sides.1 hx
  refine fnL_congr n (fun y hy => ?_)
  have := h x.toNat y (by omega) hy
  rwa [show ((x.toNat : Nat) : Int) = x by omega] at this
theorem fnL_set (n : Nat) (f : Int → Int) {j : Nat} (hj : j < n) (z : Int) : (fnL n f).set j z = fnL n (fun b => if b = (j : Int) then z else f b) := by
  unfold fnL
  exact map_sides_set n _ _ j hj z (by simp) (fun y hy => by rw [if_neg hy])
theorem fnM_setR (n : Nat) (f : Int → Int → Int) {x : Nat} (hx : x < n) (g : Int → Int) : (fnM n f).set x (fnL n g) = fnM n (fun a => if a = (x : Int) then g else f a) := by
  unfold fnM
  apply List.ext_getElem
  · simp
  · intro i h1 h2
    rw [List.getElem_set, List.getElem_map, List.getElem_map, sides_get]
    by_cases e : x = i
    · subst e; simp
    · rw [if_neg e]
      have h : ¬ (i : Int) = x := by omega
      simp [h]
theorem fnM_set (n : Nat) (f : Int → Int → Int) {x y : Nat} (hx : x < n) (hy : y < n) (z : Int) :
    (fnM n f).set x (((fnM n f).getD x []).set y z) = fnM n (fun a b => if a = (x : Int) ∧ b = (y : Int) then z else f a b) := by
  rw [fnM_at n f hx, fnL_set n _ hy, fnM_setR n f hx]
  refine fnM_congr n (fun a b ha hb => ?_)
  by_cases h : (a : Int) = x
  · by_cases h2 : (b : Int) = y
    · simp [h, h2]
    · simp [h, h2]
  · simp [h]
theorem zeroL (n : Nat) : List.replicate n (0 : Int) = fnL n (fun _ => 0) := by
  unfold fnL
  apply List.ext_getElem
  · simp [sides_len]
  · intro i h1 h2; simp
/-- k rows of zeros, the others not there yet. -/
def zerosM (n k : Nat) : List (List Int) := List.replicate k (List.replicate n 0) ++ List.replicate (n - k) []
theorem zerosM_zero (n : Nat) : List.replicate n [] = zerosM n 0 := by simp [zerosM]
theorem zerosM_len {n k : Nat} (h : k ≤ n) : (zerosM n k).length = n := by simp [zerosM]; omega
theorem zerosM_set {n k : Nat} (h : k < n) : (zerosM n k).set k (List.replicate n 0) = zerosM n (k + 1) := by
  unfold zerosM
  rw [List.set_append_right _ _ (by simp), show n - k = (n - (k + 1)) + 1 by omega, List.replicate_succ (n := n - (k + 1)), List.replicate_succ' (n := k)]
  simp
theorem zerosM_end (n : Nat) : zerosM n n = fnM n (fun _ _ => 0) := by
  unfold zerosM fnM
  rw [zeroL]
  apply List.ext_getElem
  · simp [sides_len]
  · intro i h1 h2; simp
end Fm
