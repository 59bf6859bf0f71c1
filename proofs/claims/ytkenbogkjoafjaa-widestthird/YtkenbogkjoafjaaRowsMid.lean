/-
  A table that is laid row by row, the row at hand whatever it holds: lists alone, no Go text.
-/
import Derived.Test.YtkenbogkjoafjaaUpRows
import Derived.Test.YtkenbogkjoafjaaFwMath
namespace Fm
set_option linter.unusedVariables false
/-- The first x rows, the row r, no cell of the others. -/
def rowsMid (P : List (List Int)) (n x : Nat) (r : List Int) : List (List Int) := P.take x ++ r :: List.replicate (n - x - 1) []
theorem rowsAt_len {P : List (List Int)} {n x : Nat} (hP : P.length = n) (hx : x ≤ n) : (rowsAt P n x).length = n := by
  unfold rowsAt; simp [hP]; omega
theorem rowsAt_set {P : List (List Int)} {n x : Nat} (hP : P.length = n) (hx : x < n) (r : List Int) : (rowsAt P n x).set x r = rowsMid P n x r := by
  unfold rowsAt rowsMid
  have hl : (P.take x).length = x := by simp [hP]; omega
  have e : n - x = (n - x - 1) + 1 := by omega
  rw [e, List.replicate_succ, List.set_append_right _ _ (by omega), hl, Nat.sub_self, List.set_cons_zero]
  simp
theorem rowsMid_len {P : List (List Int)} {n x : Nat} (hP : P.length = n) (hx : x < n) (r : List Int) : (rowsMid P n x r).length = n := by
  unfold rowsMid; simp [hP]; omega
theorem rowsMid_at {P : List (List Int)} {n x : Nat} (hP : P.length = n) (hx : x < n) (r : List Int) : (rowsMid P n x r).getD x [] = r := by
  unfold rowsMid
  have hl : (P.take x).length = x := by simp [hP]; omega
  rw [List.getD_eq_getElem?_getD, List.getElem?_append_right (by omega), hl, Nat.sub_self]
  simp
theorem rowsMid_set {P : List (List Int)} {n x : Nat} (hP : P.length = n) (hx : x < n) (r r' : List Int) : (rowsMid P n x r).set x r' = rowsMid P n x r' := by
  unfold rowsMid
  have hl : (P.take x).length = x := by simp [hP]; omega
  rw [List.set_append_right _ _ (by omega), hl, Nat.sub_self, List.set_cons_zero]
theorem rowsMid_next {P : List (List Int)} {n x : Nat} (hP : P.length = n) (hx : x < n) {r : List Int} (hr : P.getD x [] = r) : rowsMid P n x r = rowsAt P n (x + 1) := by
  unfold rowsMid rowsAt
  rw [← hr, List.take_succ_eq_append_getElem (by omega), List.getD_eq_getElem?_getD, List.getElem?_eq_getElem (by omega), List.append_assoc, Nat.sub_sub]
  rfl
/-- The row x of the single steps, as far as y. -/
def stepL (n : Nat) (M : List (List Int)) (x y : Nat) : List Int := fnL n (stp M y x)
theorem stepL_len (n : Nat) (M : List (List Int)) (x y : Nat) : (stepL n M x y).length = n := fnL_len _ _
theorem stepL_zero (n : Nat) (M : List (List Int)) (x : Nat) : List.replicate n 0 = stepL n M x 0 := by
  rw [zeroL]; exact fnL_congr n (fun j hj => by unfold stp; rw [if_neg (by omega)])
theorem stepL_at {n : Nat} {M : List (List Int)} {x y : Nat} (hy : y < n) : (stepL n M x y).getD y 0 = 0 := by
  unfold stepL; rw [fnL_at n _ hy]; unfold stp; rw [if_neg (by omega)]
theorem stepL_yes {n : Nat} {M : List (List Int)} {x y : Nat} (hy : y < n) (h : ent M y x < ent M x y) : (stepL n M x y).set y (ent M x y) = stepL n M x (y + 1) := by
  unfold stepL
  rw [fnL_set n _ hy]
  refine fnL_congr n (fun j hj => ?_)
  unfold stp
  by_cases e : (j : Int) = y
  · have : j = y := by omega
    subst this
    rw [if_pos rfl, if_pos (by omega)]
    simp [fw, h]
  · rw [if_neg e]
    by_cases h2 : (j : Int) < y
    · rw [if_pos h2, if_pos (by omega)]
    · rw [if_neg h2, if_neg (by omega)]
theorem stepL_no {n : Nat} {M : List (List Int)} {x y : Nat} (h : ¬ ent M y x < ent M x y) : stepL n M x y = stepL n M x (y + 1) := by
  unfold stepL
  refine fnL_congr n (fun j hj => ?_)
  unfold stp
  by_cases h2 : (j : Int) < y
  · rw [if_pos h2, if_pos (by omega)]
  · rw [if_neg h2]
    by_cases e : (j : Int) < (y + 1 : Nat)
    · rw [if_pos e]
      have : j = y := by omega
      subst this
      simp [fw, h]
    · rw [if_neg e]
theorem stepL_end {n : Nat} {M : List (List Int)} {x : Nat} (hx : x < n) : (fwM n M 0).getD x [] = stepL n M x n := by
  unfold fwM stepL
  rw [fnM_at n _ hx]
  refine fnL_congr n (fun j hj => ?_)
  unfold stp
  rw [if_pos (by omega)]
  simp
theorem fwM_len (n : Nat) (M : List (List Int)) (k : Nat) : (fwM n M k).length = n := fnM_len _ _
end Fm
