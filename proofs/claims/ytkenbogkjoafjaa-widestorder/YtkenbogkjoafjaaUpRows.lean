/-
  A table that is laid row by row, and cell by cell: lists alone, no Go text.
-/
import Derived.Test.YtkenbogkjoafjaaPureA
namespace Fm
set_option linter.unusedVariables false
/-- The first x rows, the first j cells of the next one, no cell of the others. -/
def rowsUp (P : List (List Int)) (n x j : Nat) : List (List Int) := P.take x ++ (P.getD x []).take j :: List.replicate (n - x - 1) []
def rowsAt (P : List (List Int)) (n x : Nat) : List (List Int) := P.take x ++ List.replicate (n - x) []
theorem rowsAt_zero (P : List (List Int)) (n : Nat) : List.replicate n [] = rowsAt P n 0 := by simp [rowsAt]
theorem rowsAt_up (P : List (List Int)) {n x : Nat} (hx : x < n) : rowsAt P n x = rowsUp P n x 0 := by
  unfold rowsAt rowsUp
  have e : n - x = (n - x - 1) + 1 := by omega
  rw [e, List.replicate_succ]
  simp
theorem rowsUp_len {P : List (List Int)} {n x : Nat} (hP : P.length = n) (hx : x < n) (j : Nat) : (rowsUp P n x j).length = n := by
  unfold rowsUp; simp [hP]; omega
theorem rowsUp_at {P : List (List Int)} {n x : Nat} (hP : P.length = n) (hx : x < n) (j : Nat) : (rowsUp P n x j).getD x [] = (P.getD x []).take j := by
  unfold rowsUp
  have hl : (P.take x).length = x := by simp [hP]; omega
  rw [List.getD_eq_getElem?_getD, List.getElem?_append_right (by omega), hl, Nat.sub_self]
  simp
theorem rowsUp_set {P : List (List Int)} {n x : Nat} (hP : P.length = n) (hx : x < n) (j j' : Nat) : (rowsUp P n x j).set x ((P.getD x []).take j') = rowsUp P n x j' := by
  unfold rowsUp
  have hl : (P.take x).length = x := by simp [hP]; omega
  rw [List.set_append_right _ _ (by omega), hl, Nat.sub_self, List.set_cons_zero]
theorem rowsUp_next {P : List (List Int)} {n x : Nat} (hP : P.length = n) (hx : x < n) (hr : (P.getD x []).length ≤ n) : rowsUp P n x n = rowsAt P n (x + 1) := by
  unfold rowsUp rowsAt
  rw [List.take_of_length_le hr, List.take_succ_eq_append_getElem (by omega), List.getD_eq_getElem?_getD, List.getElem?_eq_getElem (by omega), List.append_assoc, Nat.sub_sub]
  rfl
theorem rowsAt_end {P : List (List Int)} {n : Nat} (hP : P.length = n) : rowsAt P n n = P := by
  unfold rowsAt; rw [Nat.sub_self, List.take_of_length_le (by omega)]; simp
end Fm
