/-
  What plumeref.WinsOf counts: lists of ints alone, no Go text.
-/
import Derived.Test.YtbpenheomiejfaaTallyMath
namespace Fm
set_option linter.unusedVariables false

def sg (d : Int) : Int := if 0 < d then 1 else if d < 0 then -1 else 0
def ent (M : List (List Int)) (x y : Nat) : Int := (M.getD x []).getD y 0
/-- Duels won less duels lost against the first j; the greatest defeat by one of them. -/
def winTo (M : List (List Int)) (x : Nat) : Nat → Int
  | 0 => 0
  | j + 1 => winTo M x j + sg (ent M x j - ent M j x)
def worstTo (M : List (List Int)) (x : Nat) : Nat → Int
  | 0 => 0
  | j + 1 => max (worstTo M x j) (-(ent M x j - ent M j x))
theorem winTo_bd (M : List (List Int)) (x j : Nat) : -(j : Int) ≤ winTo M x j ∧ winTo M x j ≤ j := by
  induction j with
  | zero => simp [winTo]
  | succ j ih =>
    have h : -1 ≤ sg (ent M x j - ent M j x) ∧ sg (ent M x j - ent M j x) ≤ 1 := by
      unfold sg; split
      · omega
      · split <;> omega
    simp only [winTo]
    omega
theorem worstTo_nonneg (M : List (List Int)) (x j : Nat) : 0 ≤ worstTo M x j := by
  induction j with
  | zero => simp [worstTo]
  | succ j ih => simp only [worstTo]; omega
def winsL (n : Nat) (M : List (List Int)) : List Int := (sides n).map fun x => winTo M x.toNat n
def worstL (n : Nat) (M : List (List Int)) : List Int := (sides n).map fun x => worstTo M x.toNat n
/-- The first k by f, the k-th is v, the others 0. -/
def upL (n : Nat) (f : Nat → Int) (k : Nat) (v : Int) : List Int := (sides n).map fun (x : Int) => if x < (k : Int) then f x.toNat else if x = (k : Int) then v else 0
theorem upL_len (n : Nat) (f : Nat → Int) (k : Nat) (v : Int) : (upL n f k v).length = n := by simp [upL, sides_len]
theorem upL_at (n : Nat) (f : Nat → Int) {k : Nat} (v : Int) (h : k < n) : (upL n f k v).getD k 0 = v := by
  unfold upL; rw [map_sides_getD n _ h, if_neg (by omega), if_pos rfl]
theorem upL_set (n : Nat) (f : Nat → Int) {k : Nat} (v v' : Int) (h : k < n) : (upL n f k v).set k v' = upL n f k v' := by
  unfold upL
  refine map_sides_set n _ _ k h _ ?_ (fun y hy => ?_)
  · show (if (k : Int) < k then _ else if (k : Int) = k then _ else _) = _
    rw [if_neg (by omega), if_pos rfl]
  · by_cases h1 : y < (k : Int)
    · rw [if_pos h1, if_pos h1]
    · rw [if_neg h1, if_neg h1, if_neg hy, if_neg hy]
theorem upL_next (n : Nat) (f : Nat → Int) (k : Nat) : upL n f k (f k) = upL n f (k + 1) 0 := by
  unfold upL
  refine map_sides_congr n (fun y hy => ?_)
  by_cases h1 : (y : Int) < k
  · rw [if_pos h1, if_pos (by omega)]
  · by_cases h2 : (y : Int) = k
    · rw [if_neg h1, if_pos h2, if_pos (by omega)]
      have : y = k := by omega
      subst this; simp
    · rw [if_neg h1, if_neg h2, if_neg (by omega)]
      split <;> rfl
theorem upL_zero (n : Nat) (f : Nat → Int) : List.replicate n 0 = upL n f 0 0 := by
  unfold upL
  apply List.ext_getElem
  · simp [sides_len]
  · intro i h1 h2
    have hi : i < n := by simpa using h1
    rw [List.getElem_replicate, List.getElem_map, ← getD_get (by rw [sides_len]; exact hi), sides_getD hi, if_neg (by omega)]
    split <;> rfl
theorem upL_end (n : Nat) (f : Nat → Int) (v : Int) : upL n f n v = (sides n).map fun x => f x.toNat := by
  unfold upL
  refine map_sides_congr n (fun y hy => ?_)
  rw [if_pos (by omega)]
end Fm
